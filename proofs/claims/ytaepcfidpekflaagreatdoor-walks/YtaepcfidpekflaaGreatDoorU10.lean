/-
  Several texts in one (Mh, Sh). By the verifier.
-/
import Derived.Test.YtaepcfidpekflaaGreatDoorU09
import Derived.Shelf.Strings.Trim
import Derived.Shelf.Small.Utf8
import Derived.Shelf.Small.Wraps
import Derived.Shelf.Strings.BuilderK
import Derived.Shelf.Strings.BuilderRune
import Derived.Shelf.Utf8.RuneCount
import Derived.Shelf.Strings.Cut
import Derived.Test.YtaepcfidpekflaaGreatDoorProg
namespace Go.Proofs.YtaepcfidpekflaaGreatDoor.Pg
open Go.Proofs.YtaepcfidpekflaaGreatDoor
theorem val_snoc' (l : T) (c : UInt8) : Pr.val (l ++ [c]) = 10 * Pr.val l + (c.toNat - 48) := by simp [Pr.val]
theorem val_lt' : ∀ (n : Nat) (d : T), d.length = n → (∀ c ∈ d, Pn.isDig c = true) → Pr.val d < 10 ^ n := by
  intro n
  induction n with
  | zero =>
    intro d hd _
    rw [List.length_eq_zero_iff.1 hd]
    decide
  | succ n ih =>
    intro d hd h
    rcases List.eq_nil_or_concat d with h0 | ⟨l, c, h0⟩
    · rw [h0] at hd; simp at hd
    · simp only [List.concat_eq_append] at h0
      rw [h0] at hd h ⊢
      simp only [List.length_append, List.length_singleton] at hd
      have h1 := ih l (by omega) (fun x hx => h x (by simp [hx]))
      have h2 := (Pn.isDig_iff c).1 (h c (by simp))
      rw [val_snoc', Nat.pow_succ]
      omega
/-- The digits up to a place. -/
def upTo (rs : List T) (p q : Nat) : T := ((rs.drop p).take (q - p)).flatten
theorem upTo_next {rs : List T} {p q : Nat} (hpq : p ≤ q) {c : T} (h : rs[q]? = some c) : upTo rs p (q + 1) = upTo rs p q ++ c := by
  unfold upTo
  rw [show q + 1 - p = (q - p) + 1 by omega, List.take_add_one, List.flatten_append, List.getElem?_drop, show p + (q - p) = q by omega, h]
  simp
theorem upTo_self (rs : List T) (p : Nat) : upTo rs p p = [] := by unfold upTo; simp
theorem at1_some {rs : List T} {q : Nat} {f : UInt8 → Bool} (h : at1 rs q f = true) : ∃ b, rs[q]? = some [b] ∧ f b = true := by
  unfold at1 at h
  cases e : rs[q]? with
  | none => rw [e] at h; cases h
  | some c =>
    rw [e] at h
    unfold one1 at h
    simp only at h
    split at h
    · rename_i b; exact ⟨b, rfl, h⟩
    · cases h
theorem upTo_digs {rs : List T} {p q : Nat} (hq : q = p + (digs rs p).length) : upTo rs p q = (digs rs p).flatten := by
  unfold upTo digs at *
  rw [hq, show p + ((rs.drop p).takeWhile (one1 Pn.isDig)).length - p = ((rs.drop p).takeWhile (one1 Pn.isDig)).length by omega]
  congr 1
  exact (List.prefix_iff_eq_take.1 (List.takeWhile_prefix _)).symm
/-- How far a number has been read. -/
structure Vl (rs : List T) (p q : Nat) : Prop where
  within : In1 Pn.isDig rs p q
  small : q - p ≤ 9
  digits : (∀ c ∈ upTo rs p q, Pn.isDig c = true) ∧ (upTo rs p q).length = q - p
  first : 2 ≤ q - p → rs[p]? ≠ some [48]
end Go.Proofs.YtaepcfidpekflaaGreatDoor.Pg
namespace Go.Proofs.YtaepcfidpekflaaGreatDoor
open Go.RowKit Pg

theorem Pg.Vl.start (rs : List Pg.T) (p : Nat) : Vl rs p p := ⟨In1.start _ _ _, by omega, by rw [upTo_self]; simp, by omega⟩
/-- One digit more. -/
theorem Pg.Vl.next {rs : List Pg.T} {p q : Nat} (h : Vl rs p q) (hp : p ≤ rs.length) {b : UInt8} (hb : rs[q]? = some [b]) (hd : Pn.isDig b = true) (h9 : q - p ≠ 9) (h1 : ¬ (q - p = 1 ∧ Pr.val (upTo rs p q) = 0)) : Vl rs p (q + 1) ∧ Pr.val (upTo rs p (q + 1)) = 10 * Pr.val (upTo rs p q) + (b.toNat - 48) := by
  have hpq := h.within.1
  have ht : at1 rs q Pn.isDig = true := by unfold at1; rw [hb]; exact hd
  have hu := upTo_next hpq hb
  have hs := h.small
  refine ⟨⟨(h.within.next ht hp).1, by omega, ?_, ?_⟩, by rw [hu, val_snoc']⟩
  · rw [hu]
    refine ⟨fun c hc => ?_, by rw [List.length_append, h.digits.2, List.length_singleton]; omega⟩
    rcases List.mem_append.1 hc with hc | hc
    · exact h.digits.1 c hc
    · rw [List.mem_singleton.1 hc]; exact hd
  · intro h2 h0
    by_cases h3 : 2 ≤ q - p
    · exact h.first h3 h0
    · have e1 : q = p + 1 := by omega
      apply h1
      refine ⟨by omega, ?_⟩
      rw [e1, upTo_next (Nat.le_refl _) h0, upTo_self]
      decide
theorem valR_first {rs : List Pg.T} {p q : Nat} (h : Vl rs p q) (hp : p ≤ rs.length) {b : UInt8} (hb : rs[q]? = some [b]) (hd : Pn.isDig b = true) (h1 : q - p = 1) (h0 : Pr.val (upTo rs p q) = 0) : valR rs p = .inl q := by
  have ht : at1 rs q Pn.isDig = true := by unfold at1; rw [hb]; exact hd
  have hn := (h.within.next ht hp).1.2
  have e1 : q = p + 1 := by have := h.within.1; omega
  have hlen : 1 < (digs rs p).length := by show 1 < ((rs.drop p).takeWhile (one1 Pn.isDig)).length; omega
  obtain ⟨c, hc, hcd⟩ := at1_some (at_tw Pn.isDig p 0 (by show 0 < (digs rs p).length; omega))
  rw [Nat.add_zero] at hc
  have hc48 : c = 48 := by
    rw [e1, upTo_next (Nat.le_refl _) hc, upTo_self] at h0
    have := (Pn.isDig_iff c).1 hcd
    have h2 : Pr.val [c] = c.toNat - 48 := by simp [Pr.val]
    rw [List.nil_append, h2] at h0
    exact UInt8.toNat_inj.1 (by show c.toNat = 48; omega)
  unfold valR
  rw [if_neg (by omega), if_pos ⟨hlen, by rw [hc, hc48]⟩, e1]
theorem valR_nine {rs : List Pg.T} {p q : Nat} (h : Vl rs p q) (hp : p ≤ rs.length) (ht : at1 rs q Pn.isDig = true) (h1 : q - p = 9) : valR rs p = .inl q := by
  have hn := (h.within.next ht hp).1.2
  have hpq := h.within.1
  have hlen : 9 < (digs rs p).length := by show 9 < ((rs.drop p).takeWhile (one1 Pn.isDig)).length; omega
  unfold valR
  rw [if_neg (by omega), if_neg (fun e => h.first (by omega) e.2), if_pos hlen]
  congr 1
  omega
theorem valR_end {rs : List Pg.T} {p q : Nat} (h : Vl rs p q) (ht : at1 rs q Pn.isDig = false) : (q = p → valR rs p = .inl p) ∧ (q ≠ p → valR rs p = .inr (upTo rs p q, q)) := by
  have hq : q = p + (digs rs p).length := h.within.stop ht
  have hs := h.small
  refine ⟨fun e => ?_, fun e => ?_⟩
  · unfold valR
    rw [if_pos (by omega)]
  · rw [upTo_digs hq]
    unfold valR
    rw [if_neg (by omega), if_neg (fun e2 => h.first (by omega) e2.2), if_neg (by omega), ← hq]
/-- A number that stands next. -/
def ValSaid (P : Nat) (rs : List Pg.T) (p : Nat) (w : World) (e : Ending) (w' : World) : Prop := Ag P w w' ∧ match valR rs p with
  | .inl a => ∃ v, e = .returned (.tuple #[.int .u32 0, v]) ∧ Flt w.heap.size w' v 3 a
  | .inr (t, q) => e = .returned (.tuple #[.int .u32 (Pr.val t : Nat), .nilIface]) ∧ Scn P w' rs q
theorem ValSaid.bad {P : Nat} {rs : List Pg.T} {p a : Nat} {w w' : World} {v : Value} (h : valR rs p = .inl a) (ha : Ag P w w') (hv : Flt w.heap.size w' v 3 a) : ValSaid P rs p w (.returned (.tuple #[.int .u32 0, v])) w' := by
  refine ⟨ha, ?_⟩
  rw [h]
  exact ⟨v, rfl, hv⟩
theorem ValSaid.ok {P : Nat} {rs : List Pg.T} {p q : Nat} {t : Pg.T} {V : Nat} {w w' : World} (h : valR rs p = .inr (t, q)) (hV : V = Pr.val t) (ha : Ag P w w') (hs : Scn P w' rs q) : ValSaid P rs p w (.returned (.tuple #[.int .u32 V, .nilIface])) w' := by
  refine ⟨ha, ?_⟩
  rw [h]
  exact ⟨by rw [hV], hs⟩
set_option maxHeartbeats 1600000 in
theorem pvalue_any (P : Nat) (w : World) (rs : List Pg.T) (p : Nat) (h : Scn P w rs p) :
    Calls Tryz.prog 280 #[.pointer (some ⟨P, 0, none⟩)] w fun e w' => ValSaid P rs p w e w' := by
  obtain ⟨hp1, hp2, hp3⟩ := h.pts
  have HS : Hid (Scn P w rs p) := h
  have HP : Hid (Pts rs) := hp1
  obtain ⟨a0, c0, q0, f0⟩ := h.rows
  clear h hp1
  go_enter Tryz.func280, Tryz.ntmps280
  go_wp2_with fail
  go_loopw [4] (fun v wr => ∃ (q V : Nat), v = .int .u32 V ∧ Hid (V = Pr.val (upTo rs p q)) ∧ Hid (Vl rs p q) ∧ Hid (Scn P wr rs q) ∧ Ag P w wr) (fun _ wr => rs.length - posOf wr P)
  case atStart => exact ⟨p, 0, rfl, by show _ = _; rw [upTo_self]; rfl, Vl.start _ _, HS, Ag.refl _ _⟩
  case round =>
    clear HS q0 f0
    obtain ⟨q, V, rfl, HV, HL, HS, ha⟩ := hrel
    have kp := peek_any P wr rs q 0 HS.out (by omega)
    rw [Nat.add_zero] at kp
    have dz := digZ_at HP.out q
    have hl := HS.out.pts.2.2
    have hpos := HS.out.pos
    have hpq := HL.out.within.1
    have hsm := HL.out.small
    have hV9 : V < 10 ^ (q - p) := by rw [HV.out]; exact val_lt' _ _ HL.out.digits.2 HL.out.digits.1
    have hw1 : IntKind.i64.wrap ((q : Int) - p) = (q : Int) - p := by rw [IntKind.wrap_i64]; omega
    go_wp2_with fail
    refine kp.mono ?_
    rintro e w1 ⟨rfl, hb1⟩
    have kd := pisDigit_any (pk rs q) w1
    rw [dz] at kd
    have hs1 := HS.out.then hb1
    have HS1 : Hid (Scn P w1 rs q) := hs1
    obtain ⟨a, c, q1, f1⟩ := hs1.rows
    have kp2 := peek_any P w1 rs q 0 hs1 (by omega)
    rw [Nat.add_zero] at kp2
    have kw := pwrong_any P w1 rs q hs1
    have ha1 := ha.then hb1
    clear kp dz hs1
    cases ht : at1 rs q Pn.isDig with
    | true =>
      rw [ht] at kd
      obtain ⟨b, hb, hbd⟩ := at1_some ht
      have hbd' := (Pn.isDig_iff b).1 hbd
      have hK : pk rs q = b.toNat := (pk_eq HP.out q b (by omega)).2 hb
      rw [hK] at kd kp2 ⊢
      by_cases h9 : q - p = 9
      · have e9 : ((q : Int) - p == 9) = true := by rw [beq_iff_eq]; omega
        have HR : Hid (valR rs p = .inl q) := valR_nine HL.out hp3 ht h9
        clear ht hb hbd hK h9 hV9
        go_wp2_with (go_at_call 239; refine kd.mono ?_; rintro e w2 ⟨rfl, rfl⟩)
        refine kw.mono ?_
        rintro e w3 ⟨⟨v, rfl, hv⟩, hb3⟩
        go_wp2
        go_ret2
        exact ValSaid.bad HR.out (ha1.then hb3) (hv.mono ha1.size)
      have e9 : ((q : Int) - p == 9) = false := by rw [beq_eq_false_iff_ne]; omega
      by_cases h1 : q - p = 1 ∧ V = 0
      · have e1 : ((q : Int) - p == 1) = true := by rw [beq_iff_eq]; omega
        have HR : Hid (valR rs p = .inl q) := valR_first HL.out hp3 hb hbd h1.1 (by rw [← HV.out]; exact h1.2)
        have hV0 := h1.2
        subst hV0
        clear ht hb hbd hK h9 hV9 h1
        go_wp2_with (go_at_call 239; refine kd.mono ?_; rintro e w2 ⟨rfl, rfl⟩)
        refine kw.mono ?_
        rintro e w3 ⟨⟨v, rfl, hv⟩, hb3⟩
        go_wp2
        go_ret2
        exact ValSaid.bad HR.out (ha1.then hb3) (hv.mono ha1.size)
      obtain ⟨hL2, hV2⟩ := HL.out.next hp3 hb hbd h9 (by rw [← HV.out]; exact h1)
      have HL2 : Hid (Vl rs p (q + 1)) := hL2
      have HV2 : Hid (10 * V + (b.toNat - 48) = Pr.val (upTo rs p (q + 1))) := by show _ = _; rw [hV2, HV.out]
      have hV8 : V < 100000000 := by
        have : 10 ^ (q - p) ≤ 10 ^ 8 := Nat.pow_le_pow_right (by omega) (by omega)
        omega
      have hlt : q < rs.length := lt_of_some hb
      have hw3 : IntKind.i64.wrap ((q : Int) + 1) = (q : Int) + 1 := by rw [IntKind.wrap_i64]; omega
      clear ht hb hbd hK hV9 hL2 hV2
      have e0 : (((q : Int) - p == 1) && ((V : Int) == 0)) = false := by
        rw [Bool.and_eq_false_iff, beq_eq_false_iff_ne, beq_eq_false_iff_ne]
        omega
      by_cases e1 : q - p = 1
      · have e1' : ((q : Int) - p == 1) = true := by rw [beq_iff_eq]; omega
        have eV : ((V : Int) == 0) = false := by rw [beq_eq_false_iff_ne]; omega
        clear h1 e0 h9
        go_wp2_with (first | (go_at_call 239; refine kd.mono ?_; rintro e w2 ⟨rfl, rfl⟩))
        refine kp2.mono ?_
        rintro e w3 ⟨rfl, hb3⟩
        have hs3 := HS1.out.then hb3
        obtain ⟨a3, c3, q3, f3⟩ := hs3.rows
        obtain ⟨hs4, ha4⟩ := hs3.inc hlt (ha1.then hb3)
        have hpos4 := hs4.pos
        have HS4 : Hid (Scn P (w3.setCell ⟨P, 1, none⟩ (.int .i64 ((q : Int) + 1))) rs (q + 1)) := hs4
        clear hs3 hs4 kp2 kw kd q1 f1
        go_wp2
        exact ⟨⟨q + 1, 10 * V + (b.toNat - 48), by rw [show (V : Int) * 10 + ((b.toNat : Int) - 48) = ((10 * V + (b.toNat - 48) : Nat) : Int) by omega], HV2, HL2, HS4, ha4⟩, by rw [hpos4, hpos]; omega⟩
      · have e1' : ((q : Int) - p == 1) = false := by rw [beq_eq_false_iff_ne]; omega
        clear h1 e0 h9
        go_wp2_with (first | (go_at_call 239; refine kd.mono ?_; rintro e w2 ⟨rfl, rfl⟩))
        refine kp2.mono ?_
        rintro e w3 ⟨rfl, hb3⟩
        have hs3 := HS1.out.then hb3
        obtain ⟨a3, c3, q3, f3⟩ := hs3.rows
        obtain ⟨hs4, ha4⟩ := hs3.inc hlt (ha1.then hb3)
        have hpos4 := hs4.pos
        have HS4 : Hid (Scn P (w3.setCell ⟨P, 1, none⟩ (.int .i64 ((q : Int) + 1))) rs (q + 1)) := hs4
        clear hs3 hs4 kp2 kw kd q1 f1
        go_wp2
        exact ⟨⟨q + 1, 10 * V + (b.toNat - 48), by rw [show (V : Int) * 10 + ((b.toNat : Int) - 48) = ((10 * V + (b.toNat - 48) : Nat) : Int) by omega], HV2, HL2, HS4, ha4⟩, by rw [hpos4, hpos]; omega⟩
    | false =>
      rw [ht] at kd
      obtain ⟨hv1, hv2⟩ := valR_end HL.out ht
      by_cases hqp : q = p
      · have HR : Hid (valR rs p = .inl q) := by show _ = _; rw [hv1 hqp, hqp]
        have eqp : ((q : Int) == p) = true := by rw [beq_iff_eq]; omega
        clear ht hv1 hv2 hqp hw1
        go_wp2_with (first | (go_at_call 239; refine kd.mono ?_; rintro e w2 ⟨rfl, rfl⟩) | (go_at_call 161; refine kw.mono ?_; rintro e w3 ⟨⟨v, rfl, hv⟩, hb3⟩))
        go_ret2
        exact ValSaid.bad HR.out (ha1.then hb3) (hv.mono ha1.size)
      · have HR : Hid (valR rs p = .inr (upTo rs p q, q)) := hv2 hqp
        have eqp : ((q : Int) == p) = false := by rw [beq_eq_false_iff_ne]; omega
        clear ht hv1 hv2 hqp hw1
        go_wp2_with (first | (go_at_call 239; refine kd.mono ?_; rintro e w2 ⟨rfl, rfl⟩))
        go_ret2
        exact ValSaid.ok HR.out HV.out ha1 HS1.out
end Go.Proofs.YtaepcfidpekflaaGreatDoor
namespace Go.Proofs
open Go.Shelf
def Tryz.lays160_ren : Go.Shelf.Ren := ⟨fun | 160 => 109 | 232 => 144 | 231 => 143 | 227 => 145 | 234 => 147 | 233 => 146 | 236 => 149 | 235 => 148 | 228 => 180 | 271 => 182 | 151 => 181 | 197 => 159 | 120 => 212 | 152 => 211 | 260 => 191 | 137 => 230 | 119 => 106 | 224 => 178 | 225 => 177 | 217 => 176 | 266 => 209 | n => n, fun | 9 => 9 | 4 => 4 | 3 => 3 | 5 => 5 | 117 => 259 | 116 => 258 | 0 => 0 | 124 => 262 | 21 => 21 | 105 => 272 | 46 => 254 | 119 => 250 | 139 => 253 | 138 => 252 | n => n, fun | 3 => 1 | 4 => 2 | n => n⟩
theorem Tryz.lays160 : Go.Proofs.Lays.n160 Tryz.prog Tryz.lays160_ren := {
  mixed := by kernel_rfl
  f119 := Tryz.func106.trans (congrArg some (by kernel_rfl))
  f120 := Tryz.func212.trans (congrArg some (by kernel_rfl))
  f137 := Tryz.func230.trans (congrArg some (by kernel_rfl))
  f151 := Tryz.func181.trans (congrArg some (by kernel_rfl))
  f152 := Tryz.func211.trans (congrArg some (by kernel_rfl))
  f160 := Tryz.func109.trans (congrArg some (by kernel_rfl))
  f197 := Tryz.func159.trans (congrArg some (by kernel_rfl))
  f217 := Tryz.func176.trans (congrArg some (by kernel_rfl))
  f224 := Tryz.func178.trans (congrArg some (by kernel_rfl))
  f225 := Tryz.func177.trans (congrArg some (by kernel_rfl))
  f227 := Tryz.func145.trans (congrArg some (by kernel_rfl))
  f228 := Tryz.func180.trans (congrArg some (by kernel_rfl))
  f231 := Tryz.func143.trans (congrArg some (by kernel_rfl))
  f232 := Tryz.func144.trans (congrArg some (by kernel_rfl))
  f233 := Tryz.func146.trans (congrArg some (by kernel_rfl))
  f234 := Tryz.func147.trans (congrArg some (by kernel_rfl))
  f235 := Tryz.func148.trans (congrArg some (by kernel_rfl))
  f236 := Tryz.func149.trans (congrArg some (by kernel_rfl))
  f260 := Tryz.func191.trans (congrArg some (by kernel_rfl))
  f266 := Tryz.func209.trans (congrArg some (by kernel_rfl))
  f271 := Tryz.func182.trans (congrArg some (by kernel_rfl))
  t0 := Tryz.underlying0
  a0 := Tryz.isAgg0
  z0 := Tryz.sizeOf0
  v0 := Tryz.zeroValue0
  t3 := Tryz.underlying3
  a3 := Tryz.isAgg3
  z3 := Tryz.sizeOf3
  v3 := Tryz.zeroValue3
  t4 := Tryz.underlying4
  a4 := Tryz.isAgg4
  z4 := Tryz.sizeOf4
  v4 := Tryz.zeroValue4
  t5 := Tryz.underlying5
  a5 := Tryz.isAgg5
  z5 := Tryz.sizeOf5
  v5 := Tryz.zeroValue5
  t9 := Tryz.underlying9
  a9 := Tryz.isAgg9
  z9 := Tryz.sizeOf9
  v9 := Tryz.zeroValue9
  t21 := Tryz.underlying21
  a21 := Tryz.isAgg21
  z21 := Tryz.sizeOf21
  v21 := Tryz.zeroValue21
  t46 := Tryz.underlying254
  a46 := Tryz.isAgg254
  z46 := Tryz.sizeOf254
  v46 := Tryz.zeroValue254
  t105 := Tryz.underlying272
  a105 := Tryz.isAgg272
  z105 := Tryz.sizeOf272
  v105 := Tryz.zeroValue272
  t116 := Tryz.underlying258
  a116 := Tryz.isAgg258
  z116 := Tryz.sizeOf258
  t117 := Tryz.underlying259
  a117 := Tryz.isAgg259
  z117 := Tryz.sizeOf259
  v117 := Tryz.zeroValue259
  t119 := Tryz.underlying250
  a119 := Tryz.isAgg250
  z119 := Tryz.sizeOf250
  t124 := Tryz.underlying262
  a124 := Tryz.isAgg262
  z124 := Tryz.sizeOf262
  v124 := Tryz.zeroValue262
  t138 := Tryz.underlying252
  a138 := Tryz.isAgg252
  z138 := Tryz.sizeOf252
  v138 := Tryz.zeroValue252
  t139 := Tryz.underlying253
  a139 := Tryz.isAgg253
  z139 := Tryz.sizeOf253
  v139 := Tryz.zeroValue253
  g3 := by kernel_rfl
  g4 := by kernel_rfl }
open Go.RowKit in
theorem Tryz.strings_Trim_one (s : ByteArray) (c : UInt8) (hc : c.toNat < 128) (w : World) (hs : s.size ≤ 9223372036854775807) :
    Calls Tryz.prog 109 #[.string s, .string ⟨#[c]⟩] w fun e w' => e = .returned (.string ⟨(Lib.trimB s.data.toList c).toArray⟩) ∧ (w' = w ∨ w' = w.drew) := Any.strings_Trim_one Tryz.lays160 s c hc w hs
def Tryz.lays119_ren : Go.Shelf.Ren := ⟨fun | 119 => 106 | n => n, fun | 21 => 21 | 4 => 4 | n => n, fun | n => n⟩
theorem Tryz.lays119 : Go.Proofs.Lays.n119 Tryz.prog Tryz.lays119_ren := {
  mixed := by kernel_rfl
  f119 := Tryz.func106.trans (congrArg some (by kernel_rfl))
  t4 := Tryz.underlying4
  a4 := Tryz.isAgg4
  z4 := Tryz.sizeOf4
  v4 := Tryz.zeroValue4
  t21 := Tryz.underlying21
  a21 := Tryz.isAgg21
  z21 := Tryz.sizeOf21
  v21 := Tryz.zeroValue21 }
theorem Tryz.utf8_ValidRune (r : Int) (w : World) :
    Calls Tryz.prog 106 #[.int .i32 r] w fun e w' => e = .returned (.bool (Lib.validRune r)) ∧ w' = w := Any.utf8_ValidRune Tryz.lays119 r w
def Tryz.lays103_ren : Go.Shelf.Ren := ⟨fun | 103 => 76 | 210 => 107 | 206 => 141 | n => n, fun | 9 => 9 | 4 => 4 | 24 => 142 | 3 => 3 | n => n, fun | n => n⟩
theorem Tryz.lays103 : Go.Proofs.Lays.n103 Tryz.prog Tryz.lays103_ren := {
  mixed := by kernel_rfl
  f103 := Tryz.func76.trans (congrArg some (by kernel_rfl))
  f206 := Tryz.func141.trans (congrArg some (by kernel_rfl))
  f210 := Tryz.func107.trans (congrArg some (by kernel_rfl))
  t3 := Tryz.underlying3
  a3 := Tryz.isAgg3
  z3 := Tryz.sizeOf3
  v3 := Tryz.zeroValue3
  t4 := Tryz.underlying4
  a4 := Tryz.isAgg4
  z4 := Tryz.sizeOf4
  v4 := Tryz.zeroValue4
  t9 := Tryz.underlying9
  a9 := Tryz.isAgg9
  z9 := Tryz.sizeOf9
  v9 := Tryz.zeroValue9
  t24 := Tryz.underlying142
  a24 := Tryz.isAgg142
  z24 := Tryz.sizeOf142
  v24 := Tryz.zeroValue142 }
open Go.RowKit in
theorem Tryz.strings_CutPrefix (s p : ByteArray) (w : World) :
    Calls Tryz.prog 76 #[.string s, .string p] w fun e w' => e = .returned (.tuple #[.string ⟨(Lib.trimPrefix s.data.toList p.data.toList).toArray⟩, .bool (Lib.hasPrefix s.data.toList p.data.toList)]) ∧ w' = w := Any.strings_CutPrefix Tryz.lays103 s p w
def Tryz.lays169_ren : Go.Shelf.Ren := ⟨fun | 169 => 83 | n => n, fun | 70 => 145 | 9 => 9 | 0 => 0 | 72 => 148 | 37 => 146 | 127 => 206 | 3 => 3 | 5 => 5 | n => n, fun | n => n⟩
theorem Tryz.lays169 : Go.Proofs.Lays.n169 Tryz.prog Tryz.lays169_ren := {
  mixed := by kernel_rfl
  f169 := Tryz.func83.trans (congrArg some (by kernel_rfl))
  t0 := Tryz.underlying0
  a0 := Tryz.isAgg0
  z0 := Tryz.sizeOf0
  v0 := Tryz.zeroValue0
  t3 := Tryz.underlying3
  a3 := Tryz.isAgg3
  z3 := Tryz.sizeOf3
  v3 := Tryz.zeroValue3
  t9 := Tryz.underlying9
  a9 := Tryz.isAgg9
  z9 := Tryz.sizeOf9
  v9 := Tryz.zeroValue9
  t37 := Tryz.underlying146
  a37 := Tryz.isAgg146
  z37 := Tryz.sizeOf146
  v37 := Tryz.zeroValue146
  t70 := Tryz.underlying145
  a70 := Tryz.isAgg145
  z70 := Tryz.sizeOf145
  v70 := Tryz.zeroValue145
  t72 := Tryz.underlying148
  a72 := Tryz.isAgg148
  z72 := Tryz.sizeOf148
  v72 := Tryz.zeroValue148
  t127 := Tryz.underlying206
  a127 := Tryz.isAgg206
  z127 := Tryz.sizeOf206
  v127 := Tryz.zeroValue206 }
theorem Tryz.Builder_Extra_169 : Builder.Extra Tryz.prog Tryz.lays169_ren := {
  sizeBuilder := by kernel_rfl
  liesBuilder := by kernel_rfl
  t5 := Tryz.underlying5
  a5 := Tryz.isAgg5
  z5 := Tryz.sizeOf5
  v5 := Tryz.zeroValue5
  infoByte := by kernel_rfl
  cellsByte := by kernel_rfl
  sizeByte := by kernel_rfl
  neB5 := by decide }
open Go.RowKit in
theorem Tryz.Builder_String_any_k (B b : Nat) (l : List UInt8) (w : World) (h : Lib.IsBuilderF 148 5 B b (Lib.byteCells l) w) (hBw : B ≤ w.heap.size) :
    Calls Tryz.prog 83 #[.pointer (some ⟨b, 0, none⟩)] w fun e w' => e = .returned (.string ⟨l.toArray⟩) ∧ (Lib.IsBuilderF 148 5 B b (Lib.byteCells l) w' ∧ Below B w w' ∧ Lib.OthersKept 5 (some b) w w') := Any.Builder_String_any_k Tryz.lays169 Tryz.Builder_Extra_169 B b l w h hBw
def Tryz.lays195_ren : Go.Shelf.Ren := ⟨fun | 195 => 105 | n => n, fun | 9 => 9 | 3 => 3 | 0 => 0 | 4 => 4 | n => n, fun | n => n⟩
theorem Tryz.lays195 : Go.Proofs.Lays.n195 Tryz.prog Tryz.lays195_ren := {
  mixed := by kernel_rfl
  f195 := Tryz.func105.trans (congrArg some (by kernel_rfl))
  t0 := Tryz.underlying0
  a0 := Tryz.isAgg0
  z0 := Tryz.sizeOf0
  v0 := Tryz.zeroValue0
  t3 := Tryz.underlying3
  a3 := Tryz.isAgg3
  z3 := Tryz.sizeOf3
  v3 := Tryz.zeroValue3
  t4 := Tryz.underlying4
  a4 := Tryz.isAgg4
  z4 := Tryz.sizeOf4
  v4 := Tryz.zeroValue4
  t9 := Tryz.underlying9
  a9 := Tryz.isAgg9
  z9 := Tryz.sizeOf9
  v9 := Tryz.zeroValue9 }
open Go.RowKit in
theorem Tryz.utf8_RuneCountInString (s : ByteArray) (w : World) (hs : s.size < 9223372036854775807) :
    Calls Tryz.prog 105 #[.string s] w fun e w' => e = .returned (.int .i64 (Lib.runeCount s)) ∧ ∃ pos, w' = w.iter s pos := Any.utf8_RuneCountInString Tryz.lays195 s w hs
def Tryz.lays145_ren : Go.Shelf.Ren := ⟨fun | 145 => 77 | 220 => 108 | 219 => 142 | 217 => 176 | 225 => 177 | 224 => 178 | 267 => 179 | 266 => 209 | 314 => 210 | n => n, fun | 9 => 9 | 4 => 4 | 59 => 98 | 3 => 3 | 5 => 5 | 46 => 254 | 146 => 354 | 51 => 264 | n => n, fun | 1 => 3 | n => n⟩
theorem Tryz.lays145 : Go.Proofs.Lays.n145 Tryz.prog Tryz.lays145_ren := {
  mixed := by kernel_rfl
  f145 := Tryz.func77.trans (congrArg some (by kernel_rfl))
  f217 := Tryz.func176.trans (congrArg some (by kernel_rfl))
  f219 := Tryz.func142.trans (congrArg some (by kernel_rfl))
  f220 := Tryz.func108.trans (congrArg some (by kernel_rfl))
  f224 := Tryz.func178.trans (congrArg some (by kernel_rfl))
  f225 := Tryz.func177.trans (congrArg some (by kernel_rfl))
  f266 := Tryz.func209.trans (congrArg some (by kernel_rfl))
  f267 := Tryz.func179.trans (congrArg some (by kernel_rfl))
  f314 := Tryz.func210.trans (congrArg some (by kernel_rfl))
  t3 := Tryz.underlying3
  a3 := Tryz.isAgg3
  z3 := Tryz.sizeOf3
  v3 := Tryz.zeroValue3
  t4 := Tryz.underlying4
  a4 := Tryz.isAgg4
  z4 := Tryz.sizeOf4
  v4 := Tryz.zeroValue4
  t5 := Tryz.underlying5
  a5 := Tryz.isAgg5
  z5 := Tryz.sizeOf5
  v5 := Tryz.zeroValue5
  t9 := Tryz.underlying9
  a9 := Tryz.isAgg9
  z9 := Tryz.sizeOf9
  v9 := Tryz.zeroValue9
  t46 := Tryz.underlying254
  a46 := Tryz.isAgg254
  z46 := Tryz.sizeOf254
  v46 := Tryz.zeroValue254
  t51 := Tryz.underlying264
  a51 := Tryz.isAgg264
  z51 := Tryz.sizeOf264
  v51 := Tryz.zeroValue264
  t59 := Tryz.underlying98
  a59 := Tryz.isAgg98
  z59 := Tryz.sizeOf98
  v59 := Tryz.zeroValue98
  t146 := Tryz.underlying354
  a146 := Tryz.isAgg354
  z146 := Tryz.sizeOf354
  v146 := Tryz.zeroValue354
  g1 := by kernel_rfl }
open Go.RowKit Go.Lib in
theorem Tryz.strings_Cut (s sep : ByteArray) (m : Int) (w : World) (hs : s.size < 4294967281) (hm : w.cell? ⟨3, 0, none⟩ = some (.int .i64 m)) :
    Calls Tryz.prog 77 #[.string s, .string sep] w fun e w' => e = .returned (.tuple #[.string ⟨(Lib.cut s.data.toList sep.data.toList).1.toArray⟩, .string ⟨(Lib.cut s.data.toList sep.data.toList).2.1.toArray⟩, .bool (Lib.cut s.data.toList sep.data.toList).2.2]) ∧ ∃ n, w' = w.drewN n := Any.strings_Cut Tryz.lays145 s sep m w hs hm
def Tryz.lays168_ren : Go.Shelf.Ren := ⟨fun | 168 => 81 | 240 => 110 | 242 => 111 | 276 => 150 | 278 => 151 | n => n, fun | 0 => 0 | 3 => 3 | 4 => 4 | 5 => 5 | 9 => 9 | 20 => 20 | 21 => 21 | 37 => 146 | 46 => 254 | 51 => 264 | 70 => 145 | 72 => 148 | 75 => 67 | 80 => 151 | 164 => 152 | n => n, fun | n => n⟩
theorem Tryz.lays168 : Go.Proofs.Lays.n168 Tryz.prog Tryz.lays168_ren := {
  mixed := by kernel_rfl
  f168 := Tryz.func81.trans (congrArg some (by kernel_rfl))
  f240 := Tryz.func110.trans (congrArg some (by kernel_rfl))
  f242 := Tryz.func111.trans (congrArg some (by kernel_rfl))
  f276 := Tryz.func150.trans (congrArg some (by kernel_rfl))
  f278 := Tryz.func151.trans (congrArg some (by kernel_rfl))
  t0 := Tryz.underlying0
  a0 := Tryz.isAgg0
  z0 := Tryz.sizeOf0
  v0 := Tryz.zeroValue0
  t3 := Tryz.underlying3
  a3 := Tryz.isAgg3
  z3 := Tryz.sizeOf3
  v3 := Tryz.zeroValue3
  t4 := Tryz.underlying4
  a4 := Tryz.isAgg4
  z4 := Tryz.sizeOf4
  v4 := Tryz.zeroValue4
  t5 := Tryz.underlying5
  a5 := Tryz.isAgg5
  z5 := Tryz.sizeOf5
  v5 := Tryz.zeroValue5
  t9 := Tryz.underlying9
  a9 := Tryz.isAgg9
  z9 := Tryz.sizeOf9
  v9 := Tryz.zeroValue9
  t20 := Tryz.underlying20
  a20 := Tryz.isAgg20
  z20 := Tryz.sizeOf20
  v20 := Tryz.zeroValue20
  t21 := Tryz.underlying21
  a21 := Tryz.isAgg21
  z21 := Tryz.sizeOf21
  v21 := Tryz.zeroValue21
  t37 := Tryz.underlying146
  a37 := Tryz.isAgg146
  z37 := Tryz.sizeOf146
  v37 := Tryz.zeroValue146
  t46 := Tryz.underlying254
  a46 := Tryz.isAgg254
  z46 := Tryz.sizeOf254
  v46 := Tryz.zeroValue254
  t51 := Tryz.underlying264
  a51 := Tryz.isAgg264
  z51 := Tryz.sizeOf264
  v51 := Tryz.zeroValue264
  t70 := Tryz.underlying145
  a70 := Tryz.isAgg145
  z70 := Tryz.sizeOf145
  v70 := Tryz.zeroValue145
  t72 := Tryz.underlying148
  a72 := Tryz.isAgg148
  z72 := Tryz.sizeOf148
  v72 := Tryz.zeroValue148
  t75 := Tryz.underlying67
  a75 := Tryz.isAgg67
  z75 := Tryz.sizeOf67
  v75 := Tryz.zeroValue67
  t164 := Tryz.underlying152
  a164 := Tryz.isAgg152
  z164 := Tryz.sizeOf152
  v164 := Tryz.zeroValue152 }
theorem Tryz.Builder_Extra_168 : Builder.Extra Tryz.prog Tryz.lays168_ren := {
  sizeBuilder := by kernel_rfl
  liesBuilder := by kernel_rfl
  t5 := Tryz.underlying5
  a5 := Tryz.isAgg5
  z5 := Tryz.sizeOf5
  v5 := Tryz.zeroValue5
  infoByte := by kernel_rfl
  cellsByte := by kernel_rfl
  sizeByte := by kernel_rfl
  neB5 := by decide }
open Go.RowKit in
theorem Tryz.Builder_WriteRune_k (B b : Nat) (bs : List Value) (r : Int) (hr0 : -2147483648 ≤ r) (hr1 : r ≤ 2147483647) (w : World) (h : Lib.IsBuilderF 148 5 B b bs w) (hlen : bs.length + 4 ≤ 140737488355328) (hBw : B ≤ w.heap.size) :
    Calls Tryz.prog 81 #[.pointer (some ⟨b, 0, none⟩), .int .i32 r] w fun e w' => e = .returned (.tuple #[.int .i64 (Lib.runeCells r).length, .nilIface]) ∧ (Lib.BuilderAtF 148 5 B b (.pointer (some ⟨b, 0, none⟩)) (bs ++ Lib.runeCells r) w' ∧ Below B w w' ∧ Lib.OthersKept 5 (some b) w w') := Any.Builder_WriteRune_k Tryz.lays168 Tryz.Builder_Extra_168 B b bs r hr0 hr1 w h hlen hBw
end Go.Proofs
