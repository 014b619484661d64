/-
  Several texts in one (Mu, Mw, Ig). By the verifier.
-/
import Derived.Test.YtaepcfidpekflaaGreatDoorZ27
import Derived.Test.YtaepcfidpekflaaGreatDoorZ28
import Derived.DeepKeys4
import Derived.Maps.OwnSet
import Derived.Test.YtaepcfidpekflaaGreatDoorZ04
import Derived.Test.YtaepcfidpekflaaGreatDoorZ09
import Derived.Test.YtaepcfidpekflaaGreatDoorZ12
namespace Go.Proofs.YtaepcfidpekflaaGreatDoor
open Go.RowKit Go.Maps Pg

theorem sel_row : (330 : TypeId) < Tryz.prog.types.size := of_decide_eq_true (by kernel_rfl)
theorem sel_at : Tryz.prog.keyTypeAt 3 330 = true := by kernel_rfl
theorem sel_law : WideMaps.KeyLaw Tryz.prog 330 := deep_law_laid laidAll (m := 3) (by omega) sel_row sel_at (by rw [Tryz.underlying330])
theorem sel_keyed : Keyed Tryz.prog 330 := Keyed.of_law sel_law
/-- What a selector reads as. -/
def selB (t : Pg.T) : List UInt8 := keyBytes [.string (selV t).1, .int .u32 ((selV t).2 : Nat)]
theorem sel_cells : Tryz.prog.cellsOf 330 = 2 := by kernel_rfl
theorem sel_cells1 : Tryz.prog.cellsOf 9 = 1 := by kernel_rfl
theorem sel_cells2 : Tryz.prog.cellsOf 264 = 1 := by kernel_rfl
theorem sel_type : Tryz.prog.keyType 330 = true := by kernel_rfl
theorem types_n : Tryz.prog.types.size = 471 := by kernel_rfl
theorem sel_lits (d : Nat) (F : Pg.T) (V : Nat) (hs : (⟨F.toArray⟩ : ByteArray).size ≤ maxLen) (hw : (Lit.int .u32 (V : Int)).wf = true) : Tryz.prog.keyLits (d + 2) 330 [.string ⟨F.toArray⟩, .int .u32 V] = some [.string F, .int .u32 V] := by
  unfold Program.keyLits
  simp only [Tryz.underlying330, sel_cells]
  simp [Program.keyLits, Tryz.underlying9, Tryz.underlying264, sel_cells1, sel_cells2, hs, hw]
theorem sel_key (F : Pg.T) (V : Nat) (hF : F.length ≤ 1000000) (hV : V < 4294967296) : keyOf Tryz.prog 330 (.agg #[.string ⟨F.toArray⟩, .int .u32 V]) = some (.string (keyBytes [.string F, .int .u32 V])) := by
  have hform : (Value.agg #[.string ⟨F.toArray⟩, .int .u32 V]).formed Tryz.prog 330 = true := by simp [Value.formed, Tryz.underlying330, sel_cells]
  have hs : (⟨F.toArray⟩ : ByteArray).size ≤ maxLen := by show F.toArray.size ≤ _; simp [maxLen]; omega
  have hw : (Lit.int .u32 (V : Int)).wf = true := by
    have h0 : IntKind.u32.min = 0 := rfl
    have h1 : IntKind.u32.max = 4294967295 := rfl
    simp only [Lit.wf, h0, h1]
    simp
    omega
  unfold keyOf
  rw [Tryz.underlying330]
  simp only [sel_type, hform, Bool.and_self, if_true, types_n]
  rw [show (471 + 1 : Nat) = (471 - 1) + 2 from rfl]
  rw [show (Value.agg #[.string ⟨F.toArray⟩, .int .u32 V]).cells.toList = [.string ⟨F.toArray⟩, .int .u32 V] from rfl, sel_lits _ F V hs hw]
  rfl
end Go.Proofs.YtaepcfidpekflaaGreatDoor
namespace Go.Proofs.YtaepcfidpekflaaGreatDoor.Pg
open Go.Proofs.YtaepcfidpekflaaGreatDoor

/-- Digits of a number that stands in a pattern. -/
def NumOk (d : T) : Prop := (∀ c ∈ d, Pn.isDig c = true) ∧ d ≠ [] ∧ d.length ≤ 9 ∧ (1 < d.length → d.head? ≠ some 48)
theorem val_cons (c : UInt8) (r : T) : Pr.val (c :: r) = (c.toNat - 48) * 10 ^ r.length + Pr.val r := by
  unfold Pr.val
  have gen : ∀ (r : T) (a : Nat), r.foldl (fun v c => 10 * v + (c.toNat - 48)) a = a * 10 ^ r.length + r.foldl (fun v c => 10 * v + (c.toNat - 48)) 0 := by
    intro r
    induction r with
    | nil => intro a; simp
    | cons x r ih =>
      intro a
      simp only [List.foldl_cons, List.length_cons]
      rw [ih, ih (10 * 0 + _), Nat.pow_succ]
      simp only [Nat.mul_zero, Nat.zero_add, Nat.add_mul]
      rw [Nat.mul_comm 10 a, Nat.mul_assoc, Nat.mul_comm 10 (10 ^ r.length)]
      omega
  simp only [List.foldl_cons]
  rw [gen]
  simp
theorem val_same : ∀ (d e : T), d.length = e.length → (∀ c ∈ d, Pn.isDig c = true) → (∀ c ∈ e, Pn.isDig c = true) → Pr.val d = Pr.val e → d = e := by
  intro d
  induction d with
  | nil => intro e h _ _ _; exact (List.length_eq_zero_iff.1 h.symm).symm
  | cons c r ih =>
    intro e h hd he hv
    cases e with
    | nil => simp at h
    | cons x s =>
      simp only [List.length_cons, Nat.add_right_cancel_iff] at h
      have h1 := val_lt' _ r rfl (fun c hc => hd c (by simp [hc]))
      have h2 := val_lt' _ s rfl (fun c hc => he c (by simp [hc]))
      rw [val_cons, val_cons, h] at hv
      rw [h] at h1
      have hc := (Pn.isDig_iff c).1 (hd c (by simp))
      have hx := (Pn.isDig_iff x).1 (he x (by simp))
      have hp : 0 < 10 ^ s.length := Nat.pow_pos (by omega)
      have hq : c.toNat - 48 = x.toNat - 48 := by
        have e1 : ((c.toNat - 48) * 10 ^ s.length + Pr.val r) / 10 ^ s.length = c.toNat - 48 := by
          rw [Nat.mul_comm, Nat.mul_add_div hp, Nat.div_eq_of_lt h1]; simp
        have e2 : ((x.toNat - 48) * 10 ^ s.length + Pr.val s) / 10 ^ s.length = x.toNat - 48 := by
          rw [Nat.mul_comm, Nat.mul_add_div hp, Nat.div_eq_of_lt h2]; simp
        rw [← e1, hv, e2]
      have hcx : c = x := UInt8.toNat_inj.1 (by omega)
      rw [hq] at hv
      rw [hcx, ih s h (fun c hc => hd c (by simp [hc])) (fun c hc => he c (by simp [hc])) (by omega)]
theorem val_lead {d : T} (h : NumOk d) (h1 : 1 < d.length) : 10 ^ (d.length - 1) ≤ Pr.val d := by
  cases d with
  | nil => simp at h1
  | cons c r =>
    have hc := (Pn.isDig_iff c).1 (h.1 c (by simp))
    have hn : c ≠ 48 := fun e => h.2.2.2 h1 (by rw [e]; rfl)
    have : 49 ≤ c.toNat := by
      have : c.toNat ≠ 48 := fun e => hn (UInt8.toNat_inj.1 e)
      omega
    rw [val_cons]
    have : 1 * 10 ^ r.length ≤ (c.toNat - 48) * 10 ^ r.length := Nat.mul_le_mul_right _ (by omega)
    simp only [List.length_cons, Nat.add_sub_cancel]
    omega
theorem val_inj {d e : T} (hd : NumOk d) (he : NumOk e) (h : Pr.val d = Pr.val e) : d = e := by
  have key : ∀ {d e : T}, NumOk d → NumOk e → Pr.val d = Pr.val e → ¬ d.length < e.length := by
    intro d e hd he h hlt
    have h0 : 0 < d.length := List.length_pos_iff.2 hd.2.1
    have h1 := val_lt' _ d rfl hd.1
    have h2 := val_lead he (by omega)
    have h3 : 10 ^ d.length ≤ 10 ^ (e.length - 1) := Nat.pow_le_pow_right (by omega) (by omega)
    omega
  exact val_same d e (by have := key hd he h; have := key he hd h.symm; omega) hd.1 he.1 h
theorem val_small {d : T} (h : NumOk d) : Pr.val d < 1000000000 := by
  have h1 := val_lt' _ d rfl h.1
  have h2 : 10 ^ d.length ≤ 10 ^ 9 := Nat.pow_le_pow_right (by omega) h.2.2.1
  omega
/-- A selector as it is read. -/
def SelOk (w : T) : Prop := (∃ d, w = 61 :: d ∧ NumOk d) ∨ (w.head? ≠ some 61 ∧ w ≠ [] ∧ w.length ≤ 16)
theorem selV_inj {a b : T} (ha : SelOk a) (hb : SelOk b) (h : selV a = selV b) : a = b := by
  rcases ha with ⟨d, rfl, hd⟩ | ⟨h1, h2, _⟩ <;> rcases hb with ⟨e, rfl, he⟩ | ⟨h3, h4, _⟩
  · have : Pr.val d = Pr.val e := congrArg Prod.snd h
    rw [val_inj hd he this]
  · rw [selV_ne h3] at h
    exact absurd (congrArg Prod.fst h).symm h4
  · rw [selV_ne h1] at h
    exact absurd (congrArg Prod.fst h) h2
  · rw [selV_ne h1, selV_ne h3] at h
    exact congrArg Prod.fst h
theorem selV_bd {a : T} (ha : SelOk a) : (selV a).1.length ≤ 16 ∧ (selV a).2 < 1000000000 := by
  rcases ha with ⟨d, rfl, hd⟩ | ⟨h1, h2, h3⟩
  · exact ⟨by simp [selV], val_small hd⟩
  · rw [selV_ne h1]; exact ⟨h3, by simp⟩
/-- All selectors and offsets of a tree are such; names are short. -/
def Vd : Tr → Prop
  | .nil => True
  | .text _ r => Vd r
  | .sign r => Vd r
  | .simple n _ r => n.length ≤ 16 ∧ Vd r
  | .num n _ r => n.length ≤ 16 ∧ Vd r
  | .sel n _ bs _ r => n.length ≤ 16 ∧ Vd bs ∧ Vd r
  | .plu n _ _ off bs _ r => n.length ≤ 16 ∧ NumOk off ∧ Vd bs ∧ Vd r
  | .br w _ m r => SelOk w ∧ Vd m ∧ Vd r
theorem Vd.app {t u : Tr} (h : Vd t) (h2 : Vd u) : Vd (t.app u) := by
  induction t with
  | nil => exact h2
  | text _ r ih => exact ih h
  | sign r ih => exact ih h
  | simple _ _ r ih => exact ⟨h.1, ih h.2⟩
  | num _ _ r ih => exact ⟨h.1, ih h.2⟩
  | sel _ _ bs _ r _ ih => exact ⟨h.1, h.2.1, ih h.2.2⟩
  | plu _ _ _ _ bs _ r _ ih => exact ⟨h.1, h.2.1, h.2.2.1, ih h.2.2.2⟩
  | br _ _ m r _ ih => exact ⟨h.1, h.2.1, ih h.2.2⟩
theorem nameR_ok {rs : List T} {p : Nat} {n : T} {q : Nat} (h : nameR rs p = .inr (n, q)) : n.length ≤ 16 ∧ n ≠ [] ∧ n.head? ≠ some 61 := by
  have h1 := (nameR_inr h).1
  unfold nameR at h
  split at h
  · cases h
  · split at h
    · cases h
    · rename_i h0
      split at h
      · cases h
      · rename_i h16
        rw [h1]
        refine ⟨by rw [word_len]; omega, fun e => h0 (by rw [← word_len, e]; rfl), word_61 rs p⟩
theorem valR_ok {rs : List T} {p : Nat} {n : T} {q : Nat} (h : valR rs p = .inr (n, q)) : NumOk n := by
  unfold valR at h
  split at h
  · cases h
  · rename_i h0
    split at h
    · cases h
    · rename_i h1
      split at h
      · cases h
      · rename_i h9
        injection h with h
        injection h with h _
        have hfl : (digs rs p).flatten.length = (digs rs p).length := flat_len isDig_lt _
        subst h
        refine ⟨fun c hc => ?_, fun e => h0 (by rw [← hfl, e]; rfl), by omega, fun hl hh => h1 ⟨by omega, ?_⟩⟩
        · obtain ⟨x, hx, hcx⟩ := List.mem_flatten.1 hc
          have := List.all_eq_true.1 (List.all_takeWhile (l := rs.drop p) (p := one1 Pn.isDig)) x hx
          unfold one1 at this
          split at this
          · rename_i b
            rw [List.mem_singleton] at hcx
            rw [hcx]; exact this
          · cases this
        · obtain ⟨b, hb, hbd⟩ := at1_some (at_tw Pn.isDig p 0 (by show 0 < (digs rs p).length; omega))
          rw [Nat.add_zero] at hb
          have hd0 : (digs rs p) = [b] :: (digs rs p).tail := by
            unfold digs
            rw [drop_at hb, List.takeWhile_cons, show one1 Pn.isDig [b] = true from hbd]
            simp
          rw [hd0] at hh
          simp at hh
          rw [hb, hh]
theorem num48 : NumOk [48] := ⟨by decide, by simp, by simp, by simp⟩
theorem offR_ok {rs : List T} {p : Nat} {n : T} {q : Nat} (h : offR rs p = .inr (n, q)) : NumOk n := by
  unfold offR at h
  split at h
  · exact valR_ok h
  · injection h with h
    injection h with h _
    rw [← h]
    exact num48
theorem selR_ok {num : Bool} {rs : List T} {p : Nat} {n : T} {q : Nat} (h : selR num rs p = .inr (n, q)) : SelOk n := by
  unfold selR at h
  split at h
  · obtain ⟨h1, h2, h3⟩ := nameR_ok h
    exact .inr ⟨h3, h2, h1⟩
  · split at h
    · split at h
      · cases h
      · rename_i t q' hv
        injection h with h
        injection h with h _
        rw [← h]
        exact .inl ⟨_, rfl, valR_ok hv⟩
    · split at h
      · rename_i hc
        injection h with h
        injection h with h _
        rw [← h]
        obtain ⟨c1, c2, _⟩ := cat_len _ hc
        exact .inr ⟨word_61 rs p, fun e => by rw [e] at c1; simp at c1, by omega⟩
      · cases h
theorem vd_of {rs : List T} {m : Mode} {p : Nat} {res : Res} (h : Rd rs m p res) : Vd (resT res) := by
  have pre : ∀ {n : Tr} {res : Res}, Vd n → Vd (resT res) → Vd (resT (res.pre n)) := by
    intro n res h1 h2
    cases res with
    | ok => exact h1.app h2
    | okB => exact h1.app h2
    | bad => trivial
  have sel1 : ∀ {res : Res} {n : T} {p : Nat}, n.length ≤ 16 → Vd (resT res) → Vd (resT (res.sel n p)) := by
    intro res n p h1 h2
    cases res with
    | ok => exact h2
    | okB => exact ⟨h1, h2, trivial⟩
    | bad => trivial
  have plu1 : ∀ {res : Res} {n : T} {p : Nat} {ord : Bool} {off : T}, n.length ≤ 16 → NumOk off → Vd (resT res) → Vd (resT (res.plu n p ord off)) := by
    intro res n p ord off h1 h3 h2
    cases res with
    | ok => exact h2
    | okB => exact ⟨h1, h3, h2, trivial⟩
    | bad => trivial
  induction h with
  | argK _ _ _ ih1 ih2 => exact pre ih1 ih2
  | sign _ _ ih => exact pre (n := .sign .nil) trivial ih
  | said _ _ _ ih => exact pre (n := .text _ .nil) trivial ih
  | simple h _ => exact ⟨(nameR_ok h).1, trivial⟩
  | num h _ _ _ _ _ => exact ⟨(nameR_ok h).1, trivial⟩
  | sel h _ _ _ _ _ _ ih => exact sel1 (nameR_ok h).1 ih
  | plu h _ _ _ _ _ ho _ ih => exact plu1 (nameR_ok h).1 (offR_ok ho) ih
  | brs _ h1 _ _ _ _ _ ih1 ih2 => exact pre (n := .br _ _ _ .nil) ⟨selR_ok h1, ih1, trivial⟩ ih2
  | _ => trivial
end Go.Proofs.YtaepcfidpekflaaGreatDoor.Pg
namespace Go.Proofs.YtaepcfidpekflaaGreatDoor.Pg
open Go.Proofs.YtaepcfidpekflaaGreatDoor

theorem val_snoc (e : T) (c : UInt8) : Pr.val (e ++ [c]) = 10 * Pr.val e + (c.toNat - 48) := by
  unfold Pr.val
  rw [List.foldl_append]
  rfl
theorem dec_of (n : Nat) : ∀ d : T, d.length = n → (∀ c ∈ d, Pn.isDig c = true) → d ≠ [] → d.head? ≠ some 48 → Lib.decDigits (Pr.val d) = d ∧ 1 ≤ Pr.val d := by
  induction n with
  | zero => intro d h _ hne; exact absurd (List.length_eq_zero_iff.1 h) hne
  | succ n ih =>
    intro d hl hd hne hh
    rcases List.eq_nil_or_concat d with h | ⟨e, c, h⟩
    · exact absurd h hne
    · rw [List.concat_eq_append] at h
      subst h
      have hc := (Pn.isDig_iff c).1 (hd c (by simp))
      have hof : UInt8.ofNat (48 + (c.toNat - 48)) = c := by
        apply UInt8.toNat_inj.1
        rw [UInt8.toNat_ofNat', show 48 + (c.toNat - 48) = c.toNat by omega]
        have := c.toNat_lt
        omega
      rw [val_snoc]
      cases e with
      | nil =>
        have hc2 : c ≠ 48 := fun e => hh (by rw [e]; rfl)
        have : c.toNat ≠ 48 := fun e => hc2 (UInt8.toNat_inj.1 e)
        refine ⟨?_, by omega⟩
        rw [show 10 * Pr.val [] + (c.toNat - 48) = c.toNat - 48 by simp [Pr.val], Lib.decDigits_one (by omega), hof]
        rfl
      | cons x r =>
        obtain ⟨h1, h2⟩ := ih (x :: r) (by simp at hl ⊢; omega) (fun c hc => hd c (by rw [List.mem_append]; exact .inl hc)) (by simp) (by simpa using hh)
        refine ⟨?_, by omega⟩
        rw [Lib.decDigits, dif_neg (by omega)]
        rw [show (10 * Pr.val (x :: r) + (c.toNat - 48)) / 10 = Pr.val (x :: r) by omega, show (10 * Pr.val (x :: r) + (c.toNat - 48)) % 10 = c.toNat - 48 by omega, h1, hof]
theorem dec_num {d : T} (h : NumOk d) : Lib.decDigits (Pr.val d) = d ∧ (Pr.val d = 0 ↔ d = [48]) := by
  obtain ⟨h1, h2, h3, h4⟩ := h
  by_cases hh : d.head? = some 48
  · have hl : d.length = 1 := by
      have : 0 < d.length := List.length_pos_iff.2 h2
      rcases Nat.lt_or_ge 1 d.length with h' | h'
      · exact absurd hh (h4 h')
      · omega
    have hd : d = [48] := by
      match d, hl, hh with
      | [x], _, hx => simp at hx; rw [hx]
    subst hd
    exact ⟨by rw [show Pr.val [48] = 0 from rfl, Lib.decDigits_one (by decide)]; rfl, by simp [Pr.val]⟩
  · obtain ⟨k1, k2⟩ := dec_of _ d rfl h1 h2 hh
    refine ⟨k1, fun e => by omega, fun e => ?_⟩
    rw [e] at hh
    exact absurd rfl hh
end Go.Proofs.YtaepcfidpekflaaGreatDoor.Pg
namespace Go.Proofs.YtaepcfidpekflaaGreatDoor
open Go.RowKit Pg

/-- What the writer needs of the library's variables. -/
def Bas (w : World) : Prop := (∃ m, w.cell? ⟨3, 0, none⟩ = some (.int .i64 m)) ∧ Lib.TabIs Tryz.prog w "internal/strconv.uint64pow10" .u64 Lib.pow10Tab
theorem Bas.below {w w' : World} (h : Bas w) (hb : Below w.heap.size w w') : Bas w' := by
  obtain ⟨⟨m, h2⟩, h4⟩ := h
  exact ⟨⟨m, (hb.cell (p := ⟨_, 0, none⟩) (cell_lt h2)).trans h2⟩, var?_below hb pow10_named (var_lt pow10_named h4) h4⟩
set_option maxHeartbeats 400000 in
theorem format_bas (u : Nat) (hu : u ≤ 1000000000) (w : World) (hB : Bas w) :
    Calls Tryz.prog 227 #[.int .u64 u, .int .i64 10] w fun e w' => e = .returned (.string ⟨(Lib.decDigits u).toArray⟩) ∧ Below w.heap.size w w' := by
  go_enter Tryz.func227, Tryz.ntmps227
  go_wp2_with (go_at_call 245; refine (iformat_any u hu _ hB.2).mono ?_; rintro e w' ⟨rfl, hb⟩)
  go_ret
  exact ⟨rfl, hb⟩
set_option maxHeartbeats 800000 in
theorem wdecimal_any (d : Pg.T) (hd : NumOk d) (w : World) (hB : Bas w) :
    Calls Tryz.prog 203 #[.int .u32 (Pr.val d : Nat)] w fun e w' => e = .returned (.string ⟨d.toArray⟩) ∧ Below w.heap.size w w' := by
  have hs := val_small hd
  have kf := format_bas (Pr.val d) (by omega) w hB
  rw [(dec_num hd).1] at kf
  go_enter Tryz.func203, Tryz.ntmps203
  generalize Pr.val d = V at *
  go_wp2_with fail
  refine kf.mono ?_
  rintro e w2 ⟨rfl, hb⟩
  go_wp2
  go_ret
  exact ⟨rfl, hb⟩
/-- An argument by number as the program has it. -/
def pluV (n : Pg.T) (a : Nat) (ord : Bool) (off : Pg.T) (v : Value) (e : Nat) : Value := .agg #[.string ⟨n.toArray⟩, .int .i64 (a : Nat), .bool ord, .int .u32 (Pr.val off : Nat), v, .int .i64 (e : Nat)]
def ordT (ord : Bool) : Pg.T := if ord = true then ordinalW else pluralW
set_option maxHeartbeats 800000 in
theorem wword_any (n : Pg.T) (a : Nat) (ord : Bool) (off : Pg.T) (va : Option Addr) (vn vc : Nat) (e0 : Nat) (w : World) :
    Calls Tryz.prog 166 #[pluV n a ord off (.slice va vn vc) e0] w fun e w' => e = .returned (.string ⟨(ordT ord).toArray⟩) ∧ Below w.heap.size w w' := by
  unfold pluV
  have hb := allocB w (.cells #[.string ⟨n.toArray⟩, .int .i64 (a : Nat), .bool ord, .int .u32 (Pr.val off : Nat), .slice va vn vc, .int .i64 (e0 : Nat)] 299)
  cases ord with
  | true =>
    go_enter Tryz.func166, Tryz.ntmps166
    go_wp2
    go_ret
    exact ⟨rfl, by first | exact hb | exact Below.refl _ _⟩
  | false =>
    go_enter Tryz.func166, Tryz.ntmps166
    go_wp2
    go_ret
    exact ⟨rfl, by first | exact hb | exact Below.refl _ _⟩
theorem offT_val {off : Pg.T} (h : NumOk off) : Dk.offT off = if Pr.val off = 0 then [] else [32, 111, 102, 102, 115, 101, 116, 58] ++ off := by
  unfold Dk.offT
  by_cases h0 : off = [48]
  · rw [if_pos h0, if_pos ((dec_num h).2.2 h0)]
  · rw [if_neg h0, if_neg (fun e => h0 ((dec_num h).2.1 e))]
set_option maxHeartbeats 800000 in
theorem woffset_any (n : Pg.T) (a : Nat) (ord : Bool) (off : Pg.T) (va : Option Addr) (vn vc : Nat) (e0 : Nat) (w : World) (hB : Bas w) (ho : NumOk off) :
    Calls Tryz.prog 167 #[pluV n a ord off (.slice va vn vc) e0] w fun e w' => e = .returned (.string ⟨(Dk.offT off).toArray⟩) ∧ Below w.heap.size w w' := by
  unfold pluV
  have hs := val_small ho
  have h9 := ho.2.2.1
  have kd := fun W (h : Below w.heap.size w W) => wdecimal_any off ho W (hB.below h)
  have hb := allocB w (.cells #[.string ⟨n.toArray⟩, .int .i64 (a : Nat), .bool ord, .int .u32 (Pr.val off : Nat), .slice va vn vc, .int .i64 (e0 : Nat)] 299)
  have HO : Hid (Dk.offT off = if Pr.val off = 0 then [] else [32, 111, 102, 102, 115, 101, 116, 58] ++ off) := offT_val ho
  by_cases h0 : Pr.val off = 0
  · have HO2 : Hid (Dk.offT off = []) := by show _ = _; rw [HO.out, if_pos h0]
    have h0' : ((Pr.val off : Int) == 0) = true := by rw [h0]; rfl
    clear HO h0 kd
    generalize Pr.val off = V at *
    go_enter Tryz.func167, Tryz.ntmps167
    go_wp2
    go_ret
    exact ⟨by rw [HO2.out]; try rfl, by first | exact hb | exact Below.refl _ _⟩
  · have HO2 : Hid (Dk.offT off = [32, 111, 102, 102, 115, 101, 116, 58] ++ off) := by show _ = _; rw [HO.out, if_neg h0]
    have h0' : ((Pr.val off : Int) == 0) = false := by rw [beq_eq_false_iff_ne]; omega
    clear HO h0
    generalize Pr.val off = V at *
    go_enter Tryz.func167, Tryz.ntmps167
    go_wp2_with (first | (go_at_call 203; refine (kd _ (by first | exact hb | exact Below.refl _ _)).mono ?_; rintro e w2 ⟨rfl, hb2⟩))
    go_wp2
    go_ret
    exact ⟨by rw [HO2.out]; congr 2; try (apply ByteArray.ext; simp), by first | exact below_of hb hb2 | exact hb2⟩
end Go.Proofs.YtaepcfidpekflaaGreatDoor
