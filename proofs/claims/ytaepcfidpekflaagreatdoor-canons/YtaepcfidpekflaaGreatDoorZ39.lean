/-
  Several texts in one (Ip, Sb, Sc, Qc, Sd, Se). By the verifier.
-/
import Derived.Test.YtaepcfidpekflaaGreatDoorZ36
import Derived.Test.YtaepcfidpekflaaGreatDoorZ33
import Derived.Test.YtaepcfidpekflaaGreatDoorZ38
import Derived.Test.YtaepcfidpekflaaGreatDoorZ13
import Derived.Test.YtaepcfidpekflaaGreatDoorZ03
import Derived.Test.YtaepcfidpekflaaGreatDoorZ04
namespace Go.Proofs.YtaepcfidpekflaaGreatDoor.Pg
open Go.Proofs.YtaepcfidpekflaaGreatDoor

theorem canGo_len : ∀ (l : List Dk.Mark) (st : List Bool), (∀ m ∈ l, Dk.MOk m) → (Dk.canGo st l).length ≤ l.length * 12200 := by
  intro l
  induction l with
  | nil => intro st _; simp [Dk.canGo]
  | cons m r ih =>
    intro st h
    have h1 := Dk.piece_len st (h m (by simp))
    have h2 := ih (Dk.stack st m) (fun q hq => h q (by simp [hq]))
    rw [Dk.canGo, List.length_append, List.length_cons]
    omega
theorem canT_canGo (o : Nat → Nat) (t : Tr) : canT false t = Dk.canGo [] (flat o t) := by
  have := canGo_flat (o := o) t [] []
  simp only [List.append_nil, Dk.canGo] at this
  exact this.symm
theorem texts_o (o o' : Nat → Nat) : ∀ t : Tr, (flat o t).map Dk.Mark.text = (flat o' t).map Dk.Mark.text := by
  intro t
  induction t <;> simp_all [flat]
theorem ts_of {o : Nat → Nat} {t : Tr} (h : ∀ m ∈ flat o t, Dk.MOk m) : Ts t := by
  intro m hm
  have h1 : m.text ∈ (flat id t).map Dk.Mark.text := List.mem_map_of_mem hm
  rw [texts_o id o] at h1
  obtain ⟨q, hq, e⟩ := List.mem_map.1 h1
  rw [← e]
  have := (h q hq).1
  omega
/-- What a tree that was read is. -/
theorem tree_all {s : T} (hl : s.length ≤ 1000) (h1 : Pn.ptsLen s = s.length) {t : Tr} (h2 : Whole (Pn.pts s) (.inr t)) : Vd t ∧ Wf false t ∧ Ts t ∧ (canT false t).length ≤ 40000000 := by
  obtain ⟨hp, hf⟩ := pts_of s h1
  obtain ⟨w1, w2, w3, w4, w5, w6⟩ := whole_marks hp.cps h2
  have hm := tree_mok hl h1 h2
  refine ⟨w4, w3, ts_of hm, ?_⟩
  rw [canT_canGo (o (Pn.pts s))]
  have h3 := canGo_len _ [] hm
  obtain ⟨g1, g2, g3, g4, g5, g6⟩ := tree_marks h1 h2
  have : (flat (o (Pn.pts s)) t).length * 12200 ≤ 3016 * 12200 := Nat.mul_le_mul_right _ (by omega)
  omega
end Go.Proofs.YtaepcfidpekflaaGreatDoor.Pg
namespace Go.Proofs.YtaepcfidpekflaaGreatDoor
open Go.RowKit Go.Maps Pg

theorem wr_all : ∀ (k : Nat) (t : Pg.Tr), nM t ≤ k → WrMsg t ∧ WrBrs t := by
  intro k
  induction k with
  | zero => intro t h; exact ⟨wmsg_of t (fun bs hb => by omega), wbrs_of t (fun m hm => by omega)⟩
  | succ k ih => intro t h; exact ⟨wmsg_of t (fun bs hb => (ih bs (by omega)).2), wbrs_of t (fun m hm => (ih m (by omega)).1)⟩
set_option maxHeartbeats 1600000 in
set_option maxRecDepth 100000 in
theorem pcanon_any (w : World) (v : Value) (t : Pg.Tr) (S : Nat → Prop) (hB : Bas w) (hvd : Vd t) (hwf : Wf false t) (hts : Ts t) (hlen : (canT false t).length ≤ 40000000) (hrow : RowAt w S 1 v t) :
    Calls Tryz.prog 94 #[v] w fun e w' => e = .returned (.string ⟨(canT false t).toArray⟩) ∧ Below w.heap.size w w' := by
  have hba : Below w.heap.size w (w.alloc (.cells #[.pointer none, .slice none 0 0] 238)) := allocB _ _
  have hW : Wtr (w.alloc (.cells #[.pointer none, .slice none 0 0] 238)) w.heap.size w.heap.size [] :=
    .inl ⟨Nat.le_refl _, .slice none 0 0, heap_new w _, World.ownsRowF_of (World.ownsRow_nil _ _ _ _), by simp [Value.ownBlock]⟩
  have hrow2 : RowAt (w.alloc (.cells #[.pointer none, .slice none 0 0] 238)) (fun g => g < w.heap.size) 1 v t := hrow.mono hba.size fun g _ hl => ⟨hba.block g hl, hl⟩
  have km := (wr_all _ t (Nat.le_refl _)).1 _ w.heap.size w.heap.size [] false v hvd hwf hts (fun W hW => hB.below (hba.trans hW)) (by simp) hW hrow2 (by simpa using hlen)
  rw [List.nil_append] at km
  obtain ⟨va, vn, vc, rfl⟩ : ∃ va vn vc, v = .slice va vn vc := by
    obtain ⟨us, h1, _⟩ := hrow
    rcases h1 with ⟨_, h1⟩ | ⟨g, n, c, h1, _⟩
    · exact ⟨_, _, _, h1⟩
    · exact ⟨_, _, _, h1⟩
  have HBA : Hid (Below w.heap.size w (w.alloc (.cells #[.pointer none, .slice none 0 0] 238))) := hba
  clear hW hrow hrow2 hba
  generalize canT false t = C at *
  go_enter Tryz.func94, Tryz.ntmps94
  go_wp2_with fail
  refine km.mono ?_
  rintro e w1 ⟨rfl, hw1, hb1⟩
  have HB1 : Hid (Below w.heap.size w w1) := HBA.out.trans hb1
  have ks := wstring_any w.heap.size w.heap.size C w1 hw1 HB1.out.size
  clear km hw1 hb1
  go_wp2_with fail
  refine ks.mono ?_
  rintro e w2 ⟨rfl, hb2⟩
  have HB2 : Hid (Below w.heap.size w w2) := HB1.out.trans hb2
  clear ks hb2
  go_wp2
  go_ret
  exact ⟨rfl, HB2.out⟩
/-- What Canon answers of a text. -/
def outP : Sum (Nat × Nat) Pg.Tr → Pg.T × Nat × Nat
  | .inl (er, a) => ([], er, a)
  | .inr t => (canT false t, 0, 0)
def CanSaid (s : Pg.T) (w : World) (e : Ending) (w' : World) : Prop := Below w.heap.size w w' ∧ ∃ r, PatR s r ∧ match r with
  | .inl (er, a) => ∃ v, e = .returned (.tuple #[.string ⟨#[]⟩, v]) ∧ Flt w.heap.size w' v er a
  | .inr t => e = .returned (.tuple #[.string ⟨(canT false t).toArray⟩, .nilIface])
set_option maxHeartbeats 1600000 in
set_option maxRecDepth 100000 in
theorem phcanon_any (s : Pg.T) (w : World) (hU : Lib.Utf8Tabs 1 2 w) (hB : Bas w) (hs : s.length ≤ 1000000) :
    Calls Tryz.prog 64 #[.string ⟨s.toArray⟩] w fun e w' => CanSaid s w e w' := by
  have kn := pnew_any s w hU hs
  go_enter Tryz.func64, Tryz.ntmps64
  go_wp2_with fail
  refine kn.mono ?_
  rintro e w1 ⟨hb1, r, hr, hm⟩
  have HB1 : Hid (Below w.heap.size w w1) := hb1
  have HR : Hid (PatR s r) := hr
  clear kn
  cases r with
  | inl x =>
    obtain ⟨er, a⟩ := x
    obtain ⟨v, rfl, hv⟩ := hm
    have HV : Hid (Flt w.heap.size w1 v er a) := hv
    obtain ⟨b, rfl, _⟩ := hv
    clear hr hb1
    go_wp2
    go_ret2
    exact ⟨HB1.out, _, HR.out, _, rfl, HV.out⟩
  | inr t =>
    obtain ⟨v, rfl, hrow⟩ := hm
    have hall : Vd t ∧ Wf false t ∧ Ts t ∧ (canT false t).length ≤ 40000000 := by
      cases hr with
      | ok h h1 h2 h3 => exact tree_all h h1 h2
    have kc := pcanon_any w1 v t _ (hB.below hb1) hall.1 hall.2.1 hall.2.2.1 hall.2.2.2 hrow
    obtain ⟨va, vn, vc, rfl⟩ : ∃ va vn vc, v = .slice va vn vc := by
      obtain ⟨us, h1, _⟩ := hrow
      rcases h1 with ⟨_, h1⟩ | ⟨g, n, c, h1, _⟩
      · exact ⟨_, _, _, h1⟩
      · exact ⟨_, _, _, h1⟩
    clear hall hrow hr hb1
    obtain ⟨C, HC⟩ : ∃ C, Hid (canT false t = C) := ⟨_, rfl⟩
    rw [HC.out] at kc
    go_wp2_with fail
    refine kc.mono ?_
    rintro e w2 ⟨rfl, hb2⟩
    have HB2 : Hid (Below w.heap.size w w2) := below_of HB1.out hb2
    clear kc hb2
    go_wp2
    go_ret2
    exact ⟨HB2.out, _, HR.out, by show _ = Ending.returned (.tuple #[.string ⟨(canT false t).toArray⟩, .nilIface]); rw [HC.out]; rfl⟩
set_option maxHeartbeats 1600000 in
set_option maxRecDepth 100000 in
theorem plcanon_any (s : Pg.T) (w : World) (hE : w.cell? ⟨0, 0, none⟩ = some (.iface 208 (.agg #[.pointer (some ⟨9, 67, none⟩)]))) (hU : Lib.Utf8Tabs 1 2 w) (hB : Bas w) (hs : s.length ≤ 1000000) :
    Calls Tryz.prog 39 #[.string ⟨s.toArray⟩] w fun e w' => Below w.heap.size w w' ∧ ∃ r, PatR s r ∧ e = .returned (.tuple #[.string ⟨(outP r).1.toArray⟩, .int .i64 ((outP r).2.1 : Nat), .int .i64 ((outP r).2.2 : Nat)]) := by
  have kn := phcanon_any s w hU hB hs
  go_enter Tryz.func39, Tryz.ntmps39
  go_wp2_with fail
  refine kn.mono ?_
  rintro e w1 ⟨hb1, r, hr, hm⟩
  have HB1 : Hid (Below w.heap.size w w1) := hb1
  have HR : Hid (PatR s r) := hr
  have hE1 := (hb1.cell (p := ⟨0, 0, none⟩) (cell_lt hE)).trans hE
  clear kn hE
  cases r with
  | inl x =>
    obtain ⟨er, a⟩ := x
    obtain ⟨v, rfl, b, rfl, hbl, hrow⟩ := hm
    have kt := tell_fault b er a w1 hE1 hrow.1 (hrow.2.1 0) (hrow.2.1 1)
    clear hr hb1 hrow hE1 hbl
    go_wp2_with fail
    refine kt.mono ?_
    rintro e w2 ⟨rfl, hb2⟩
    have HB2 : Hid (Below w.heap.size w w2) := below_of HB1.out hb2
    clear kt hb2
    go_wp2
    refine bodyPost_ret (v := .tuple #[.string ⟨#[]⟩, .int .i64 er, .int .i64 a]) (by simp [results, Tryz.results39, go_sem]) rfl ?_
    exact ⟨HB2.out, _, HR.out, rfl⟩
  | inr t =>
    obtain rfl := hm
    have kt := tell_nil w1
    obtain ⟨C, HC⟩ : ∃ C, Hid (canT false t = C) := ⟨_, rfl⟩
    rw [HC.out]
    clear hr hb1 hE1
    go_wp2_with fail
    refine kt.mono ?_
    rintro e w2 ⟨rfl, hb2⟩
    have HB2 : Hid (Below w.heap.size w w2) := below_of HB1.out hb2
    clear kt hb2
    go_wp2
    refine bodyPost_ret (v := .tuple #[.string ⟨C.toArray⟩, .int .i64 0, .int .i64 0]) (by simp [results, Tryz.results39, go_sem]) rfl ?_
    exact ⟨HB2.out, _, HR.out, by rw [← HC.out]; rfl⟩
end Go.Proofs.YtaepcfidpekflaaGreatDoor
namespace Go.Proofs.YtaepcfidpekflaaGreatDoor
open Go.RowKit

set_option maxHeartbeats 400000 in
theorem small_any (t : Pr.T) (hd : ∀ c ∈ t, Pn.isDig c = true) (hl : t.length ≤ 9) (w : World) : Calls Tryz.prog 118 #[.string ⟨t.toArray⟩] w fun e w' => e = .returned (.int .i64 (Pr.val t)) ∧ w' = w := by
  obtain ⟨s, hs⟩ : ∃ s : ByteArray, s = ⟨t.toArray⟩ := ⟨_, rfl⟩
  have hsd : s.data.toList = t := by rw [hs]
  rw [← hs]
  have HD : Hid (∀ c ∈ s.data.toList, Pn.isDig c = true) := by rw [hsd]; exact hd
  have HV : Hid (Pr.val s.data.toList = Pr.val t) := by show _ = _; rw [hsd]
  have hsz : s.size ≤ 9 := by rw [Lib.size_eq, hsd]; exact hl
  generalize Pr.val t = V at *
  clear hsd hs hd hl
  go_enter Tryz.func118, Tryz.ntmps118
  go_wp2
  go_loop [3, 4] (fun v i => ∃ k : Nat, k ≤ s.size ∧ i = .int .i64 k ∧ ∃ x : Nat, v = .int .i64 x ∧ Hid (x = Pr.val (s.data.toList.take k)) ∧ x < 1000000000) (fun _ i => s.size - (intOf i).toNat)
  case atStart => exact ⟨0, Nat.zero_le _, rfl, 0, rfl, by show _ = _; simp [Pr.val], by omega⟩
  case round =>
    obtain ⟨k, hk, rfl, x, rfl, HX, hx⟩ := hrel
    by_cases hp : k < s.size
    · have hg : Pn.isDig s[k] = true := HD.out _ (by
        have : s[k] = s.data.toList[k]'(by simpa using hp) := rfl
        rw [this]; exact List.getElem_mem _)
      have hv := val_take s k hp
      have hlt := val_lt (s.data.toList.take (k + 1)) (fun c hc => HD.out c (List.mem_of_mem_take hc))
      have hl9 : (s.data.toList.take (k + 1)).length ≤ 9 := by rw [List.length_take, ← Lib.size_eq]; omega
      have hp9 : 10 ^ (s.data.toList.take (k + 1)).length ≤ 10 ^ 9 := Nat.pow_le_pow_right (by omega) hl9
      have h9 : (10 : Nat) ^ 9 = 1000000000 := by decide
      obtain ⟨h1, h2⟩ := (Pn.isDig_iff _).1 hg
      have hp' : (k : Int) < s.size := by omega
      have HX2 : Hid (10 * x + (s[k].toNat - 48) = Pr.val (s.data.toList.take (k + 1))) := by show _ = _; rw [hv, HX.out]
      have hx2 : 10 * x + (s[k].toNat - 48) < 1000000000 := by rw [HX2.out]; omega
      generalize hq : s[k].toNat = q at *
      have hw1 : IntKind.u8.wrap ((q : Int) - 48) = (q : Int) - 48 := by rw [IntKind.wrap_u8]; omega
      have hw2 : IntKind.i64.wrap (10 * (x : Int)) = 10 * (x : Int) := by rw [IntKind.wrap_i64]; omega
      have hw3 : IntKind.i64.wrap (10 * (x : Int) + ((q : Int) - 48)) = 10 * (x : Int) + ((q : Int) - 48) := by rw [IntKind.wrap_i64]; omega
      clear hv hlt hl9 hp9 h9 hg HX
      go_wp2
      go_round
      case rel => exact ⟨k + 1, hp, by go_num, 10 * x + (q - 48), by congr 1; omega, HX2, hx2⟩
      case measure => simp [intOf]; omega
    · have hp' : ¬ (k : Int) < s.size := by omega
      have HE : Hid (x = V) := by
        show _ = _
        rw [HX.out, List.take_of_length_le (by rw [← Lib.size_eq]; omega), HV.out]
      clear HX
      go_wp2
      go_ret
      exact ⟨by rw [HE.out]; rfl, rfl⟩
theorem digit_at (k : Nat) (h : k < 10) : (⟨#[48, 49, 50, 51, 52, 53, 54, 55, 56, 57]⟩ : ByteArray).extract k (k + 1) = ⟨#[UInt8.ofNat (48 + k)]⟩ := by
  match k, h with
  | 0, _ => decide
  | 1, _ => decide
  | 2, _ => decide
  | 3, _ => decide
  | 4, _ => decide
  | 5, _ => decide
  | 6, _ => decide
  | 7, _ => decide
  | 8, _ => decide
  | 9, _ => decide
set_option maxHeartbeats 400000 in
theorem decimal_any : ∀ (v : Nat) (w : World), v ≤ 1000000000 → Calls Tryz.prog 120 #[.int .i64 v] w fun e w' => e = .returned (.string ⟨(Lib.decDigits v).toArray⟩) ∧ Below w.heap.size w w' := by
  intro v
  induction v using Nat.strongRecOn with
  | _ v ih =>
    intro w hv
    have hm : ((v : Int).tmod 10) = ((v % 10 : Nat) : Int) := rfl
    have hx := digit_at (v % 10) (by omega)
    by_cases h : v < 10
    · have h' : (v : Int) < 10 := by omega
      have hR : Hid (Lib.decDigits v = [UInt8.ofNat (48 + v)]) := by show _ = _; rw [Lib.decDigits, dif_pos h]
      rw [Nat.mod_eq_of_lt h] at hm hx
      clear ih
      go_enter Tryz.func120, Tryz.ntmps120
      go_wp2
      go_ret
      exact ⟨by rw [hR.out]; simp [UInt8.ofNat_add], Below.refl _ _⟩
    · have h' : ¬ (v : Int) < 10 := by omega
      have hR : Hid (Lib.decDigits v = Lib.decDigits (v / 10) ++ [UInt8.ofNat (48 + v % 10)]) := by show _ = _; rw [Lib.decDigits, dif_neg h]
      have hdv : (v : Int).tdiv 10 = ((v / 10 : Nat) : Int) := rfl
      have c1 : ∀ W, Calls Tryz.prog 120 #[.int .i64 ((v : Int) / 10)] W fun e w' => e = .returned (.string ⟨(Lib.decDigits (v / 10)).toArray⟩) ∧ Below W.heap.size W w' := fun W => by
        have := ih (v / 10) (by omega) W (by omega)
        rw [show ((v / 10 : Nat) : Int) = (v : Int) / 10 from rfl] at this
        exact this
      clear ih
      go_enter Tryz.func120, Tryz.ntmps120
      go_wp2_with fail
      refine (c1 _).mono ?_
      rintro e w1 ⟨rfl, hb1⟩
      have hcat : (⟨(Lib.decDigits (v / 10)).toArray⟩ : ByteArray) ++ ⟨#[48 + UInt8.ofNat (v % 10)]⟩ = ⟨(Lib.decDigits v).toArray⟩ := by
        rw [hR.out]
        apply ByteArray.ext
        simp [ByteArray.data_append, UInt8.ofNat_add]
      have hn := (dec_digs (v / 10) (by omega)).2
      clear c1 hR
      go_wp2
      go_ret
      exact ⟨rfl, hb1⟩

/-- Digits without noughts ahead; of none: 0. -/
def plainD (t : Pr.T) : Pr.T := if t.dropWhile (· == 48) = [] then [48] else t.dropWhile (· == 48)
theorem plainD_step (r : Pr.T) : plainD (48 :: r) = plainD r := by
  unfold plainD
  rw [List.dropWhile_cons_of_pos (by rfl)]
theorem plainD_one (c : UInt8) : plainD [c] = [c] := by
  unfold plainD
  by_cases h : c = 48
  · subst h; rfl
  · rw [List.dropWhile_cons_of_neg (by simpa using h)]
    simp
theorem plainD_stop (c : UInt8) (r : Pr.T) (h : c ≠ 48) : plainD (c :: r) = c :: r := by
  unfold plainD
  rw [List.dropWhile_cons_of_neg (by simpa using h)]
  simp
set_option maxHeartbeats 400000 in
theorem plain_any (t : Pr.T) (ht : t.length ≤ 1000) (w : World) : Calls Tryz.prog 152 #[.string ⟨t.toArray⟩] w fun e w' => e = .returned (.string ⟨(plainD t).toArray⟩) ∧ w' = w := by
  obtain ⟨R, hR⟩ : ∃ R, Hid (plainD t = R) := ⟨_, rfl⟩
  rw [hR.out]
  go_enter Tryz.func152, Tryz.ntmps152
  go_wp2
  go_loop [0] (fun x => ∃ u : Pr.T, x = .string ⟨u.toArray⟩ ∧ u.length ≤ 1000 ∧ Hid (plainD u = R)) (fun x => match x with | .string s => s.size | _ => 0)
  case atStart => exact ⟨t, rfl, ht, hR⟩
  case round =>
    obtain ⟨u, rfl, hu, HU⟩ := hrel
    cases u with
    | nil =>
      have hF : Hid (R = [48]) := HU.out.symm
      go_wp2
      go_ret
      exact ⟨by rw [hF.out]; rfl, rfl⟩
    | cons c r =>
      simp only [List.length_cons] at hu
      have h0 : ∀ h, ((⟨(c :: r).toArray⟩ : ByteArray)[0]'h).toNat = c.toNat := fun h => rfl
      have hd := ex_drop (c :: r) 1
      simp only [List.length_cons, List.drop_succ_cons, List.drop_zero] at hd
      by_cases h1 : r.length = 0
      · have h1' : ¬ (1 : Int) < r.length + 1 := by omega
        have hr : r = [] := List.length_eq_zero_iff.1 h1
        subst hr
        have hF : Hid (R = [c]) := HU.out.symm.trans (plainD_one c)
        clear h1 HU
        go_wp2
        go_ret
        exact ⟨by rw [hF.out]; rfl, rfl⟩
      · have h1' : (1 : Int) < r.length + 1 := by omega
        by_cases hc : c = 48
        · have hc' : ((c.toNat : Int) == 48) = true := by rw [hc]; rfl
          have hF : Hid (plainD r = R) := by
            show _ = _
            rw [← HU.out, hc, plainD_step r]
          clear h1 HU hc
          go_wp2
          go_round
          case rel => exact ⟨r, rfl, by omega, hF⟩
          case measure =>
            show r.toArray.size < (c :: r).toArray.size
            simp
        · have hc' : ((c.toNat : Int) == 48) = false := by
            rw [beq_eq_false_iff_ne]
            intro e
            exact hc (UInt8.toNat_inj.1 (by show c.toNat = 48; omega))
          have hF : Hid (R = c :: r) := HU.out.symm.trans (plainD_stop c r hc)
          clear h1 HU hc
          go_wp2
          go_ret
          exact ⟨by rw [hF.out]; rfl, rfl⟩
end Go.Proofs.YtaepcfidpekflaaGreatDoor
namespace Go.Proofs.YtaepcfidpekflaaGreatDoor
open Go.RowKit

set_option maxHeartbeats 800000 in
theorem left_any (t : Pr.T) (m : Nat) (hd : Digs t) (hm : 1 ≤ m) (hm2 : m ≤ 1000000000) (w : World) : Calls Tryz.prog 119 #[.string ⟨t.toArray⟩, .int .i64 m] w fun e w' => e = .returned (.int .i64 (Pr.val t % m : Nat)) ∧ w' = w := by
  obtain ⟨s, hs⟩ : ∃ s : ByteArray, s = ⟨t.toArray⟩ := ⟨_, rfl⟩
  have hsd : s.data.toList = t := by rw [hs]
  rw [← hs]
  have HD : Hid (∀ c ∈ s.data.toList, Pn.isDig c = true) := by rw [hsd]; exact hd.1
  have HV : Hid (Pr.val s.data.toList = Pr.val t) := by show _ = _; rw [hsd]
  have hsz : s.size ≤ 30 := by rw [Lib.size_eq, hsd]; exact hd.2
  generalize Pr.val t = V at *
  clear hsd hs hd
  go_enter Tryz.func119, Tryz.ntmps119
  go_wp2
  go_loop [5, 6] (fun v i => ∃ k : Nat, k ≤ s.size ∧ i = .int .i64 k ∧ ∃ x : Nat, v = .int .i64 x ∧ Hid (x = Pr.val (s.data.toList.take k) % m) ∧ x < m) (fun _ i => s.size - (intOf i).toNat)
  case atStart => exact ⟨0, Nat.zero_le _, rfl, 0, rfl, by show _ = _; simp [Pr.val], by omega⟩
  case round =>
    obtain ⟨k, hk, rfl, x, rfl, HX, hx⟩ := hrel
    by_cases hp : k < s.size
    · have hg : Pn.isDig s[k] = true := HD.out _ (by
        have : s[k] = s.data.toList[k]'(by simpa using hp) := rfl
        rw [this]; exact List.getElem_mem _)
      have hv := val_take s k hp
      obtain ⟨h1, h2⟩ := (Pn.isDig_iff _).1 hg
      have hp' : (k : Int) < s.size := by omega
      have HX2 : Hid ((10 * x + (s[k].toNat - 48)) % m = Pr.val (s.data.toList.take (k + 1)) % m) := by
        show _ = _
        rw [hv, HX.out, Nat.add_mod, Nat.mul_mod, Nat.mod_mod, ← Nat.mul_mod, ← Nat.add_mod]
      generalize hq : s[k].toNat = q at *
      have hw1 : IntKind.u8.wrap ((q : Int) - 48) = (q : Int) - 48 := by rw [IntKind.wrap_u8]; omega
      have hw2 : IntKind.i64.wrap ((x : Int) * 10) = (x : Int) * 10 := by rw [IntKind.wrap_i64]; omega
      have hw3 : IntKind.i64.wrap ((x : Int) * 10 + ((q : Int) - 48)) = (x : Int) * 10 + ((q : Int) - 48) := by rw [IntKind.wrap_i64]; omega
      have hN : (x : Int) * 10 + ((q : Int) - 48) = ((10 * x + (q - 48) : Nat) : Int) := by omega
      have hbig : 10 * x + (q - 48) ≤ 20000000000 := by omega
      clear hv hg HX
      generalize hT : Pr.val (s.data.toList.take (k + 1)) % m = TT at *
      go_wp2_with fail
      go_loop [5] (fun v => ∃ y : Nat, v = .int .i64 y ∧ Hid (y % m = TT) ∧ y ≤ 20000000000) (fun v => (intOf v).toNat)
      case atStart => exact ⟨10 * x + (q - 48), by congr 1, HX2, hbig⟩
      case round =>
        obtain ⟨y, rfl, HY, hy⟩ := hrel
        by_cases hmy : m ≤ y
        · have hmy' : (m : Int) ≤ y := by omega
          go_wp2_with fail
          go_loop [7] (fun z => ∃ p : Nat, z = .int .i64 p ∧ p ≤ y ∧ 1 ≤ p ∧ Hid (p % m = 0)) (fun z => y - (intOf z).toNat)
          case atStart => exact ⟨m, rfl, hmy, hm, by show _ = _; simp⟩
          case round =>
            obtain ⟨p, rfl, hpy, hp1, HP⟩ := hrel
            have hw4 : IntKind.i64.wrap ((p : Int) * 2) = (p : Int) * 2 := by rw [IntKind.wrap_i64]; omega
            have hw5 : IntKind.i64.wrap ((y : Int) - p) = (y : Int) - p := by rw [IntKind.wrap_i64]; omega
            by_cases h2p : p * 2 ≤ y
            · have h2p' : (p : Int) * 2 ≤ y := by omega
              have HP2 : Hid (p * 2 % m = 0) := by show _ = _; rw [Nat.mul_mod, HP.out]; simp
              go_wp2
              go_round
              case rel => exact ⟨p * 2, by congr 1, h2p, by omega, HP2⟩
              case measure => simp [intOf]; omega
            · have h2p' : ¬ (p : Int) * 2 ≤ y := by omega
              have HY2 : Hid ((y - p) % m = TT) := by
                show _ = _
                rw [← HY.out]
                have hd : m ∣ p := Nat.dvd_of_mod_eq_zero HP.out
                obtain ⟨j, rfl⟩ := hd
                exact Nat.sub_mul_mod hpy
              go_wp2
              go_round
              case rel => exact ⟨y - p, by congr 1; omega, HY2, by omega⟩
              case measure => simp [intOf]; omega
        · have hmy' : ¬ (m : Int) ≤ y := by omega
          have HE : Hid (y = TT) := by show _ = _; rw [← HY.out, Nat.mod_eq_of_lt (by omega)]
          have hT' : Hid (Pr.val (s.data.toList.take (k + 1)) % m = TT) := hT
          clear hT HY
          go_wp2
          go_round
          case rel => exact ⟨k + 1, hp, by go_num, y, rfl, by show _ = _; rw [hT'.out, HE.out], by omega⟩
          case measure => simp [intOf]; omega
    · have hp' : ¬ (k : Int) < s.size := by omega
      have HE : Hid (x = V % m) := by
        show _ = _
        rw [HX.out, List.take_of_length_le (by rw [← Lib.size_eq]; omega), HV.out]
      clear HX
      go_wp2
      go_ret
      exact ⟨by rw [HE.out]; rfl, rfl⟩
/-- Digits with no nought ahead of others. -/
def Canon (a : Pr.T) : Prop := a ≠ [] ∧ (∀ c ∈ a, Pn.isDig c = true) ∧ (a.length = 1 ∨ a.head? ≠ some 48)
theorem less_gt : ∀ (a b : Pr.T) (x y : Nat), a.length = b.length → (∀ c ∈ a, Pn.isDig c = true) → (∀ c ∈ b, Pn.isDig c = true) →
    x < y → a.foldl (fun v c => 10 * v + (c.toNat - 48)) x < b.foldl (fun v c => 10 * v + (c.toNat - 48)) y := by
  intro a
  induction a with
  | nil =>
    intro b x y hl _ _ h
    have : b = [] := List.length_eq_zero_iff.1 hl.symm
    subst this
    exact h
  | cons c r ih =>
    intro b x y hl ha hb h
    cases b with
    | nil => simp at hl
    | cons d s =>
      have h1 := (Pn.isDig_iff c).1 (ha c (by simp))
      have h2 := (Pn.isDig_iff d).1 (hb d (by simp))
      simp only [List.foldl_cons]
      exact ih s _ _ (by simpa using hl) (fun z hz => ha z (by simp [hz])) (fun z hz => hb z (by simp [hz])) (by omega)
theorem less_len : ∀ (a b : Pr.T) (x y : Nat), a.length = b.length → (∀ c ∈ a, Pn.isDig c = true) → (∀ c ∈ b, Pn.isDig c = true) →
    (x < y → a.foldl (fun v c => 10 * v + (c.toNat - 48)) x < b.foldl (fun v c => 10 * v + (c.toNat - 48)) y) ∧ (x = y → (Op.bytesLess a b = true ↔ a.foldl (fun v c => 10 * v + (c.toNat - 48)) x < b.foldl (fun v c => 10 * v + (c.toNat - 48)) y) ∧ (a = b ↔ a.foldl (fun v c => 10 * v + (c.toNat - 48)) x = b.foldl (fun v c => 10 * v + (c.toNat - 48)) y)) := by
  intro a
  induction a with
  | nil =>
    intro b x y hl _ _
    have : b = [] := List.length_eq_zero_iff.1 hl.symm
    subst this
    refine ⟨fun h => h, fun h => ?_⟩
    subst h
    simp [Op.bytesLess]
  | cons c r ih =>
    intro b x y hl ha hb
    cases b with
    | nil => simp at hl
    | cons d s =>
      have h1 := (Pn.isDig_iff c).1 (ha c (by simp))
      have h2 := (Pn.isDig_iff d).1 (hb d (by simp))
      have hr := ih s (10 * x + (c.toNat - 48)) (10 * y + (d.toNat - 48)) (by simpa using hl) (fun z hz => ha z (by simp [hz])) (fun z hz => hb z (by simp [hz]))
      simp only [List.foldl_cons]
      refine ⟨fun h => hr.1 (by omega), fun h => ?_⟩
      subst h
      by_cases hcd : c = d
      · subst hcd
        have := hr.2 rfl
        simp only [Op.bytesLess]
        refine ⟨?_, ?_⟩
        · rw [← this.1]; simp
        · rw [← this.2]; simp
      · have hne : c.toNat ≠ d.toNat := fun e => hcd (UInt8.toNat_inj.1 e)
        rcases Nat.lt_or_ge c.toNat d.toNat with hlt | hge
        · have h3 := hr.1 (by omega)
          have hlt' : c < d := UInt8.lt_iff_toNat_lt.2 hlt
          refine ⟨?_, ?_⟩
          · simp [Op.bytesLess, hlt', h3]
          · simp [hcd]; omega
        · have h4 := (less_gt s r (10 * x + (d.toNat - 48)) (10 * x + (c.toNat - 48)) (by simpa using hl.symm) (fun z hz => hb z (by simp [hz])) (fun z hz => ha z (by simp [hz]))) (by omega)
          have hlt' : ¬ c < d := fun h => by have := UInt8.lt_iff_toNat_lt.1 h; omega
          refine ⟨?_, ?_⟩
          · simp [Op.bytesLess, hlt', hcd]; omega
          · simp [hcd]; omega
end Go.Proofs.YtaepcfidpekflaaGreatDoor
namespace Go.Proofs.YtaepcfidpekflaaGreatDoor
open Go.RowKit

theorem cont_one (x t : Pr.T) : Lib.containsS [⟨x.toArray⟩] ⟨t.toArray⟩ = decide (t = x) := by
  by_cases h : t = x
  · rw [decide_eq_true h]; rw [Lib.containsS_iff]; simp [h]
  · rw [decide_eq_false h]
    cases e : Lib.containsS [⟨x.toArray⟩] ⟨t.toArray⟩ with
    | false => rfl
    | true => rw [Lib.containsS_iff] at e; simp at e; exact absurd e h
theorem cont_two (x y t : Pr.T) : Lib.containsS [⟨x.toArray⟩, ⟨y.toArray⟩] ⟨t.toArray⟩ = decide (t = x ∨ t = y) := by
  by_cases h : t = x ∨ t = y
  · rw [decide_eq_true h]; rw [Lib.containsS_iff]; simpa using h
  · rw [decide_eq_false h]
    cases e : Lib.containsS [⟨x.toArray⟩, ⟨y.toArray⟩] ⟨t.toArray⟩ with
    | false => rfl
    | true => rw [Lib.containsS_iff] at e; simp at e; exact absurd e h

set_option maxHeartbeats 400000 in
theorem take_nil (P : Nat) (w : World) (v : Value) (h : Left P w []) :
    Calls Tryz.prog 214 #[.pointer (some ⟨P, 0, none⟩), v] w fun e w' => e = .returned (.bool false) ∧ Left P w' [] ∧ Ag P w w' := by
  obtain ⟨a, c, h1, h2, h3, h4⟩ := h
  have q1 := h1.2.1
  have q2 := h1.2.2
  go_enter Tryz.func214, Tryz.ntmps214
  go_wp2
  go_ret
  exact ⟨rfl, ⟨a, c, h1, h2, h3, .inl rfl⟩, Ag.refl _ _⟩

set_option maxHeartbeats 400000 in
theorem take_core (P : Nat) (w : World) (t : Pr.T) (l : List Pr.T) (v : Value) (hit : Bool) (h : Left P w (t :: l))
    (hc : Calls Tryz.prog 154 #[v, .string ⟨t.toArray⟩] w fun e w' => e = .returned (.bool hit) ∧ w' = w) :
    Calls Tryz.prog 214 #[.pointer (some ⟨P, 0, none⟩), v] w fun e w' => e = .returned (.bool hit) ∧ Left P w' (if hit then l else t :: l) ∧ Ag P w w' := by
  obtain ⟨a, c, h1, h2, h3, h4⟩ := h
  have q1 := h1.2.1
  have q2 := h1.2.2
  rcases h4 with h4 | ⟨blk, off, rfl, h5, h6, h7⟩
  · cases h4
  obtain ⟨h3, hsm⟩ := h3
  have q0 := h7 0 (by simp)
  simp only [List.length_cons] at h2 h3 q1
  have q0' : w.cell? ⟨blk, off, none⟩ = some (.string ⟨t.toArray⟩) := by simpa using q0
  clear q0
  go_enter Tryz.func214, Tryz.ntmps214
  go_wp2_with fail
  refine hc.mono ?_
  rintro e w1 ⟨rfl, rfl⟩
  cases hit with
  | false =>
    go_wp2
    go_ret
    exact ⟨rfl, ⟨_, c, h1, h2, ⟨h3, hsm⟩, .inr ⟨blk, off, rfl, h5, h6, h7⟩⟩, Ag.refl _ _⟩
  | true =>
    by_cases e : c = 1
    · obtain rfl : l = [] := List.length_eq_zero_iff.1 (by omega)
      subst e
      go_wp2
      go_ret
      exact ⟨rfl, left_set h1 _ _ [] (by simp) ⟨by simp, small_tail hsm⟩ (.inl rfl), (Ag.refl P w1).setCell 0 _⟩
    · go_wp2
      go_ret
      exact ⟨rfl, left_set h1 _ _ l (by omega) ⟨by omega, small_tail hsm⟩ (txts_tail h5 h6 h7), (Ag.refl P w1).setCell 0 _⟩

/-- What take makes of what is left. -/
def took (b : Bool) (l : List Pr.T) : List Pr.T := if b then l.tail else l
def isHead (x : Pr.T) : List Pr.T → Bool
  | [] => false
  | t :: _ => decide (t = x)
theorem take_one (P Q : Nat) (w : World) (l : List Pr.T) (x : Pr.T) (h : Left P w l) (hQ : Row w Q #[.string ⟨x.toArray⟩]) :
    Calls Tryz.prog 214 #[.pointer (some ⟨P, 0, none⟩), .slice (some ⟨Q, 0, none⟩) 1 1] w fun e w' => e = .returned (.bool (isHead x l)) ∧ Left P w' (took (isHead x l) l) ∧ Ag P w w' := by
  cases l with
  | nil => exact take_nil P w _ h
  | cons t l =>
    refine (take_core P w t l _ (decide (t = x)) h ?_).mono fun e w' hh => ?_
    · have := Tryz.slices_Contains_string Q 0 1 1 [⟨x.toArray⟩] ⟨t.toArray⟩ w (by simp) (by simp) (fun j hj => by
        have : j = 0 := by simpa using hj
        subst this
        simpa using hQ.2.1 0)
      simp only [List.take_one, List.head?_cons, Option.toList_some] at this
      rw [cont_one] at this
      exact this
    · obtain ⟨h1, h2, h3⟩ := hh
      refine ⟨h1, ?_, h3⟩
      unfold took isHead
      exact h2
theorem take_two (P Q : Nat) (w : World) (l : List Pr.T) (x y : Pr.T) (h : Left P w l) (hQ : Row w Q #[.string ⟨x.toArray⟩, .string ⟨y.toArray⟩]) :
    Calls Tryz.prog 214 #[.pointer (some ⟨P, 0, none⟩), .slice (some ⟨Q, 0, none⟩) 2 2] w fun e w' => e = .returned (.bool (isHead x l || isHead y l)) ∧ Left P w' (took (isHead x l || isHead y l) l) ∧ Ag P w w' := by
  cases l with
  | nil => exact take_nil P w _ h
  | cons t l =>
    refine (take_core P w t l _ (decide (t = x ∨ t = y)) h ?_).mono fun e w' hh => ?_
    · have := Tryz.slices_Contains_string Q 0 2 2 [⟨x.toArray⟩, ⟨y.toArray⟩] ⟨t.toArray⟩ w (by simp) (by simp) (fun j hj => by
        match j, hj with
        | 0, _ => simpa using hQ.2.1 0
        | 1, _ => simpa using hQ.2.1 1)
      simp only [List.take_succ_cons, List.take_zero] at this
      rw [cont_two] at this
      exact this
    · obtain ⟨h1, h2, h3⟩ := hh
      have : decide (t = x ∨ t = y) = (isHead x (t :: l) || isHead y (t :: l)) := by simp [isHead]
      rw [← this]
      exact ⟨h1, h2, h3⟩

theorem parse_val : ∀ (l : List UInt8) (acc k : Nat), (∀ c ∈ l, Pn.isDig c = true) → acc < 10 ^ k → k + l.length ≤ 18 → Lib.parseUintM (2 ^ 64 - 1) acc l = .ok (l.foldl (fun v c => 10 * v + (c.toNat - 48)) acc) := by
  intro l
  induction l with
  | nil => intro acc k _ _ _; rfl
  | cons c r ih =>
    intro acc k hd ha hk
    have hc := (Pn.isDig_iff c).1 (hd c (by simp))
    simp only [List.length_cons] at hk
    have hp : 10 ^ (k + 1) ≤ 10 ^ 18 := Nat.pow_le_pow_right (by omega) (by omega)
    have hp2 : 10 ^ (k + 1) = 10 * 10 ^ k := by rw [Nat.pow_succ]; omega
    have e18 : (10 : Nat) ^ 18 = 1000000000000000000 := by decide
    have e64 : (2 : Nat) ^ 64 - 1 = 18446744073709551615 := by decide
    simp only [Lib.parseUintM, List.foldl_cons]
    rw [if_pos hc, if_neg (by omega), if_neg (by rw [e64]; omega), show acc * 10 + (c.toNat - 48) = 10 * acc + (c.toNat - 48) by omega]
    exact ih _ (k + 1) (fun x hx => hd x (by simp [hx])) (by omega) (by omega)
theorem parse_digs : ∀ (l : List UInt8) (acc u : Nat), Lib.parseUintM (2 ^ 64 - 1) acc l = .ok u → ∀ c ∈ l, Pn.isDig c = true := by
  intro l
  induction l with
  | nil => intro _ _ _ c hc; cases hc
  | cons x r ih =>
    intro acc u h c hc
    simp only [Lib.parseUintM] at h
    split at h
    · rename_i hx
      split at h
      · cases h
      · split at h
        · cases h
        · rcases List.mem_cons.1 hc with rfl | hc
          · exact (Pn.isDig_iff _).2 hx
          · exact ih _ _ h c hc
    · cases h
theorem digitsB_iff (l : List UInt8) : Pn.digitsB l = true ↔ l ≠ [] ∧ ∀ c ∈ l, Pn.isDig c = true := by
  cases l <;> simp [Pn.digitsB]
theorem parse_fig (t : Pr.T) (v : Nat) (h : Pr.fig t = some v) : Lib.parseUintB 64 t = .ok v ∧ t.length ≤ 9 ∧ (t.length = 1 ∨ t.head? ≠ some 48) ∧ t ≠ [] := by
  unfold Pr.fig at h
  split at h
  · rename_i c
    obtain ⟨c1, c2, c3⟩ := c
    obtain ⟨d1, d2⟩ := (digitsB_iff t).1 c1
    refine ⟨?_, c2, c3, d1⟩
    rw [Lib.parseUintB, if_neg d1, parse_val t 0 0 d2 (by decide) (by omega)]
    injection h with h
    rw [← h]; rfl
  · cases h
theorem parse_nofig (t : Pr.T) (h : Pr.fig t = none) (u : Nat) (hu : Lib.parseUintB 64 t = .ok u) : 9 < t.length ∨ (1 < t.length ∧ t.head? = some 48) := by
  unfold Lib.parseUintB at hu
  split at hu
  · cases hu
  · rename_i hne
    have hd := parse_digs t 0 u hu
    unfold Pr.fig at h
    split at h
    · cases h
    · rename_i c
      have hD := (digitsB_iff t).2 ⟨hne, hd⟩
      rcases Nat.lt_or_ge 9 t.length with h9 | h9
      · exact .inl h9
      · right
        have h1 : t.length ≠ 1 := fun h1 => c ⟨hD, h9, .inl h1⟩
        have h0 : t.length ≠ 0 := fun h0 => hne (List.length_eq_zero_iff.1 h0)
        refine ⟨by omega, ?_⟩
        cases e : decide (t.head? = some 48) with
        | true => exact of_decide_eq_true e
        | false => exact absurd ⟨hD, h9, .inr (of_decide_eq_false e)⟩ c
theorem head_data (t : Pr.T) (h : 0 < t.length) : ∃ c r, t = c :: r := by
  cases t with
  | nil => simp at h
  | cons c r => exact ⟨c, r, rfl⟩
end Go.Proofs.YtaepcfidpekflaaGreatDoor
namespace Go.Proofs.YtaepcfidpekflaaGreatDoor
open Go.RowKit

theorem canon_len {a b : Pr.T} (ha : Canon a) (hb : Canon b) (h : a.length < b.length) : Pr.val a < Pr.val b := by
  have h1 := val_lt a ha.2.1
  cases b with
  | nil => simp at h
  | cons c r =>
    have hc : c ≠ 48 := by
      rcases hb.2.2 with h2 | h2
      · simp only [List.length_cons] at h2 h
        have : a.length ≠ 0 := fun e => ha.1 (List.length_eq_zero_iff.1 e)
        omega
      · simpa using h2
    have h2 := val_head c r hb.2.1 hc
    simp only [List.length_cons] at h
    have hp : 10 ^ a.length ≤ 10 ^ r.length := Nat.pow_le_pow_right (by omega) (by omega)
    omega
def cmpV (x y : Nat) : Int := if x < y then -1 else if x = y then 0 else 1
theorem canon_less {a b : Pr.T} (ha : Canon a) (hb : Canon b) (h : a.length = b.length) : (Op.bytesLess a b = true ↔ Pr.val a < Pr.val b) ∧ (a = b ↔ Pr.val a = Pr.val b) := (less_len a b 0 0 h ha.2.1 hb.2.1).2 rfl
set_option maxHeartbeats 400000 in
theorem compared_any (a b : Pr.T) (ha : Canon a) (hb : Canon b) (w : World) : Calls Tryz.prog 153 #[.string ⟨a.toArray⟩, .string ⟨b.toArray⟩] w fun e w' => e = .returned (.int .i64 (cmpV (Pr.val a) (Pr.val b))) ∧ w' = w := by
  obtain ⟨R, hR⟩ : ∃ R, Hid (cmpV (Pr.val a) (Pr.val b) = R) := ⟨_, rfl⟩
  rw [hR.out]
  by_cases h1 : a.length < b.length
  · have hF : Hid (R = -1) := by show _ = _; rw [← hR.out, cmpV, if_pos (canon_len ha hb h1)]
    have h1' : (a.length : Int) < b.length := by omega
    clear h1
    go_enter Tryz.func153, Tryz.ntmps153
    go_wp2
    go_ret
    exact ⟨by rw [hF.out]; rfl, rfl⟩
  · have h1' : ¬ (a.length : Int) < b.length := by omega
    by_cases h2 : a.length = b.length
    · have h2' : ((a.length : Int) == b.length) = true := by rw [beq_iff_eq]; omega
      obtain ⟨k1, k2⟩ := canon_less ha hb h2
      cases h3 : Op.bytesLess a b with
      | true =>
        have hF : Hid (R = -1) := by show _ = _; rw [← hR.out, cmpV, if_pos (k1.1 h3)]
        clear h1 h2 k1 k2
        go_enter Tryz.func153, Tryz.ntmps153
        go_wp2
        go_ret
        exact ⟨by rw [hF.out]; rfl, rfl⟩
      | false =>
        have n1 : ¬ Pr.val a < Pr.val b := fun h => by rw [k1.2 h] at h3; cases h3
        by_cases h4 : a = b
        · have hF : Hid (R = 0) := by show _ = _; rw [← hR.out, cmpV, if_neg n1, if_pos (k2.1 h4)]
          have h4' : (a == b) = true := by rw [beq_iff_eq]; exact h4
          clear h1 h2 k1 k2 h4 n1
          go_enter Tryz.func153, Tryz.ntmps153
          go_wp2
          go_ret
          exact ⟨by rw [hF.out]; rfl, rfl⟩
        · have hF : Hid (R = 1) := by show _ = _; rw [← hR.out, cmpV, if_neg n1, if_neg (fun h => h4 (k2.2 h))]
          have h4' : (a == b) = false := by rw [beq_eq_false_iff_ne]; exact h4
          clear h1 h2 k1 k2 h4 n1
          go_enter Tryz.func153, Tryz.ntmps153
          go_wp2
          go_ret
          exact ⟨by rw [hF.out]; rfl, rfl⟩
    · have h2' : ((a.length : Int) == b.length) = false := by rw [beq_eq_false_iff_ne]; omega
      have hgt := canon_len hb ha (by omega)
      have hF : Hid (R = 1) := by show _ = _; rw [← hR.out, cmpV, if_neg (by omega), if_neg (by omega)]
      have h4' : (a == b) = false := by
        rw [beq_eq_false_iff_ne]
        intro e
        exact h2 (by rw [e])
      clear h1 h2 hgt
      go_enter Tryz.func153, Tryz.ntmps153
      go_wp2
      go_ret
      exact ⟨by rw [hF.out]; rfl, rfl⟩

theorem canon_dec (u : Nat) (hu : u < 18446744073709551616) : Canon (Lib.decDigits u) := by
  refine ⟨?_, (dec_val u).2, ?_⟩
  · rw [Lib.decDigits]; split <;> simp
  · induction u using Nat.strongRecOn with
    | _ u ih =>
      by_cases h : u < 10
      · left; rw [Lib.decDigits, dif_pos h]; rfl
      · right
        rw [Lib.decDigits, dif_neg h]
        rcases ih (u / 10) (by omega) (by omega) with h1 | h1
        · cases e : Lib.decDigits (u / 10) with
          | nil => rw [e] at h1; simp at h1
          | cons c r =>
            rw [e] at h1
            have hr : r = [] := by simpa using h1
            subst hr
            have hv := (dec_val (u / 10)).1
            rw [e] at hv
            have hc : 10 * 0 + (c.toNat - 48) = u / 10 := hv
            simp
            intro e48
            rw [e48] at hc
            have : (48 : UInt8).toNat = 48 := rfl
            omega
        · cases e : Lib.decDigits (u / 10) with
          | nil =>
            exfalso
            have := e
            rw [Lib.decDigits] at this
            split at this <;> simp at this
          | cons c r => rw [e] at h1; simpa using h1
theorem canon_plain (t : Pr.T) (h : ∀ c ∈ t, Pn.isDig c = true) : Canon (plainD t) ∧ Pr.val (plainD t) = Pr.val t := by
  have hs := (List.dropWhile_suffix (· == (48 : UInt8)) (l := t))
  have hz := val_zero t
  unfold Lib.trimLeftB at hz
  unfold plainD
  split
  · rename_i e
    rw [e] at hz
    exact ⟨⟨by simp, by decide, .inl rfl⟩, by rw [← hz]; rfl⟩
  · rename_i e
    refine ⟨⟨e, fun c hc => h c (hs.subset hc), .inr fun e48 => ?_⟩, hz⟩
    have := List.head?_dropWhile_not (· == (48 : UInt8)) t
    rw [e48] at this
    simp at this
theorem canon_fig {t : Pr.T} {v : Nat} (h : Pr.fig t = some v) : Canon t ∧ Pr.val t = v := by
  unfold Pr.fig at h
  split at h
  · rename_i c
    injection h with h
    have hd := (digitsB_iff t).1 c.1
    exact ⟨⟨hd.1, hd.2, c.2.2⟩, h⟩
  · cases h
end Go.Proofs.YtaepcfidpekflaaGreatDoor
namespace Go.Proofs.YtaepcfidpekflaaGreatDoor
open Go.RowKit

theorem short_snoc (l : Pr.T) : Pr.shortR (l ++ [48]) = Pr.shortR l := by
  unfold Pr.shortR
  rw [List.reverse_append]
  simp
theorem short_stop (l : Pr.T) (c : UInt8) (h : c ≠ 48) : Pr.shortR (l ++ [c]) = l ++ [c] := by
  unfold Pr.shortR
  rw [List.reverse_append]
  simp [h]
theorem last_at (l : Pr.T) (c : UInt8) (h : l.length < (⟨(l ++ [c]).toArray⟩ : ByteArray).size) : (⟨(l ++ [c]).toArray⟩ : ByteArray)[l.length] = c := by
  show (l ++ [c]).toArray[l.length] = c
  simp
/-- What operand answers of a number's digits. -/
def opA (t : Pr.T) (a b : Pr.T) : Pr.T :=
  if t = [110] then a else if t = [105] then a else if t = [118] then Lib.decDigits b.length else if t = [119] then Lib.decDigits (Pr.shortR b).length else if t = [102] then plainD b else if t = [116] then plainD (Pr.shortR b) else []
def opF (t : Pr.T) (b : Pr.T) : Pr.T := if t = [110] then b else []
def opOk (t : Pr.T) : Bool := (Pr.opd t).isSome
set_option maxHeartbeats 1600000 in
theorem operand_any (m : Bool) (a b t : Pr.T) (_ha : Digs a) (hb : Digs b) (w : World) :
    Calls Tryz.prog 116 #[.agg #[.bool m, .string ⟨a.toArray⟩, .string ⟨b.toArray⟩], .string ⟨t.toArray⟩] w fun e w' => e = .returned (.tuple #[.string ⟨(opA t a b).toArray⟩, .string ⟨(opF t b).toArray⟩, .bool (opOk t)]) ∧ Below w.heap.size w w' := by
  have hw := (Below.refl w.heap.size w).alloc (Nat.le_refl _) (.cells #[.bool m, .string ⟨a.toArray⟩, .string ⟨b.toArray⟩] 62)
  have h30 := hb.2
  obtain ⟨A, hA⟩ : ∃ A, Hid (opA t a b = A) := ⟨_, rfl⟩
  obtain ⟨F, hF⟩ : ∃ F, Hid (opF t b = F) := ⟨_, rfl⟩
  obtain ⟨O, hO⟩ : ∃ O, Hid (opOk t = O) := ⟨_, rfl⟩
  rw [hA.out, hF.out, hO.out]
  have q0 := (row_at w #[.bool m, .string ⟨a.toArray⟩, .string ⟨b.toArray⟩] 62).2.1
  go_enter Tryz.func116, Tryz.ntmps116
  go_upto_block 0 with fail
  go_cut [7] (fun x wc => x = .string ⟨(Pr.shortR b).toArray⟩ ∧ wc = w.alloc (.cells #[.bool m, .string ⟨a.toArray⟩, .string ⟨b.toArray⟩] 62))
  case first =>
    go_wp2
    go_loop [7] (fun x => ∃ u : Pr.T, x = .string ⟨u.toArray⟩ ∧ u.length ≤ 30 ∧ Hid (Pr.shortR u = Pr.shortR b)) (fun x => match x with | .string s => s.size | _ => 0)
    case atStart => exact ⟨b, rfl, h30, rfl⟩
    case round =>
      obtain ⟨u, rfl, hu, HU⟩ := hrel
      rcases List.eq_nil_or_concat u with rfl | ⟨l, c, rfl⟩
      · have hE : Hid (Pr.shortR b = []) := HU.out.symm
        clear HU
        go_wp2
        go_meet
        case rel => exact ⟨by rw [hE.out], rfl⟩
      · simp only [List.concat_eq_append, List.length_append, List.length_singleton] at hu HU ⊢
        have hlast := last_at l c
        have hex := ex_take (l ++ [c]) l.length
        rw [List.take_left] at hex
        have hw1 : IntKind.i64.wrap ((l.length : Int) + 1 - 1) = l.length := by rw [IntKind.wrap_i64]; omega
        by_cases hc : c = 48
        · have hc' : ((c.toNat : Int) == 48) = true := by rw [hc]; rfl
          have HU2 : Hid (Pr.shortR l = Pr.shortR b) := by show _ = _; rw [← HU.out, hc, short_snoc]
          clear HU hc
          go_wp2
          go_round
          case rel => exact ⟨l, rfl, by omega, HU2⟩
          case measure =>
            show l.toArray.size < (l ++ [c]).toArray.size
            simp
        · have hc' : ((c.toNat : Int) == 48) = false := by
            rw [beq_eq_false_iff_ne]
            intro e
            exact hc (UInt8.toNat_inj.1 (by show c.toNat = 48; omega))
          have hE : Hid (Pr.shortR b = l ++ [c]) := by show _ = _; rw [← HU.out, short_stop l c hc]
          clear HU hc
          go_wp2
          go_meet
          case rel => exact ⟨by rw [hE.out], rfl⟩
  case rest =>
    obtain ⟨rfl, rfl⟩ := hcut
    have h2 := (short_digs b hb).2
    by_cases h110 : t = [110]
    · have eA : Hid (A = a) := by show _ = _; rw [← hA.out]; simp [opA, h110]
      have eF : Hid (F = b) := by show _ = _; rw [← hF.out]; simp [opF, h110]
      have eO : Hid (O = true) := by show _ = _; rw [← hO.out]; simp [opOk, Pr.opd, h110]
      have y : (t == [110]) = true := by rw [h110]; rfl
      clear hA hF hO h110
      go_wp2
      go_quiet (fail)
      go_wp2
      go_ret3
      exact ⟨by rw [eA.out, eF.out, eO.out]; rfl, below_of hw (drewB _ _)⟩
    by_cases h105 : t = [105]
    · have eA : Hid (A = a) := by show _ = _; rw [← hA.out]; simp [opA, h105]
      have eF : Hid (F = []) := by show _ = _; rw [← hF.out]; simp [opF, h105]
      have eO : Hid (O = true) := by show _ = _; rw [← hO.out]; simp [opOk, Pr.opd, h105]
      have y : (t == [105]) = true := by rw [h105]; rfl
      have n110 : (t == [110]) = false := by rw [beq_eq_false_iff_ne]; exact h110
      clear hA hF hO h110 h105
      go_wp2
      go_ret3
      exact ⟨by rw [eA.out, eF.out, eO.out]; rfl, hw⟩
    by_cases h118 : t = [118]
    · have eA : Hid (A = Lib.decDigits b.length) := by show _ = _; rw [← hA.out]; simp [opA, h118]
      have eF : Hid (F = []) := by show _ = _; rw [← hF.out]; simp [opF, h118]
      have eO : Hid (O = true) := by show _ = _; rw [← hO.out]; simp [opOk, Pr.opd, h118]
      have y : (t == [118]) = true := by rw [h118]; rfl
      have n110 : (t == [110]) = false := by rw [beq_eq_false_iff_ne]; exact h110
      have n105 : (t == [105]) = false := by rw [beq_eq_false_iff_ne]; exact h105
      clear hA hF hO h110 h105 h118
      go_wp2_with (go_at_call 120; refine (decimal_any b.length _ (by omega)).mono ?_; rintro e w1 ⟨rfl, hb1⟩)
      go_ret3
      exact ⟨by rw [eA.out, eF.out, eO.out]; rfl, below_of hw hb1⟩
    by_cases h119 : t = [119]
    · have eA : Hid (A = Lib.decDigits (Pr.shortR b).length) := by show _ = _; rw [← hA.out]; simp [opA, h119]
      have eF : Hid (F = []) := by show _ = _; rw [← hF.out]; simp [opF, h119]
      have eO : Hid (O = true) := by show _ = _; rw [← hO.out]; simp [opOk, Pr.opd, h119]
      have y : (t == [119]) = true := by rw [h119]; rfl
      have n110 : (t == [110]) = false := by rw [beq_eq_false_iff_ne]; exact h110
      have n105 : (t == [105]) = false := by rw [beq_eq_false_iff_ne]; exact h105
      have n118 : (t == [118]) = false := by rw [beq_eq_false_iff_ne]; exact h118
      clear hA hF hO h110 h105 h118 h119
      go_wp2_with (go_at_call 120; refine (decimal_any (Pr.shortR b).length _ (by omega)).mono ?_; rintro e w1 ⟨rfl, hb1⟩)
      go_ret3
      exact ⟨by rw [eA.out, eF.out, eO.out]; rfl, below_of hw hb1⟩
    by_cases h102 : t = [102]
    · have eA : Hid (A = plainD b) := by show _ = _; rw [← hA.out]; simp [opA, h102]
      have eF : Hid (F = []) := by show _ = _; rw [← hF.out]; simp [opF, h102]
      have eO : Hid (O = true) := by show _ = _; rw [← hO.out]; simp [opOk, Pr.opd, h102]
      have y : (t == [102]) = true := by rw [h102]; rfl
      have n110 : (t == [110]) = false := by rw [beq_eq_false_iff_ne]; exact h110
      have n105 : (t == [105]) = false := by rw [beq_eq_false_iff_ne]; exact h105
      have n118 : (t == [118]) = false := by rw [beq_eq_false_iff_ne]; exact h118
      have n119 : (t == [119]) = false := by rw [beq_eq_false_iff_ne]; exact h119
      clear hA hF hO h110 h105 h118 h119 h102
      go_wp2_with (go_at_call 152; refine (plain_any b (by omega) _).mono ?_; rintro e w1 ⟨rfl, rfl⟩)
      go_ret3
      exact ⟨by rw [eA.out, eF.out, eO.out]; rfl, hw⟩
    by_cases h116 : t = [116]
    · have eA : Hid (A = plainD (Pr.shortR b)) := by show _ = _; rw [← hA.out]; simp [opA, h116]
      have eF : Hid (F = []) := by show _ = _; rw [← hF.out]; simp [opF, h116]
      have eO : Hid (O = true) := by show _ = _; rw [← hO.out]; simp [opOk, Pr.opd, h116]
      have y : (t == [116]) = true := by rw [h116]; rfl
      have n110 : (t == [110]) = false := by rw [beq_eq_false_iff_ne]; exact h110
      have n105 : (t == [105]) = false := by rw [beq_eq_false_iff_ne]; exact h105
      have n118 : (t == [118]) = false := by rw [beq_eq_false_iff_ne]; exact h118
      have n119 : (t == [119]) = false := by rw [beq_eq_false_iff_ne]; exact h119
      have n102 : (t == [102]) = false := by rw [beq_eq_false_iff_ne]; exact h102
      clear hA hF hO h110 h105 h118 h119 h102 h116
      go_wp2_with (go_at_call 152; refine (plain_any (Pr.shortR b) (by omega) _).mono ?_; rintro e w1 ⟨rfl, rfl⟩)
      go_ret3
      exact ⟨by rw [eA.out, eF.out, eO.out]; rfl, hw⟩
    have eA : Hid (A = []) := by show _ = _; rw [← hA.out]; simp only [opA, h110, h105, h118, h119, h102, h116, if_false]
    have eF : Hid (F = []) := by show _ = _; rw [← hF.out]; simp only [opF, h110, if_false]
    have eO : Hid (O = false) := by show _ = _; rw [← hO.out]; simp only [opOk, Pr.opd, h110, h105, h118, h119, h102, h116, if_false]; rfl
    have n110 : (t == [110]) = false := by rw [beq_eq_false_iff_ne]; exact h110
    have n105 : (t == [105]) = false := by rw [beq_eq_false_iff_ne]; exact h105
    have n118 : (t == [118]) = false := by rw [beq_eq_false_iff_ne]; exact h118
    have n119 : (t == [119]) = false := by rw [beq_eq_false_iff_ne]; exact h119
    have n102 : (t == [102]) = false := by rw [beq_eq_false_iff_ne]; exact h102
    have n116 : (t == [116]) = false := by rw [beq_eq_false_iff_ne]; exact h116
    clear hA hF hO h110 h105 h118 h119 h102 h116
    go_wp2
    go_ret3
    exact ⟨by rw [eA.out, eF.out, eO.out]; rfl, hw⟩
end Go.Proofs.YtaepcfidpekflaaGreatDoor
