/-
  Amounts: rest, whole, FormatUint. By the verifier.
-/
import Derived.Test.YtaepcfidpekflaaGreatDoorQa
import Derived.Test.YtaepcfidpekflaaGreatDoorSw
import Derived.Lib.AppendIntMem
import Derived.Lib.OthersKept
import Derived.WalkSpells
import Derived.WalkLawsBesides
namespace Go.Proofs.YtaepcfidpekflaaGreatDoor
open Go.RowKit Go.Sort

theorem val_snoc (l : Pr.T) (c : UInt8) : Pr.val (l ++ [c]) = 10 * Pr.val l + (c.toNat - 48) := by simp [Pr.val]
theorem dec_val (u : Nat) : Pr.val (Lib.decDigits u) = u ∧ ∀ c ∈ Lib.decDigits u, Pn.isDig c = true := by
  induction u using Nat.strongRecOn with
  | _ u ih =>
    rw [Lib.decDigits]
    by_cases h : u < 10
    · rw [dif_pos h]
      have : (UInt8.ofNat (48 + u)).toNat = 48 + u := by rw [UInt8.toNat_ofNat']; omega
      refine ⟨by show 10 * 0 + ((UInt8.ofNat (48 + u)).toNat - 48) = u; rw [this]; omega, fun c hc => ?_⟩
      rw [List.mem_singleton] at hc
      subst hc
      rw [Pn.isDig_iff, this]; omega
    · rw [dif_neg h]
      obtain ⟨i1, i2⟩ := ih (u / 10) (by omega)
      have : (UInt8.ofNat (48 + u % 10)).toNat = 48 + u % 10 := by rw [UInt8.toNat_ofNat']; omega
      refine ⟨by rw [val_snoc, i1, this]; omega, fun c hc => ?_⟩
      rcases List.mem_append.1 hc with hc | hc
      · exact i2 c hc
      · rw [List.mem_singleton] at hc
        subst hc
        rw [Pn.isDig_iff, this]; omega
theorem nd_le (u : Nat) (h : u < 18446744073709551616) : Lib.nDigits u ≤ 20 := by
  rcases Nat.eq_zero_or_pos u with rfl | h1
  · rw [Lib.nDigits_small (by omega)]; omega
  · have := Lib.numDigits_eq u h1 h; split at this <;> omega
theorem dec_digs (u : Nat) (h : u < 18446744073709551616) : Digs (Lib.decDigits u) := ⟨(dec_val u).2, by rw [Lib.decDigits_length]; have := nd_le u h; omega⟩

set_option maxHeartbeats 6400000 in
set_option maxRecDepth 100000 in
theorem iformat_any (u : Nat) (hu : u ≤ 1000000000) (w : World) (htab : Lib.TabIs Tryz.prog w "internal/strconv.uint64pow10" .u64 Lib.pow10Tab) :
    Calls Tryz.prog 245 #[.int .u64 u, .int .i64 10] w fun e w' => e = .returned (.string ⟨(Lib.decDigits u).toArray⟩) ∧ Below w.heap.size w w' := by
  by_cases hs : u < 100
  · have hs' : (u : Int) < 100 := by omega
    have hwr : IntKind.i64.wrap (u : Int) = u := by rw [IntKind.wrap_i64]; omega
    go_enter Tryz.func245, Tryz.ntmps245
    go_wp2_with (go_at_call 267; refine (Tryz.internal_strconv_small u hs _).mono ?_; rintro e w' ⟨rfl, rfl⟩)
    go_ret
    exact ⟨rfl, Below.refl _ _⟩
  · have hs' : ¬ (u : Int) < 100 := by omega
    have hu1 : 1 ≤ u := by omega
    have hu64 : u < 18446744073709551616 := by omega
    have hnd20 := nd_le u hu64
    have hal : Program.arrayLen Tryz.prog 394 = 24 := by simp [Program.arrayLen, Tryz.underlying394]
    have hsl : ∀ W, (Instr.sliceAt 394 (.pointer (some ⟨w.heap.size, 0, none⟩)) none (some (.int .i64 (Lib.nDigits u : Int))) none).run Tryz.prog W = .ok (.slice (some ⟨w.heap.size, 0, none⟩) (Lib.nDigits u) 24) W := fun W => by
      rw [run_sliceAt_array_h W 394 ⟨w.heap.size, 0, none⟩ (by simp [Program.arrayLen, Program.elem, Tryz.underlying394]) .i64 (Lib.nDigits u : Int) (by omega) (by rw [hal]; omega)]
      go_simp
    have hH0 := Lib.holds_zero0 w 394 (Lib.nDigits u) (by omega)
    have hfmt := Tryz.internal_strconv_formatBase10 w.heap.size 0 24 u (Array.replicate (Lib.nDigits u) 0) (w.alloc (.cells Lib.zeros24 394)) hH0 (by rw [Array.size_replicate]; exact Lib.lt_pow_nDigits u) hu64 (by rw [Array.size_replicate]; omega)
    rw [Array.size_replicate] at hfmt
    have HH0 := Lib.hid hH0
    clear hH0 hal
    go_enter Tryz.func245, Tryz.ntmps245
    go_wp2_with (go_at_call 268; refine (Tryz.internal_strconv_numDigits u hu1 hu64 _ (Lib.tabIs_alloc htab _)).mono ?_; rintro e w' ⟨rfl, rfl⟩)
    go_at_call 269
    refine hfmt.mono ?_
    rintro e w' ⟨rfl, k, v', dk, rfl, hF⟩
    have hcv : (convert 146 9 (.slice (some ⟨w.heap.size, 0, none⟩) (Lib.nDigits u) 24)).run Tryz.prog ((putRow (fun (b : UInt8) => Value.int .u8 (b.toNat : Int)) (w.alloc (.cells Lib.zeros24 394)) w.heap.size 0 dk).drewN k) = .ok (.string ⟨(Lib.decDigits u).toArray⟩) ((putRow (fun (b : UInt8) => Value.int .u8 (b.toNat : Int)) (w.alloc (.cells Lib.zeros24 394)) w.heap.size 0 dk).drewN k) := by
      have h := run_convert_bytes_back (P := Tryz.prog) ((putRow (fun (b : UInt8) => Value.int .u8 (b.toNat : Int)) (w.alloc (.cells Lib.zeros24 394)) w.heap.size 0 dk).drewN k) 146 9 5 ⟨w.heap.size, 0, none⟩ 24 (Lib.decDigits u) Tryz.underlying146 Tryz.underlying5 Tryz.underlying9 (fun j hj => by
        rw [Lib.row_is_numeral hF j hj, Lib.add_plain, World.cell?_drewN]
        exact cell?_putRow (fun (b : UInt8) => Value.int .u8 (b.toNat : Int)) _ w.heap.size 0 _ dk HH0.out (by rw [hF.size, Array.size_replicate]) j (by rw [hF.size]; rw [Lib.decDigits_length] at hj; exact hj))
      rw [Lib.decDigits_length] at h
      exact h
    go_wp2
    go_ret
    obtain ⟨os, eo⟩ := Lib.fin_at w (.cells Lib.zeros24 394) dk k 0
    rw [eo]
    exact ⟨rfl, Lib.below_grow _ w (Nat.le_refl _) k os⟩
set_option maxHeartbeats 400000 in
theorem format_any (u : Nat) (hu : u ≤ 1000000000) (w : World) (hB : Base w) :
    Calls Tryz.prog 227 #[.int .u64 u, .int .i64 10] w fun e w' => e = .returned (.string ⟨(Lib.decDigits u).toArray⟩) ∧ Below w.heap.size w w' := by
  go_enter Tryz.func227, Tryz.ntmps227
  go_wp2_with (go_at_call 245; refine (iformat_any u hu _ hB.2.2.2.1).mono ?_; rintro e w' ⟨rfl, hb⟩)
  go_ret
  exact ⟨rfl, hb⟩

/-- The loop over the digits, up to some of them. -/
theorem val_take (s : ByteArray) (k : Nat) (h : k < s.size) : Pr.val (s.data.toList.take (k + 1)) = 10 * Pr.val (s.data.toList.take k) + (s[k].toNat - 48) := by
  rw [List.take_succ_eq_append_getElem (by simpa using h), val_snoc]
  rfl
theorem dec_one' (s : ByteArray) (pos : Nat) (h : pos < s.size) (hd : Pn.isDig s[pos] = true) : Utf8.decode s pos = (s[pos].toNat, 1) := by
  have := (Pn.isDig_iff _).1 hd
  exact decode_ascii s pos h (by omega)

set_option maxHeartbeats 800000 in
theorem rest_any (d : Pr.T) (m : Nat) (hd : Digs d) (hm : 1 ≤ m) (hm2 : m ≤ 1000000000) (w : World) :
    Calls Tryz.prog 256 #[.string ⟨d.toArray⟩, .int .u64 m] w fun e w' => e = .returned (.int .u64 (Pr.val d % m : Nat)) ∧ Below w.heap.size w w' := by
  obtain ⟨s, hs⟩ : ∃ s : ByteArray, s = ⟨d.toArray⟩ := ⟨_, rfl⟩
  have hsd : s.data.toList = d := by rw [hs]
  rw [← hs]
  have HD : Hid (∀ c ∈ s.data.toList, Pn.isDig c = true) := by rw [hsd]; exact hd.1
  have HV : Hid (Pr.val s.data.toList = Pr.val d) := by show _ = _; rw [hsd]
  generalize Pr.val d = V at *
  clear hsd hs hd
  have hm' : ¬ (m : Int) = 0 := by omega
  go_enter Tryz.func256, Tryz.ntmps256
  go_wp2
  go_loopw [5] (fun t wr => ∃ pos : Nat, pos ≤ s.size ∧ wr.heap[w.heap.size]? = some (.stringIter s pos) ∧ Below w.heap.size w wr ∧ ∃ x : Nat, t = .int .u64 x ∧ Hid (x = Pr.val (s.data.toList.take pos) % m) ∧ x < 1000000000) (fun _ wr => s.size - wr.iterPos w.heap.size)
  case atStart =>
    refine ⟨0, Nat.zero_le _, World.iter_heap w s 0, (Below.refl _ w).alloc (Nat.le_refl _) _, 0, rfl, ?_, by omega⟩
    show _ = _
    simp [Pr.val]
  case round =>
    obtain ⟨pos, hpos, hit, hbw, x, rfl, HX, hx⟩ := hrel
    by_cases hp : pos < s.size
    · have hnx : ∀ ty, (Instr.next (.pointer (some ⟨w.heap.size, 0, none⟩)) true ty).run Tryz.prog wr = _ := fun ty => Lib.run_next_any_at wr w.heap.size s pos ty hit hp
      have hg : Pn.isDig s[pos] = true := HD.out _ (by
        have : s[pos] = s.data.toList[pos]'(by simpa using hp) := rfl
        rw [this]; exact List.getElem_mem _)
      rw [dec_one' s pos hp hg] at hnx
      have hit2 := Lib.iterAt_heap wr w.heap.size s pos (pos + 1) hit
      have hbw2 := Lib.below_iterAt hbw (k := w.heap.size) (by omega) s (pos + 1)
      have hv := val_take s pos hp
      obtain ⟨h1, h2⟩ := (Pn.isDig_iff _).1 hg
      generalize hq : s[pos].toNat = q at *
      clear hg hq
      have hw1 : IntKind.i32.wrap ((q : Int) - 48) = (q : Int) - 48 := by rw [IntKind.wrap_i32]; omega
      have hw2 : IntKind.u64.wrap ((q : Int) - 48) = (q : Int) - 48 := by rw [IntKind.wrap_u64]; omega
      have hw3 : IntKind.u64.wrap ((x : Int) * 10) = (x : Int) * 10 := by rw [IntKind.wrap_u64]; omega
      have hw4 : IntKind.u64.wrap ((x : Int) * 10 + ((q : Int) - 48)) = (x : Int) * 10 + ((q : Int) - 48) := by rw [IntKind.wrap_u64]; omega
      have HX2 : Hid (((10 * x + (q - 48)) % m) = Pr.val (s.data.toList.take (pos + 1)) % m) := by
        show _ = _
        rw [hv, HX.out, Nat.add_mod, Nat.mul_mod, Nat.mod_mod, ← Nat.mul_mod, ← Nat.add_mod]
      have hmt : ((x : Int) * 10 + ((q : Int) - 48)).tmod m = (((10 * x + (q - 48)) % m : Nat) : Int) := by
        rw [show (x : Int) * 10 + ((q : Int) - 48) = ((10 * x + (q - 48) : Nat) : Int) by omega]
        rfl
      clear hv HX
      have hlt : (10 * x + (q - 48)) % m < 1000000000 := Nat.lt_of_lt_of_le (Nat.mod_lt _ (by omega)) hm2
      go_wp2
      go_roundw
      case rel => exact ⟨pos + 1, hp, hit2, hbw2, (10 * x + (q - 48)) % m, by simp, HX2, hlt⟩
      case measure =>
        simp only [World.iterPos, hit2, hit]
        omega
    · have hnx : ∀ ty, (Instr.next (.pointer (some ⟨w.heap.size, 0, none⟩)) true ty).run Tryz.prog wr = _ := fun ty => Lib.run_next_end_at wr w.heap.size s pos ty hit hp
      have HE : Hid (x = V % m) := by
        show _ = _
        rw [HX.out, List.take_of_length_le (by simp; omega), HV.out]
      clear HX
      go_wp2
      go_ret
      exact ⟨by rw [HE.out]; rfl, hbw⟩

theorem val_zero (d : Pr.T) : Pr.val (Lib.trimLeftB d 48) = Pr.val d := by
  unfold Lib.trimLeftB
  induction d with
  | nil => rfl
  | cons c r ih =>
    by_cases h : c = 48
    · subst h
      rw [List.dropWhile_cons_of_pos (by rfl), ih]
      rfl
    · rw [List.dropWhile_cons_of_neg (by simpa using h)]
theorem trim_digs (d : Pr.T) (h : Digs d) : Digs (Lib.trimLeftB d 48) := by
  have hs := (List.dropWhile_suffix (· == (48 : UInt8)) (l := d))
  exact ⟨fun c hc => h.1 c (hs.subset hc), Nat.le_trans hs.length_le h.2⟩
theorem val_lt (d : Pr.T) (h : ∀ c ∈ d, Pn.isDig c = true) : Pr.val d < 10 ^ d.length := by
  unfold Pr.val
  suffices H : ∀ (l : Pr.T) (acc k : Nat), (∀ c ∈ l, Pn.isDig c = true) → acc < 10 ^ k → l.foldl (fun v c => 10 * v + (c.toNat - 48)) acc < 10 ^ (k + l.length) by
    have := H d 0 0 h (by decide)
    simpa using this
  intro l
  induction l with
  | nil => intro acc k _ ha; simpa using ha
  | cons c r ih =>
    intro acc k hd ha
    have hc := (Pn.isDig_iff c).1 (hd c (by simp))
    rw [List.foldl_cons, List.length_cons, show k + (r.length + 1) = (k + 1) + r.length by omega]
    refine ih _ (k + 1) (fun x hx => hd x (by simp [hx])) ?_
    rw [Nat.pow_succ]; omega
theorem val_head (c : UInt8) (r : Pr.T) (h : ∀ x ∈ c :: r, Pn.isDig x = true) (hc : c ≠ 48) : 10 ^ r.length ≤ Pr.val (c :: r) := by
  unfold Pr.val
  suffices H : ∀ (l : Pr.T) (acc k : Nat), 10 ^ k ≤ acc → 10 ^ (k + l.length) ≤ l.foldl (fun v c => 10 * v + (c.toNat - 48)) acc by
    have h1 := (Pn.isDig_iff c).1 (h c (by simp))
    have h2 : c.toNat ≠ 48 := fun e => hc (UInt8.toNat_inj.1 e)
    have := H r (10 * 0 + (c.toNat - 48)) 0 (by simp; omega)
    simpa using this
  intro l
  induction l with
  | nil => intro acc k ha; simpa using ha
  | cons c r ih =>
    intro acc k ha
    rw [List.foldl_cons, List.length_cons, show k + (r.length + 1) = (k + 1) + r.length by omega]
    refine ih _ (k + 1) ?_
    rw [Nat.pow_succ]; omega
/-- What is ahead of an amount's point, cut at a thousand millions. -/
def cutW (v : Nat) : Nat := if v < 1000000000 then v else 1000000000
theorem whole_long (d : Pr.T) (h : ∀ c ∈ d, Pn.isDig c = true) (hl : 9 < (Lib.trimLeftB d 48).length) : cutW (Pr.val d) = 1000000000 := by
  have hs := (List.dropWhile_suffix (· == (48 : UInt8)) (l := d))
  have hd : ∀ c ∈ Lib.trimLeftB d 48, Pn.isDig c = true := fun c hc => h c (hs.subset hc)
  rw [← val_zero]
  cases e : Lib.trimLeftB d 48 with
  | nil => rw [e] at hl; simp at hl
  | cons c r =>
    have hc : c ≠ 48 := by
      intro h48
      have := List.head?_dropWhile_not (· == (48 : UInt8)) d
      unfold Lib.trimLeftB at e
      rw [e] at this
      simp [h48] at this
    rw [e] at hl hd
    have := val_head c r hd hc
    have hp : 10 ^ 9 ≤ 10 ^ r.length := Nat.pow_le_pow_right (by omega) (by simp at hl; omega)
    have : (10 : Nat) ^ 9 = 1000000000 := by decide
    unfold cutW
    rw [if_neg (by omega)]
theorem whole_short (d : Pr.T) (h : ∀ c ∈ d, Pn.isDig c = true) (hl : (Lib.trimLeftB d 48).length ≤ 9) : cutW (Pr.val d) = Pr.val (Lib.trimLeftB d 48) % 1000000000 := by
  have hs := (List.dropWhile_suffix (· == (48 : UInt8)) (l := d))
  have hd : ∀ c ∈ Lib.trimLeftB d 48, Pn.isDig c = true := fun c hc => h c (hs.subset hc)
  have h1 := val_lt _ hd
  have hp : 10 ^ (Lib.trimLeftB d 48).length ≤ 10 ^ 9 := Nat.pow_le_pow_right (by omega) hl
  have h9 : (10 : Nat) ^ 9 = 1000000000 := by decide
  rw [val_zero] at h1 ⊢
  unfold cutW
  rw [if_pos (by omega), Nat.mod_eq_of_lt (by omega)]

set_option maxHeartbeats 400000 in
theorem whole_any (d : Pr.T) (b : Bool) (hd : Digs d) (w : World) :
    Calls Tryz.prog 298 #[.agg #[.string ⟨d.toArray⟩, .bool b]] w fun e w' => e = .returned (.int .u64 (cutW (Pr.val d) : Nat)) ∧ Below w.heap.size w w' := by
  have ht := fun W => Tryz.strings_TrimLeft_one ⟨d.toArray⟩ 48 (by decide) W
  simp only [] at ht
  have hw := (Below.refl w.heap.size w).alloc (Nat.le_refl _) (.cells #[.string ⟨d.toArray⟩, .bool b] 384)
  have htd := trim_digs d hd
  have h30 := hd.2
  have c1 := whole_long d hd.1
  have c2 := whole_short d hd.1
  generalize Lib.trimLeftB d 48 = q at *
  generalize cutW (Pr.val d) = C at *
  have hq := htd.2
  go_enter Tryz.func298, Tryz.ntmps298
  go_wp2_with fail
  refine (ht _).mono ?_
  rintro e w1 ⟨rfl, rfl⟩
  by_cases h9 : 9 < q.length
  · have h9' : (9 : Int) < q.length := by omega
    have C1 : Hid (C = 1000000000) := c1 h9
    clear c1 c2 ht
    go_wp2
    go_ret
    exact ⟨by rw [C1.out]; rfl, hw⟩
  · have h9' : ¬ (9 : Int) < q.length := by omega
    have C2 : Hid (C = Pr.val q % 1000000000) := c2 (by omega)
    clear c1 c2 ht
    go_wp2_with (go_at_call 256; refine (rest_any q 1000000000 htd (by omega) (by omega) _).mono ?_; rintro e w2 ⟨rfl, hb2⟩)
    go_ret
    exact ⟨by rw [C2.out]; rfl, below_of hw hb2⟩

theorem short_digs (d : Pr.T) (h : Digs d) : Digs (Pr.shortR d) := by
  have hs := (List.dropWhile_suffix (· == (48 : UInt8)) (l := d.reverse))
  refine ⟨fun c hc => h.1 c (by have := hs.subset (List.mem_reverse.1 hc); simpa using this), ?_⟩
  have := hs.length_le
  simp only [List.length_reverse] at this
  unfold Pr.shortR
  rw [List.length_reverse]
  exact Nat.le_trans this h.2
set_option maxHeartbeats 400000 in
theorem withoutEnd_any (d : Pr.T) (hd : Digs d) (w : World) :
    Calls Tryz.prog 247 #[.string ⟨d.toArray⟩] w fun e w' => e = .returned (.string ⟨(Pr.shortR d).toArray⟩) ∧ w' = w := by
  have h30 := hd.2
  have ht := fun W => Tryz.strings_TrimRight_one ⟨d.toArray⟩ 48 (by decide) W (by show d.toArray.size ≤ _; simp; omega)
  simp only [] at ht
  go_enter Tryz.func247, Tryz.ntmps247
  go_wp2_with (go_at_call 271; refine (ht _).mono ?_; rintro e w1 ⟨rfl, rfl⟩)
  go_ret
  exact ⟨rfl, rfl⟩
set_option maxHeartbeats 400000 in
theorem lengthOf_any (d : Pr.T) (hd : Digs d) (w : World) :
    Calls Tryz.prog 250 #[.string ⟨d.toArray⟩] w fun e w' => e = .returned (.string ⟨(Lib.decDigits d.length).toArray⟩) ∧ w' = w := by
  have h30 := hd.2
  have ht := fun W => Tryz.strconv_Itoa_small d.length (by omega) W
  go_enter Tryz.func250, Tryz.ntmps250
  go_wp2_with (go_at_call 272; refine (ht _).mono ?_; rintro e w1 ⟨rfl, rfl⟩)
  go_ret
  exact ⟨rfl, rfl⟩
end Go.Proofs.YtaepcfidpekflaaGreatDoor
