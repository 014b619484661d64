/-
  Locale.Write (P4) by its contract. By the verifier.
-/
import Derived.Test.YtaepcfidpekflaaGreatDoorWb
import Derived.Test.YtaepcfidpekflaaGreatDoorWa
import Derived.Test.YtaepcfidpekflaaGreatDoorBase
import Derived.Test.YtaepcfidpekflaaGreatDoorSh
import Derived.Lib.OthersKept
namespace Go.Proofs.YtaepcfidpekflaaGreatDoor
open Go.RowKit
variable {u0 u1 : Option Addr} {v0 x0 v1 x1 : Nat}

theorem digAt_cell (mi po g : Int) (f n : Nat) (d0 d1 d2 d3 d4 d5 d6 d7 d8 d9 : Int) (c : UInt8) (h : Pn.isDig c = true) :
    (#[.int .i32 mi, .int .i32 po, .int .i32 g, .int .i64 f, .int .i64 n, .int .i32 d0, .int .i32 d1, .int .i32 d2, .int .i32 d3, .int .i32 d4, .int .i32 d5, .int .i32 d6, .int .i32 d7, .int .i32 d8, .int .i32 d9, .slice u0 v0 x0, .slice u1 v1 x1] : Array Value)[5 + (c.toNat - 48)]? = some (.int .i32 (Pn.digAt [d0, d1, d2, d3, d4, d5, d6, d7, d8, d9] c)) := by
  have h' := (Pn.isDig_iff c).1 h
  rw [Pn.digAt]
  have : c.toNat - 48 = 0 ∨ c.toNat - 48 = 1 ∨ c.toNat - 48 = 2 ∨ c.toNat - 48 = 3 ∨ c.toNat - 48 = 4 ∨ c.toNat - 48 = 5 ∨ c.toNat - 48 = 6 ∨ c.toNat - 48 = 7 ∨ c.toNat - 48 = 8 ∨ c.toNat - 48 = 9 := by omega
  rcases this with h | h | h | h | h | h | h | h | h | h <;> rw [h] <;> rfl
theorem digAt_bd (d0 d1 d2 d3 d4 d5 d6 d7 d8 d9 : Int) (hD : ∀ x ∈ [d0, d1, d2, d3, d4, d5, d6, d7, d8, d9], -2147483648 ≤ x ∧ x ≤ 2147483647) (c : UInt8) (h : Pn.isDig c = true) :
    -2147483648 ≤ Pn.digAt [d0, d1, d2, d3, d4, d5, d6, d7, d8, d9] c ∧ Pn.digAt [d0, d1, d2, d3, d4, d5, d6, d7, d8, d9] c ≤ 2147483647 := by
  have h' := (Pn.isDig_iff c).1 h
  have hl : c.toNat - 48 < ([d0, d1, d2, d3, d4, d5, d6, d7, d8, d9] : List Int).length := by simp; omega
  rw [Pn.digAt, List.getD_eq_getElem?_getD, List.getElem?_eq_getElem hl, Option.getD_some]
  exact hD _ (List.getElem_mem _)
theorem get_mk (l : List UInt8) (k : Nat) (_h : k < (⟨l.toArray⟩ : ByteArray).size) (h2 : k < l.length) : (⟨l.toArray⟩ : ByteArray)[k] = l[k] := rfl
theorem ret_str {a b : List UInt8} (h : a = b) : Ending.returned (.string ⟨a.toArray⟩) = .returned (.string ⟨b.toArray⟩) := by rw [h]
theorem enc_le (r : Int) : (Lib.encodeRune r).length ≤ 4 := by
  have := Lib.runeCells_le r
  rw [Lib.runeCells_length] at this
  exact this.2
theorem wWhole_step (g : List UInt8) (f n : Nat) (dig : UInt8 → List UInt8) (a : List UInt8) (pos : Nat) (h : pos < a.length) (later : Bool) :
    Pn.wWhole g f n dig later (a.drop pos) = (if later && Pn.endsG f n (a.length - pos) then g else []) ++ (dig a[pos] ++ Pn.wWhole g f n dig true (a.drop (pos + 1))) := by
  rw [List.drop_eq_getElem_cons h, Pn.wWhole]
  have : (a.drop (pos + 1)).length + 1 = a.length - pos := by simp; omega
  rw [this]
theorem row_iter {w : World} {b : Nat} {cs : Array Value} (h : Row w b cs) {k : Nat} (hk : b < k) (s : ByteArray) (pos : Nat) : Row (w.iterAt k s pos) b cs :=
  h.below (Lib.below_iterAt (Below.refl k w) (Nat.le_refl _) s pos) hk

set_option maxHeartbeats 4000000 in
theorem write_true (mi po g : Int) (f n : Nat) (d0 d1 d2 d3 d4 d5 d6 d7 d8 d9 : Int) (a b : List UInt8) (w : World) (hf : f ≤ 9) (hn : n ≤ 9) (hfn : f ≠ 0 → n ≠ 0)
    (ha : ∀ c ∈ a, Pn.isDig c = true) (hb : ∀ c ∈ b, Pn.isDig c = true) (hla : a.length ≤ 30) (hlb : b.length ≤ 30)
    (hmi : -2147483648 ≤ mi ∧ mi ≤ 2147483647) (hpo : -2147483648 ≤ po ∧ po ≤ 2147483647) (hg : -2147483648 ≤ g ∧ g ≤ 2147483647) (hD : ∀ x ∈ [d0, d1, d2, d3, d4, d5, d6, d7, d8, d9], -2147483648 ≤ x ∧ x ≤ 2147483647) :
    Calls Tryz.prog 55 #[.agg #[.int .i32 mi, .int .i32 po, .int .i32 g, .int .i64 f, .int .i64 n, .int .i32 d0, .int .i32 d1, .int .i32 d2, .int .i32 d3, .int .i32 d4, .int .i32 d5, .int .i32 d6, .int .i32 d7, .int .i32 d8, .int .i32 d9, .slice u0 v0 x0, .slice u1 v1 x1], .agg #[.bool true, .string ⟨a.toArray⟩, .string ⟨b.toArray⟩]] w fun e w' => e = .returned (.string ⟨(Pn.wParts (Lib.encodeRune mi) (Lib.encodeRune po) (Lib.encodeRune g) f n (fun c => Lib.encodeRune (Pn.digAt [d0, d1, d2, d3, d4, d5, d6, d7, d8, d9] c)) a b).toArray⟩) ∧ Below w.heap.size w w' := by
  have r0 : Row (((w.alloc (.cells #[.int .i32 mi, .int .i32 po, .int .i32 g, .int .i64 f, .int .i64 n, .int .i32 d0, .int .i32 d1, .int .i32 d2, .int .i32 d3, .int .i32 d4, .int .i32 d5, .int .i32 d6, .int .i32 d7, .int .i32 d8, .int .i32 d9, .slice u0 v0 x0, .slice u1 v1 x1] 105)).alloc (.cells #[.bool true, .string ⟨a.toArray⟩, .string ⟨b.toArray⟩] 109)).alloc (.cells #[.pointer none, .slice none 0 0] 148)) w.heap.size #[.int .i32 mi, .int .i32 po, .int .i32 g, .int .i64 f, .int .i64 n, .int .i32 d0, .int .i32 d1, .int .i32 d2, .int .i32 d3, .int .i32 d4, .int .i32 d5, .int .i32 d6, .int .i32 d7, .int .i32 d8, .int .i32 d9, .slice u0 v0 x0, .slice u1 v1 x1] := ((row_at w _ _).alloc _).alloc _
  have r1 : Row (((w.alloc (.cells #[.int .i32 mi, .int .i32 po, .int .i32 g, .int .i64 f, .int .i64 n, .int .i32 d0, .int .i32 d1, .int .i32 d2, .int .i32 d3, .int .i32 d4, .int .i32 d5, .int .i32 d6, .int .i32 d7, .int .i32 d8, .int .i32 d9, .slice u0 v0 x0, .slice u1 v1 x1] 105)).alloc (.cells #[.bool true, .string ⟨a.toArray⟩, .string ⟨b.toArray⟩] 109)).alloc (.cells #[.pointer none, .slice none 0 0] 148)) (w.heap.size + 1) #[.bool true, .string ⟨a.toArray⟩, .string ⟨b.toArray⟩] := by simpa using (row_at (w.alloc (.cells #[.int .i32 mi, .int .i32 po, .int .i32 g, .int .i64 f, .int .i64 n, .int .i32 d0, .int .i32 d1, .int .i32 d2, .int .i32 d3, .int .i32 d4, .int .i32 d5, .int .i32 d6, .int .i32 d7, .int .i32 d8, .int .i32 d9, .slice u0 v0 x0, .slice u1 v1 x1] 105)) #[.bool true, .string ⟨a.toArray⟩, .string ⟨b.toArray⟩] 109).alloc _
  have hI : Lib.IsBuilderF 148 5 (w.heap.size + 1 + 1) (w.heap.size + 1 + 1) (Lib.byteCells []) (((w.alloc (.cells #[.int .i32 mi, .int .i32 po, .int .i32 g, .int .i64 f, .int .i64 n, .int .i32 d0, .int .i32 d1, .int .i32 d2, .int .i32 d3, .int .i32 d4, .int .i32 d5, .int .i32 d6, .int .i32 d7, .int .i32 d8, .int .i32 d9, .slice u0 v0 x0, .slice u1 v1 x1] 105)).alloc (.cells #[.bool true, .string ⟨a.toArray⟩, .string ⟨b.toArray⟩] 109)).alloc (.cells #[.pointer none, .slice none 0 0] 148)) := by
    have h := Lib.IsBuilderF.of (Lib.fresh_isBuilder 148 5 ((w.alloc (.cells #[.int .i32 mi, .int .i32 po, .int .i32 g, .int .i64 f, .int .i64 n, .int .i32 d0, .int .i32 d1, .int .i32 d2, .int .i32 d3, .int .i32 d4, .int .i32 d5, .int .i32 d6, .int .i32 d7, .int .i32 d8, .int .i32 d9, .slice u0 v0 x0, .slice u1 v1 x1] 105)).alloc (.cells #[.bool true, .string ⟨a.toArray⟩, .string ⟨b.toArray⟩] 109)))
    rw [show ((w.alloc (.cells #[.int .i32 mi, .int .i32 po, .int .i32 g, .int .i64 f, .int .i64 n, .int .i32 d0, .int .i32 d1, .int .i32 d2, .int .i32 d3, .int .i32 d4, .int .i32 d5, .int .i32 d6, .int .i32 d7, .int .i32 d8, .int .i32 d9, .slice u0 v0 x0, .slice u1 v1 x1] 105)).alloc (.cells #[.bool true, .string ⟨a.toArray⟩, .string ⟨b.toArray⟩] 109)).heap.size = w.heap.size + 1 + 1 from by simp] at h
    exact h
  have hw : Below w.heap.size w (((w.alloc (.cells #[.int .i32 mi, .int .i32 po, .int .i32 g, .int .i64 f, .int .i64 n, .int .i32 d0, .int .i32 d1, .int .i32 d2, .int .i32 d3, .int .i32 d4, .int .i32 d5, .int .i32 d6, .int .i32 d7, .int .i32 d8, .int .i32 d9, .slice u0 v0 x0, .slice u1 v1 x1] 105)).alloc (.cells #[.bool true, .string ⟨a.toArray⟩, .string ⟨b.toArray⟩] 109)).alloc (.cells #[.pointer none, .slice none 0 0] 148)) := (((Below.refl _ _).alloc (Nat.le_refl _) _).alloc (by simp) _).alloc (by simp; omega) _
  have HD : Hid (∀ x ∈ [d0, d1, d2, d3, d4, d5, d6, d7, d8, d9], -2147483648 ≤ x ∧ x ≤ 2147483647) := hD
  have HA : Hid (∀ c ∈ a, Pn.isDig c = true) := ha
  have HB : Hid (∀ c ∈ b, Pn.isDig c = true) := hb
  clear hD ha hb
  go_enter Tryz.func55, Tryz.ntmps55
  go_wp2_with fail
  refine (Tryz.Builder_WriteRune_k (w.heap.size + 1 + 1) (w.heap.size + 1 + 1) _ mi hmi.1 hmi.2 _ hI (by rw [Lib.byteCells_length]; simp) (by simp)).mono ?_
  rintro e w1 ⟨rfl, h1, b1, k1⟩
  replace r0 := r0.below b1 (by omega)
  replace r1 := r1.below b1 (by omega)
  replace hw := hw.trans (b1.mono (by omega))
  have hI1 : Lib.IsBuilderF 148 5 (w.heap.size + 1 + 1) (w.heap.size + 1 + 1) (Lib.byteCells (Lib.encodeRune mi)) w1 := by rw [Lib.byteCells_encodeRune]; exact Or.inr h1
  have hz1 : (w.heap.size + 1 + 1) < w1.heap.size := by have := b1.size; simp at this; omega
  clear hI h1 b1 k1
  have q1 := r1.2.1
  go_wp2_with fail
  clear q1
  go_loopw [] (fun wr => ∃ (pos : Nat) (acc : List UInt8), pos ≤ a.length ∧ Lib.IsBuilderF 148 5 (w.heap.size + 1 + 1) (w.heap.size + 1 + 1) (Lib.byteCells acc) wr ∧ wr.heap[w1.heap.size]? = some (.stringIter ⟨a.toArray⟩ pos) ∧ Row wr w.heap.size #[.int .i32 mi, .int .i32 po, .int .i32 g, .int .i64 f, .int .i64 n, .int .i32 d0, .int .i32 d1, .int .i32 d2, .int .i32 d3, .int .i32 d4, .int .i32 d5, .int .i32 d6, .int .i32 d7, .int .i32 d8, .int .i32 d9, .slice u0 v0 x0, .slice u1 v1 x1] ∧ Row wr (w.heap.size + 1) #[.bool true, .string ⟨a.toArray⟩, .string ⟨b.toArray⟩] ∧ Below w.heap.size w wr ∧ acc ++ Pn.wWhole (Lib.encodeRune g) f n (fun c => Lib.encodeRune (Pn.digAt [d0, d1, d2, d3, d4, d5, d6, d7, d8, d9] c)) (decide (0 < pos)) (a.drop pos) = Lib.encodeRune mi ++ Pn.wWhole (Lib.encodeRune g) f n (fun c => Lib.encodeRune (Pn.digAt [d0, d1, d2, d3, d4, d5, d6, d7, d8, d9] c)) false a ∧ acc.length ≤ 8 * (pos + 1)) (fun wr => a.length - wr.iterPos w1.heap.size)
  case atStart =>
    refine ⟨0, Lib.encodeRune mi, Nat.zero_le _, hI1.alloc _, by simpa using World.iter_heap w1 ⟨a.toArray⟩ 0, r0.alloc _, r1.alloc _, hw.alloc (by omega) _, by simp, ?_⟩
    have := enc_le mi
    omega
  case round =>
    clear r0 r1 hw hI1
    obtain ⟨pos, acc, hpos, hI, hit, r0, r1, hw, hacc, hal⟩ := hrel
    have hKI : (w.heap.size + 1 + 1) < w1.heap.size := by omega
    have hzr : w1.heap.size < wr.heap.size := (Array.getElem?_eq_some_iff.1 hit).1
    by_cases hp : pos < a.length
    · have hc : Pn.isDig a[pos] = true := HA.out _ (List.getElem_mem _)
      have hp' : pos < (⟨a.toArray⟩ : ByteArray).size := by rw [Lib.size_mk]; exact hp
      have hdec := dec_one ⟨a.toArray⟩ pos hp' hc
      rw [get_mk a pos hp' hp] at hdec
      have hnx : ∀ ty, (Instr.next (.pointer (some ⟨w1.heap.size, 0, none⟩)) true ty).run Tryz.prog wr = _ := fun ty => Lib.run_next_any_at wr w1.heap.size ⟨a.toArray⟩ pos ty hit hp'
      rw [hdec] at hnx
      clear hdec
      have hcd := (Pn.isDig_iff _).1 hc
      have hdb := digAt_bd d0 d1 d2 d3 d4 d5 d6 d7 d8 d9 HD.out a[pos] hc
      have hdl := enc_le (Pn.digAt [d0, d1, d2, d3, d4, d5, d6, d7, d8, d9] a[pos])
      have hgl := enc_le g
      have hst := wWhole_step (Lib.encodeRune g) f n (fun c => Lib.encodeRune (Pn.digAt [d0, d1, d2, d3, d4, d5, d6, d7, d8, d9] c)) a pos hp (decide (0 < pos))
      have HQ : Hid (acc ++ ((if decide (0 < pos) && Pn.endsG f n (a.length - pos) then (Lib.encodeRune g) else []) ++ (Lib.encodeRune (Pn.digAt [d0, d1, d2, d3, d4, d5, d6, d7, d8, d9] a[pos]) ++ Pn.wWhole (Lib.encodeRune g) f n (fun c => Lib.encodeRune (Pn.digAt [d0, d1, d2, d3, d4, d5, d6, d7, d8, d9] c)) true (a.drop (pos + 1)))) = Lib.encodeRune mi ++ Pn.wWhole (Lib.encodeRune g) f n (fun c => Lib.encodeRune (Pn.digAt [d0, d1, d2, d3, d4, d5, d6, d7, d8, d9] c)) false a) := by
        show _ = _
        rw [← hacc, hst]
      clear hst hacc
      replace hI := hI.iterAt hit (pos + 1)
      have hit2 := Lib.iterAt_heap wr w1.heap.size ⟨a.toArray⟩ pos (pos + 1) hit
      replace r0 := row_iter r0 (k := w1.heap.size) (by omega) ⟨a.toArray⟩ (pos + 1)
      replace r1 := row_iter r1 (k := w1.heap.size) (by omega) ⟨a.toArray⟩ (pos + 1)
      replace hw := Lib.below_iterAt hw (k := w1.heap.size) (by omega) ⟨a.toArray⟩ (pos + 1)
      have hZ : (wr.iterAt w1.heap.size ⟨a.toArray⟩ (pos + 1)).heap.size = wr.heap.size := Lib.iterAt_size _ _ _ _
      have q5 : (wr.iterAt w1.heap.size ⟨a.toArray⟩ (pos + 1)).cell? ⟨w.heap.size, 5 + (a[pos].toNat - 48), none⟩ = some (.int .i32 (Pn.digAt [d0, d1, d2, d3, d4, d5, d6, d7, d8, d9] a[pos])) := (r0.2.1 _).trans (digAt_cell mi po g f n d0 d1 d2 d3 d4 d5 d6 d7 d8 d9 a[pos] hc)
      have HC : Hid (Pn.isDig a[pos] = true) := hc
      clear hc
      by_cases h0 : pos = 0
      · have h0' : ¬ (0 : Int) < pos := by omega
        have HR : Hid (acc ++ (Lib.encodeRune (Pn.digAt [d0, d1, d2, d3, d4, d5, d6, d7, d8, d9] a[pos]) ++ Pn.wWhole (Lib.encodeRune g) f n (fun c => Lib.encodeRune (Pn.digAt [d0, d1, d2, d3, d4, d5, d6, d7, d8, d9] c)) true (a.drop (pos + 1))) = Lib.encodeRune mi ++ Pn.wWhole (Lib.encodeRune g) f n (fun c => Lib.encodeRune (Pn.digAt [d0, d1, d2, d3, d4, d5, d6, d7, d8, d9] c)) false a) := by
          show _ = _
          have h := HQ.out
          rw [decide_eq_false (show ¬ 0 < pos by omega)] at h
          simpa using h
        clear HQ h0
        have hZ2 : (w.heap.size + 1 + 1) ≤ (wr.iterAt w1.heap.size ⟨a.toArray⟩ (pos + 1)).heap.size := by rw [hZ]; omega
        clear hZ
        go_wp2_with fail
        refine (Tryz.Builder_WriteRune_k (w.heap.size + 1 + 1) (w.heap.size + 1 + 1) _ _ hdb.1 hdb.2 _ hI (by rw [Lib.byteCells_length]; simp; omega) hZ2).mono ?_
        rintro e w5 ⟨rfl, h5, b5, k5⟩
        go_wp2
        go_roundw
        case rel =>
          refine ⟨pos + 1, acc ++ Lib.encodeRune (Pn.digAt [d0, d1, d2, d3, d4, d5, d6, d7, d8, d9] a[pos]), hp, ?_, k5.iter hit2 (by omega), r0.below b5 (by omega), r1.below b5 (by omega), hw.trans (b5.mono (by omega)), ?_, by simp; omega⟩
          · rw [Lib.byteCells_append, Lib.byteCells_encodeRune]; exact Or.inr h5
          · rw [List.append_assoc, decide_eq_true (Nat.succ_pos pos)]; exact HR.out
        case measure =>
          simp only [World.iterPos, k5.iter hit2 (by omega), hit]
          omega
      · have h0' : (0 : Int) < pos := by omega
        have hq1 : (wr.iterAt w1.heap.size ⟨a.toArray⟩ (pos + 1)).cell? ⟨w.heap.size + 1, 1, none⟩ = some (.string ⟨a.toArray⟩) := (r1.2.1 1).trans rfl
        have c0 : (wr.iterAt w1.heap.size ⟨a.toArray⟩ (pos + 1)).cell? ⟨w.heap.size, 0, none⟩ = some (.int .i32 mi) := (r0.2.1 0).trans rfl
        have c1 : (wr.iterAt w1.heap.size ⟨a.toArray⟩ (pos + 1)).cell? ⟨w.heap.size, 1, none⟩ = some (.int .i32 po) := (r0.2.1 1).trans rfl
        have c2 : (wr.iterAt w1.heap.size ⟨a.toArray⟩ (pos + 1)).cell? ⟨w.heap.size, 2, none⟩ = some (.int .i32 g) := (r0.2.1 2).trans rfl
        have c3 : (wr.iterAt w1.heap.size ⟨a.toArray⟩ (pos + 1)).cell? ⟨w.heap.size, 3, none⟩ = some (.int .i64 f) := (r0.2.1 3).trans rfl
        have c4 : (wr.iterAt w1.heap.size ⟨a.toArray⟩ (pos + 1)).cell? ⟨w.heap.size, 4, none⟩ = some (.int .i64 n) := (r0.2.1 4).trans rfl
        have c5 : (wr.iterAt w1.heap.size ⟨a.toArray⟩ (pos + 1)).cell? ⟨w.heap.size, 5, none⟩ = some (.int .i32 d0) := (r0.2.1 5).trans rfl
        have c6 : (wr.iterAt w1.heap.size ⟨a.toArray⟩ (pos + 1)).cell? ⟨w.heap.size, 6, none⟩ = some (.int .i32 d1) := (r0.2.1 6).trans rfl
        have c7 : (wr.iterAt w1.heap.size ⟨a.toArray⟩ (pos + 1)).cell? ⟨w.heap.size, 7, none⟩ = some (.int .i32 d2) := (r0.2.1 7).trans rfl
        have c8 : (wr.iterAt w1.heap.size ⟨a.toArray⟩ (pos + 1)).cell? ⟨w.heap.size, 8, none⟩ = some (.int .i32 d3) := (r0.2.1 8).trans rfl
        have c9 : (wr.iterAt w1.heap.size ⟨a.toArray⟩ (pos + 1)).cell? ⟨w.heap.size, 9, none⟩ = some (.int .i32 d4) := (r0.2.1 9).trans rfl
        have c10 : (wr.iterAt w1.heap.size ⟨a.toArray⟩ (pos + 1)).cell? ⟨w.heap.size, 10, none⟩ = some (.int .i32 d5) := (r0.2.1 10).trans rfl
        have c11 : (wr.iterAt w1.heap.size ⟨a.toArray⟩ (pos + 1)).cell? ⟨w.heap.size, 11, none⟩ = some (.int .i32 d6) := (r0.2.1 11).trans rfl
        have c12 : (wr.iterAt w1.heap.size ⟨a.toArray⟩ (pos + 1)).cell? ⟨w.heap.size, 12, none⟩ = some (.int .i32 d7) := (r0.2.1 12).trans rfl
        have c13 : (wr.iterAt w1.heap.size ⟨a.toArray⟩ (pos + 1)).cell? ⟨w.heap.size, 13, none⟩ = some (.int .i32 d8) := (r0.2.1 13).trans rfl
        have c14 : (wr.iterAt w1.heap.size ⟨a.toArray⟩ (pos + 1)).cell? ⟨w.heap.size, 14, none⟩ = some (.int .i32 d9) := (r0.2.1 14).trans rfl
        have c15 : (wr.iterAt w1.heap.size ⟨a.toArray⟩ (pos + 1)).cell? ⟨w.heap.size, 15, none⟩ = some (.slice u0 v0 x0) := (r0.2.1 15).trans rfl
        have c16 : (wr.iterAt w1.heap.size ⟨a.toArray⟩ (pos + 1)).cell? ⟨w.heap.size, 16, none⟩ = some (.slice u1 v1 x1) := (r0.2.1 16).trans rfl
        go_wp2_with fail
        rw [show ((a.length : Int) - pos) = ((a.length - pos : Nat) : Int) from by omega]
        refine (endsGroup_any mi po g d0 d1 d2 d3 d4 d5 d6 d7 d8 d9 f n (a.length - pos) _ hf hn hfn (by omega)).mono ?_
        rintro e w3 ⟨rfl, rfl⟩
        clear hq1 q5 c0 c1 c2 c3 c4 c5 c6 c7 c8 c9 c10 c11 c12 c13 c14
        have hZ1 : (w.heap.size + 1 + 1) ≤ (wr.iterAt w1.heap.size ⟨a.toArray⟩ (pos + 1)).heap.size := by rw [hZ]; omega
        replace hit2 := (Lib.alloc_old (wr.iterAt w1.heap.size ⟨a.toArray⟩ (pos + 1)) (.cells #[.int .i32 mi, .int .i32 po, .int .i32 g, .int .i64 f, .int .i64 n, .int .i32 d0, .int .i32 d1, .int .i32 d2, .int .i32 d3, .int .i32 d4, .int .i32 d5, .int .i32 d6, .int .i32 d7, .int .i32 d8, .int .i32 d9, .slice u0 v0 x0, .slice u1 v1 x1] 105) w1.heap.size (by rw [hZ]; exact hzr)).trans hit2
        clear hZ
        replace hI := hI.alloc (.cells #[.int .i32 mi, .int .i32 po, .int .i32 g, .int .i64 f, .int .i64 n, .int .i32 d0, .int .i32 d1, .int .i32 d2, .int .i32 d3, .int .i32 d4, .int .i32 d5, .int .i32 d6, .int .i32 d7, .int .i32 d8, .int .i32 d9, .slice u0 v0 x0, .slice u1 v1 x1] 105)
        replace r0 := r0.alloc (.cells #[.int .i32 mi, .int .i32 po, .int .i32 g, .int .i64 f, .int .i64 n, .int .i32 d0, .int .i32 d1, .int .i32 d2, .int .i32 d3, .int .i32 d4, .int .i32 d5, .int .i32 d6, .int .i32 d7, .int .i32 d8, .int .i32 d9, .slice u0 v0 x0, .slice u1 v1 x1] 105)
        replace r1 := r1.alloc (.cells #[.int .i32 mi, .int .i32 po, .int .i32 g, .int .i64 f, .int .i64 n, .int .i32 d0, .int .i32 d1, .int .i32 d2, .int .i32 d3, .int .i32 d4, .int .i32 d5, .int .i32 d6, .int .i32 d7, .int .i32 d8, .int .i32 d9, .slice u0 v0 x0, .slice u1 v1 x1] 105)
        replace hw := hw.alloc (by omega) (.cells #[.int .i32 mi, .int .i32 po, .int .i32 g, .int .i64 f, .int .i64 n, .int .i32 d0, .int .i32 d1, .int .i32 d2, .int .i32 d3, .int .i32 d4, .int .i32 d5, .int .i32 d6, .int .i32 d7, .int .i32 d8, .int .i32 d9, .slice u0 v0 x0, .slice u1 v1 x1] 105)
        have hZ2 : (w.heap.size + 1 + 1) ≤ ((wr.iterAt w1.heap.size ⟨a.toArray⟩ (pos + 1)).alloc (.cells #[.int .i32 mi, .int .i32 po, .int .i32 g, .int .i64 f, .int .i64 n, .int .i32 d0, .int .i32 d1, .int .i32 d2, .int .i32 d3, .int .i32 d4, .int .i32 d5, .int .i32 d6, .int .i32 d7, .int .i32 d8, .int .i32 d9, .slice u0 v0 x0, .slice u1 v1 x1] 105)).heap.size := by simp; omega
        clear hZ1
        have q5 := (r0.2.1 _).trans (digAt_cell mi po g f n d0 d1 d2 d3 d4 d5 d6 d7 d8 d9 a[pos] HC.out)
        cases hE : Pn.endsG f n (a.length - pos) with
        | false =>
          have HR : Hid (acc ++ (Lib.encodeRune (Pn.digAt [d0, d1, d2, d3, d4, d5, d6, d7, d8, d9] a[pos]) ++ Pn.wWhole (Lib.encodeRune g) f n (fun c => Lib.encodeRune (Pn.digAt [d0, d1, d2, d3, d4, d5, d6, d7, d8, d9] c)) true (a.drop (pos + 1))) = Lib.encodeRune mi ++ Pn.wWhole (Lib.encodeRune g) f n (fun c => Lib.encodeRune (Pn.digAt [d0, d1, d2, d3, d4, d5, d6, d7, d8, d9] c)) false a) := by
            show _ = _
            have h := HQ.out
            rw [hE] at h
            simpa using h
          clear HQ h0
          go_wp2_with fail
          refine (Tryz.Builder_WriteRune_k (w.heap.size + 1 + 1) (w.heap.size + 1 + 1) _ _ hdb.1 hdb.2 _ hI (by rw [Lib.byteCells_length]; simp; omega) hZ2).mono ?_
          rintro e w5 ⟨rfl, h5, b5, k5⟩
          go_wp2
          go_roundw
          case rel =>
            refine ⟨pos + 1, acc ++ Lib.encodeRune (Pn.digAt [d0, d1, d2, d3, d4, d5, d6, d7, d8, d9] a[pos]), hp, ?_, k5.iter hit2 (by omega), r0.below b5 (by omega), r1.below b5 (by omega), hw.trans (b5.mono (by omega)), ?_, by simp; omega⟩
            · rw [Lib.byteCells_append, Lib.byteCells_encodeRune]; exact Or.inr h5
            · rw [List.append_assoc, decide_eq_true (Nat.succ_pos pos)]; exact HR.out
          case measure =>
            simp only [World.iterPos, k5.iter hit2 (by omega), hit]
            omega
        | true =>
          have HR : Hid ((acc ++ (Lib.encodeRune g)) ++ (Lib.encodeRune (Pn.digAt [d0, d1, d2, d3, d4, d5, d6, d7, d8, d9] a[pos]) ++ Pn.wWhole (Lib.encodeRune g) f n (fun c => Lib.encodeRune (Pn.digAt [d0, d1, d2, d3, d4, d5, d6, d7, d8, d9] c)) true (a.drop (pos + 1))) = Lib.encodeRune mi ++ Pn.wWhole (Lib.encodeRune g) f n (fun c => Lib.encodeRune (Pn.digAt [d0, d1, d2, d3, d4, d5, d6, d7, d8, d9] c)) false a) := by
            show _ = _
            have h := HQ.out
            rw [hE, decide_eq_true (show 0 < pos by omega)] at h
            simpa using h
          clear HQ h0 q5
          have c2 := (r0.2.1 2).trans (show (#[.int .i32 mi, .int .i32 po, .int .i32 g, .int .i64 f, .int .i64 n, .int .i32 d0, .int .i32 d1, .int .i32 d2, .int .i32 d3, .int .i32 d4, .int .i32 d5, .int .i32 d6, .int .i32 d7, .int .i32 d8, .int .i32 d9, .slice u0 v0 x0, .slice u1 v1 x1] : Array Value)[2]? = some (.int .i32 g) from rfl)
          go_wp2_with fail
          refine (Tryz.Builder_WriteRune_k (w.heap.size + 1 + 1) (w.heap.size + 1 + 1) _ g hg.1 hg.2 _ hI (by rw [Lib.byteCells_length]; omega) hZ2).mono ?_
          rintro e w4 ⟨rfl, h4, b4, k4⟩
          clear c2
          replace hit2 := k4.iter hit2 (by omega)
          replace r0 := r0.below b4 (by omega)
          replace r1 := r1.below b4 (by omega)
          replace hw := hw.trans (b4.mono (by omega))
          replace hZ2 := Nat.le_trans hZ2 b4.size
          replace hI : Lib.IsBuilderF 148 5 (w.heap.size + 1 + 1) (w.heap.size + 1 + 1) (Lib.byteCells (acc ++ (Lib.encodeRune g))) w4 := by rw [Lib.byteCells_append, Lib.byteCells_encodeRune]; exact Or.inr h4
          clear h4 b4 k4
          have q5 := (r0.2.1 _).trans (digAt_cell mi po g f n d0 d1 d2 d3 d4 d5 d6 d7 d8 d9 a[pos] HC.out)
          go_wp2_with fail
          refine (Tryz.Builder_WriteRune_k (w.heap.size + 1 + 1) (w.heap.size + 1 + 1) _ _ hdb.1 hdb.2 _ hI (by rw [Lib.byteCells_length]; simp; omega) hZ2).mono ?_
          rintro e w5 ⟨rfl, h5, b5, k5⟩
          go_wp2
          go_roundw
          case rel =>
            refine ⟨pos + 1, (acc ++ (Lib.encodeRune g)) ++ Lib.encodeRune (Pn.digAt [d0, d1, d2, d3, d4, d5, d6, d7, d8, d9] a[pos]), hp, ?_, k5.iter hit2 (by omega), r0.below b5 (by omega), r1.below b5 (by omega), hw.trans (b5.mono (by omega)), ?_, by simp; omega⟩
            · rw [Lib.byteCells_append, Lib.byteCells_encodeRune]; exact Or.inr h5
            · rw [List.append_assoc, decide_eq_true (Nat.succ_pos pos)]; exact HR.out
          case measure =>
            simp only [World.iterPos, k5.iter hit2 (by omega), hit]
            omega
    · have hnx : ∀ ty, (Instr.next (.pointer (some ⟨w1.heap.size, 0, none⟩)) true ty).run Tryz.prog wr = _ := fun ty => Lib.run_next_end_at wr w1.heap.size ⟨a.toArray⟩ pos ty hit (by rw [Lib.size_mk]; exact hp)
      have HX : Hid (acc = Lib.encodeRune mi ++ Pn.wWhole (Lib.encodeRune g) f n (fun c => Lib.encodeRune (Pn.digAt [d0, d1, d2, d3, d4, d5, d6, d7, d8, d9] c)) false a) := by
        show _ = _
        rw [List.drop_eq_nil_of_le (by omega)] at hacc
        rw [← hacc]
        simp [Pn.wWhole]
      have hal2 : acc.length ≤ 252 := by omega
      clear hacc hal hit
      have qb : wr.cell? ⟨w.heap.size + 1, 2, none⟩ = some (.string ⟨b.toArray⟩) := (r1.2.1 2).trans rfl
      have hzB : (w.heap.size + 1 + 1) < wr.heap.size := by omega
      by_cases hbe : b = []
      · have hbe' : b.isEmpty = true := by simp [hbe]
        have HE : Hid (b = []) := hbe
        clear hbe
        go_wp2_with fail
        obtain ⟨wo, hwo⟩ : ∃ x : World, x = wr := ⟨wr, rfl⟩
        subst hwo
        clear qb
        go_loopw [] (fun wx => ∃ (pos2 : Nat) (acc2 : List UInt8), pos2 ≤ b.length ∧ Lib.IsBuilderF 148 5 (w.heap.size + 1 + 1) (w.heap.size + 1 + 1) (Lib.byteCells acc2) wx ∧ wx.heap[wo.heap.size]? = some (.stringIter ⟨b.toArray⟩ pos2) ∧ Row wx w.heap.size #[.int .i32 mi, .int .i32 po, .int .i32 g, .int .i64 f, .int .i64 n, .int .i32 d0, .int .i32 d1, .int .i32 d2, .int .i32 d3, .int .i32 d4, .int .i32 d5, .int .i32 d6, .int .i32 d7, .int .i32 d8, .int .i32 d9, .slice u0 v0 x0, .slice u1 v1 x1] ∧ Below w.heap.size w wx ∧ acc2 ++ (b.drop pos2).flatMap (fun c => Lib.encodeRune (Pn.digAt [d0, d1, d2, d3, d4, d5, d6, d7, d8, d9] c)) = acc ++ b.flatMap (fun c => Lib.encodeRune (Pn.digAt [d0, d1, d2, d3, d4, d5, d6, d7, d8, d9] c)) ∧ acc2.length ≤ 260 + 4 * pos2) (fun wx => b.length - wx.iterPos wo.heap.size)
        case atStart =>
          exact ⟨0, acc, Nat.zero_le _, hI.alloc _, by simpa using World.iter_heap wo ⟨b.toArray⟩ 0, r0.alloc _, hw.alloc (by omega) _, by simp, by simp; omega⟩
        case round =>
          clear r0 r1 hw hI hnx
          obtain ⟨pos2, acc2, hpos2, hI, hit, r0, hw, hacc2, hal3⟩ := hrel
          have hzr2 : wo.heap.size < wr.heap.size := (Array.getElem?_eq_some_iff.1 hit).1
          by_cases hp2 : pos2 < b.length
          · have hc : Pn.isDig b[pos2] = true := HB.out _ (List.getElem_mem _)
            have hp' : pos2 < (⟨b.toArray⟩ : ByteArray).size := by rw [Lib.size_mk]; exact hp2
            have hdec := dec_one ⟨b.toArray⟩ pos2 hp' hc
            rw [get_mk b pos2 hp' hp2] at hdec
            have hnx2 : ∀ ty, (Instr.next (.pointer (some ⟨wo.heap.size, 0, none⟩)) true ty).run Tryz.prog wr = _ := fun ty => Lib.run_next_any_at wr wo.heap.size ⟨b.toArray⟩ pos2 ty hit hp'
            rw [hdec] at hnx2
            clear hdec
            have hcd := (Pn.isDig_iff _).1 hc
            have hdb := digAt_bd d0 d1 d2 d3 d4 d5 d6 d7 d8 d9 HD.out b[pos2] hc
            have hdl := enc_le (Pn.digAt [d0, d1, d2, d3, d4, d5, d6, d7, d8, d9] b[pos2])
            have HR : Hid ((acc2 ++ Lib.encodeRune (Pn.digAt [d0, d1, d2, d3, d4, d5, d6, d7, d8, d9] b[pos2])) ++ (b.drop (pos2 + 1)).flatMap (fun c => Lib.encodeRune (Pn.digAt [d0, d1, d2, d3, d4, d5, d6, d7, d8, d9] c)) = acc ++ b.flatMap (fun c => Lib.encodeRune (Pn.digAt [d0, d1, d2, d3, d4, d5, d6, d7, d8, d9] c))) := by
              show _ = _
              rw [← hacc2, List.drop_eq_getElem_cons hp2, List.flatMap_cons, List.append_assoc]
            clear hacc2
            replace hI := hI.iterAt hit (pos2 + 1)
            have hit2 := Lib.iterAt_heap wr wo.heap.size ⟨b.toArray⟩ pos2 (pos2 + 1) hit
            replace r0 := row_iter r0 (k := wo.heap.size) (by omega) ⟨b.toArray⟩ (pos2 + 1)
            replace hw := Lib.below_iterAt hw (k := wo.heap.size) (by omega) ⟨b.toArray⟩ (pos2 + 1)
            have hZ2 : (w.heap.size + 1 + 1) ≤ (wr.iterAt wo.heap.size ⟨b.toArray⟩ (pos2 + 1)).heap.size := by rw [Lib.iterAt_size]; omega
            have q5 := (r0.2.1 _).trans (digAt_cell mi po g f n d0 d1 d2 d3 d4 d5 d6 d7 d8 d9 b[pos2] hc)
            clear hc
            go_wp2_with fail
            refine (Tryz.Builder_WriteRune_k (w.heap.size + 1 + 1) (w.heap.size + 1 + 1) _ _ hdb.1 hdb.2 _ hI (by rw [Lib.byteCells_length]; omega) hZ2).mono ?_
            rintro e w7 ⟨rfl, h7, b7, k7⟩
            go_wp2
            go_roundw
            case rel =>
              refine ⟨pos2 + 1, acc2 ++ Lib.encodeRune (Pn.digAt [d0, d1, d2, d3, d4, d5, d6, d7, d8, d9] b[pos2]), hp2, ?_, k7.iter hit2 (by omega), r0.below b7 (by omega), hw.trans (b7.mono (by omega)), HR.out, by simp; omega⟩
              rw [Lib.byteCells_append, Lib.byteCells_encodeRune]; exact Or.inr h7
            case measure =>
              simp only [World.iterPos, k7.iter hit2 (by omega), hit]
              omega
          · have hnx2 : ∀ ty, (Instr.next (.pointer (some ⟨wo.heap.size, 0, none⟩)) true ty).run Tryz.prog wr = _ := fun ty => Lib.run_next_end_at wr wo.heap.size ⟨b.toArray⟩ pos2 ty hit (by rw [Lib.size_mk]; exact hp2)
            have HY : Hid (acc2 = Pn.wParts (Lib.encodeRune mi) (Lib.encodeRune po) (Lib.encodeRune g) f n (fun c => Lib.encodeRune (Pn.digAt [d0, d1, d2, d3, d4, d5, d6, d7, d8, d9] c)) a b) := by
              show _ = _
              unfold Pn.wParts
              rw [List.drop_eq_nil_of_le (by omega), List.flatMap_nil, List.append_nil] at hacc2
              rw [hacc2, HX.out, if_pos HE.out]
              simp
            clear hacc2
            go_wp2_with fail
            refine (Tryz.Builder_String_any_k (w.heap.size + 1 + 1) (w.heap.size + 1 + 1) acc2 _ hI (by omega)).mono ?_
            rintro e w8 ⟨rfl, _, b8, _⟩
            go_wp2
            go_ret
            exact ⟨ret_str HY.out, hw.trans (b8.mono (by omega))⟩
      · have hbe' : b.isEmpty = false := by simp [hbe]
        have HE : Hid (¬ b = []) := hbe
        clear hbe
        have c1 : wr.cell? ⟨w.heap.size, 1, none⟩ = some (.int .i32 po) := (r0.2.1 1).trans rfl
        go_wp2_with fail
        refine (Tryz.Builder_WriteRune_k (w.heap.size + 1 + 1) (w.heap.size + 1 + 1) _ po hpo.1 hpo.2 _ hI (by rw [Lib.byteCells_length]; omega) (by omega)).mono ?_
        rintro e w6 ⟨rfl, h6, b6, k6⟩
        clear c1 qb hnx
        have hpl := enc_le po
        replace r0 := r0.below b6 (by omega)
        replace r1 := r1.below b6 (by omega)
        replace hw := hw.trans (b6.mono (by omega))
        replace hzB := Nat.lt_of_lt_of_le hzB b6.size
        have hI6 : Lib.IsBuilderF 148 5 (w.heap.size + 1 + 1) (w.heap.size + 1 + 1) (Lib.byteCells (acc ++ Lib.encodeRune po)) w6 := by rw [Lib.byteCells_append, Lib.byteCells_encodeRune]; exact Or.inr h6
        clear h6 b6 k6 hI
        have qb : w6.cell? ⟨w.heap.size + 1, 2, none⟩ = some (.string ⟨b.toArray⟩) := (r1.2.1 2).trans rfl
        go_wp2_with fail
        clear qb
        go_loopw [] (fun wx => ∃ (pos2 : Nat) (acc2 : List UInt8), pos2 ≤ b.length ∧ Lib.IsBuilderF 148 5 (w.heap.size + 1 + 1) (w.heap.size + 1 + 1) (Lib.byteCells acc2) wx ∧ wx.heap[w6.heap.size]? = some (.stringIter ⟨b.toArray⟩ pos2) ∧ Row wx w.heap.size #[.int .i32 mi, .int .i32 po, .int .i32 g, .int .i64 f, .int .i64 n, .int .i32 d0, .int .i32 d1, .int .i32 d2, .int .i32 d3, .int .i32 d4, .int .i32 d5, .int .i32 d6, .int .i32 d7, .int .i32 d8, .int .i32 d9, .slice u0 v0 x0, .slice u1 v1 x1] ∧ Below w.heap.size w wx ∧ acc2 ++ (b.drop pos2).flatMap (fun c => Lib.encodeRune (Pn.digAt [d0, d1, d2, d3, d4, d5, d6, d7, d8, d9] c)) = (acc ++ Lib.encodeRune po) ++ b.flatMap (fun c => Lib.encodeRune (Pn.digAt [d0, d1, d2, d3, d4, d5, d6, d7, d8, d9] c)) ∧ acc2.length ≤ 260 + 4 * pos2) (fun wx => b.length - wx.iterPos w6.heap.size)
        case atStart =>
          exact ⟨0, (acc ++ Lib.encodeRune po), Nat.zero_le _, hI6.alloc _, by simpa using World.iter_heap w6 ⟨b.toArray⟩ 0, r0.alloc _, hw.alloc (by omega) _, by simp, by simp; omega⟩
        case round =>
          clear r0 r1 hw hI6 
          obtain ⟨pos2, acc2, hpos2, hI, hit, r0, hw, hacc2, hal3⟩ := hrel
          have hzr2 : w6.heap.size < wr.heap.size := (Array.getElem?_eq_some_iff.1 hit).1
          by_cases hp2 : pos2 < b.length
          · have hc : Pn.isDig b[pos2] = true := HB.out _ (List.getElem_mem _)
            have hp' : pos2 < (⟨b.toArray⟩ : ByteArray).size := by rw [Lib.size_mk]; exact hp2
            have hdec := dec_one ⟨b.toArray⟩ pos2 hp' hc
            rw [get_mk b pos2 hp' hp2] at hdec
            have hnx2 : ∀ ty, (Instr.next (.pointer (some ⟨w6.heap.size, 0, none⟩)) true ty).run Tryz.prog wr = _ := fun ty => Lib.run_next_any_at wr w6.heap.size ⟨b.toArray⟩ pos2 ty hit hp'
            rw [hdec] at hnx2
            clear hdec
            have hcd := (Pn.isDig_iff _).1 hc
            have hdb := digAt_bd d0 d1 d2 d3 d4 d5 d6 d7 d8 d9 HD.out b[pos2] hc
            have hdl := enc_le (Pn.digAt [d0, d1, d2, d3, d4, d5, d6, d7, d8, d9] b[pos2])
            have HR : Hid ((acc2 ++ Lib.encodeRune (Pn.digAt [d0, d1, d2, d3, d4, d5, d6, d7, d8, d9] b[pos2])) ++ (b.drop (pos2 + 1)).flatMap (fun c => Lib.encodeRune (Pn.digAt [d0, d1, d2, d3, d4, d5, d6, d7, d8, d9] c)) = (acc ++ Lib.encodeRune po) ++ b.flatMap (fun c => Lib.encodeRune (Pn.digAt [d0, d1, d2, d3, d4, d5, d6, d7, d8, d9] c))) := by
              show _ = _
              rw [← hacc2, List.drop_eq_getElem_cons hp2, List.flatMap_cons, List.append_assoc]
            clear hacc2
            replace hI := hI.iterAt hit (pos2 + 1)
            have hit2 := Lib.iterAt_heap wr w6.heap.size ⟨b.toArray⟩ pos2 (pos2 + 1) hit
            replace r0 := row_iter r0 (k := w6.heap.size) (by omega) ⟨b.toArray⟩ (pos2 + 1)
            replace hw := Lib.below_iterAt hw (k := w6.heap.size) (by omega) ⟨b.toArray⟩ (pos2 + 1)
            have hZ2 : (w.heap.size + 1 + 1) ≤ (wr.iterAt w6.heap.size ⟨b.toArray⟩ (pos2 + 1)).heap.size := by rw [Lib.iterAt_size]; omega
            have q5 := (r0.2.1 _).trans (digAt_cell mi po g f n d0 d1 d2 d3 d4 d5 d6 d7 d8 d9 b[pos2] hc)
            clear hc
            go_wp2_with fail
            refine (Tryz.Builder_WriteRune_k (w.heap.size + 1 + 1) (w.heap.size + 1 + 1) _ _ hdb.1 hdb.2 _ hI (by rw [Lib.byteCells_length]; omega) hZ2).mono ?_
            rintro e w7 ⟨rfl, h7, b7, k7⟩
            go_wp2
            go_roundw
            case rel =>
              refine ⟨pos2 + 1, acc2 ++ Lib.encodeRune (Pn.digAt [d0, d1, d2, d3, d4, d5, d6, d7, d8, d9] b[pos2]), hp2, ?_, k7.iter hit2 (by omega), r0.below b7 (by omega), hw.trans (b7.mono (by omega)), HR.out, by simp; omega⟩
              rw [Lib.byteCells_append, Lib.byteCells_encodeRune]; exact Or.inr h7
            case measure =>
              simp only [World.iterPos, k7.iter hit2 (by omega), hit]
              omega
          · have hnx2 : ∀ ty, (Instr.next (.pointer (some ⟨w6.heap.size, 0, none⟩)) true ty).run Tryz.prog wr = _ := fun ty => Lib.run_next_end_at wr w6.heap.size ⟨b.toArray⟩ pos2 ty hit (by rw [Lib.size_mk]; exact hp2)
            have HY : Hid (acc2 = Pn.wParts (Lib.encodeRune mi) (Lib.encodeRune po) (Lib.encodeRune g) f n (fun c => Lib.encodeRune (Pn.digAt [d0, d1, d2, d3, d4, d5, d6, d7, d8, d9] c)) a b) := by
              show _ = _
              unfold Pn.wParts
              rw [List.drop_eq_nil_of_le (by omega), List.flatMap_nil, List.append_nil] at hacc2
              rw [hacc2, HX.out, if_neg HE.out]
              simp
            clear hacc2
            go_wp2_with fail
            refine (Tryz.Builder_String_any_k (w.heap.size + 1 + 1) (w.heap.size + 1 + 1) acc2 _ hI (by omega)).mono ?_
            rintro e w8 ⟨rfl, _, b8, _⟩
            go_wp2
            go_ret
            exact ⟨ret_str HY.out, hw.trans (b8.mono (by omega))⟩

set_option maxHeartbeats 4000000 in
theorem write_false (mi po g : Int) (f n : Nat) (d0 d1 d2 d3 d4 d5 d6 d7 d8 d9 : Int) (a b : List UInt8) (w : World) (hf : f ≤ 9) (hn : n ≤ 9) (hfn : f ≠ 0 → n ≠ 0)
    (ha : ∀ c ∈ a, Pn.isDig c = true) (hb : ∀ c ∈ b, Pn.isDig c = true) (hla : a.length ≤ 30) (hlb : b.length ≤ 30)
    (_hmi : -2147483648 ≤ mi ∧ mi ≤ 2147483647) (hpo : -2147483648 ≤ po ∧ po ≤ 2147483647) (hg : -2147483648 ≤ g ∧ g ≤ 2147483647) (hD : ∀ x ∈ [d0, d1, d2, d3, d4, d5, d6, d7, d8, d9], -2147483648 ≤ x ∧ x ≤ 2147483647) :
    Calls Tryz.prog 55 #[.agg #[.int .i32 mi, .int .i32 po, .int .i32 g, .int .i64 f, .int .i64 n, .int .i32 d0, .int .i32 d1, .int .i32 d2, .int .i32 d3, .int .i32 d4, .int .i32 d5, .int .i32 d6, .int .i32 d7, .int .i32 d8, .int .i32 d9, .slice u0 v0 x0, .slice u1 v1 x1], .agg #[.bool false, .string ⟨a.toArray⟩, .string ⟨b.toArray⟩]] w fun e w' => e = .returned (.string ⟨(Pn.wParts ([]) (Lib.encodeRune po) (Lib.encodeRune g) f n (fun c => Lib.encodeRune (Pn.digAt [d0, d1, d2, d3, d4, d5, d6, d7, d8, d9] c)) a b).toArray⟩) ∧ Below w.heap.size w w' := by
  have r0 : Row (((w.alloc (.cells #[.int .i32 mi, .int .i32 po, .int .i32 g, .int .i64 f, .int .i64 n, .int .i32 d0, .int .i32 d1, .int .i32 d2, .int .i32 d3, .int .i32 d4, .int .i32 d5, .int .i32 d6, .int .i32 d7, .int .i32 d8, .int .i32 d9, .slice u0 v0 x0, .slice u1 v1 x1] 105)).alloc (.cells #[.bool false, .string ⟨a.toArray⟩, .string ⟨b.toArray⟩] 109)).alloc (.cells #[.pointer none, .slice none 0 0] 148)) w.heap.size #[.int .i32 mi, .int .i32 po, .int .i32 g, .int .i64 f, .int .i64 n, .int .i32 d0, .int .i32 d1, .int .i32 d2, .int .i32 d3, .int .i32 d4, .int .i32 d5, .int .i32 d6, .int .i32 d7, .int .i32 d8, .int .i32 d9, .slice u0 v0 x0, .slice u1 v1 x1] := ((row_at w _ _).alloc _).alloc _
  have r1 : Row (((w.alloc (.cells #[.int .i32 mi, .int .i32 po, .int .i32 g, .int .i64 f, .int .i64 n, .int .i32 d0, .int .i32 d1, .int .i32 d2, .int .i32 d3, .int .i32 d4, .int .i32 d5, .int .i32 d6, .int .i32 d7, .int .i32 d8, .int .i32 d9, .slice u0 v0 x0, .slice u1 v1 x1] 105)).alloc (.cells #[.bool false, .string ⟨a.toArray⟩, .string ⟨b.toArray⟩] 109)).alloc (.cells #[.pointer none, .slice none 0 0] 148)) (w.heap.size + 1) #[.bool false, .string ⟨a.toArray⟩, .string ⟨b.toArray⟩] := by simpa using (row_at (w.alloc (.cells #[.int .i32 mi, .int .i32 po, .int .i32 g, .int .i64 f, .int .i64 n, .int .i32 d0, .int .i32 d1, .int .i32 d2, .int .i32 d3, .int .i32 d4, .int .i32 d5, .int .i32 d6, .int .i32 d7, .int .i32 d8, .int .i32 d9, .slice u0 v0 x0, .slice u1 v1 x1] 105)) #[.bool false, .string ⟨a.toArray⟩, .string ⟨b.toArray⟩] 109).alloc _
  have hI : Lib.IsBuilderF 148 5 (w.heap.size + 1 + 1) (w.heap.size + 1 + 1) (Lib.byteCells []) (((w.alloc (.cells #[.int .i32 mi, .int .i32 po, .int .i32 g, .int .i64 f, .int .i64 n, .int .i32 d0, .int .i32 d1, .int .i32 d2, .int .i32 d3, .int .i32 d4, .int .i32 d5, .int .i32 d6, .int .i32 d7, .int .i32 d8, .int .i32 d9, .slice u0 v0 x0, .slice u1 v1 x1] 105)).alloc (.cells #[.bool false, .string ⟨a.toArray⟩, .string ⟨b.toArray⟩] 109)).alloc (.cells #[.pointer none, .slice none 0 0] 148)) := by
    have h := Lib.IsBuilderF.of (Lib.fresh_isBuilder 148 5 ((w.alloc (.cells #[.int .i32 mi, .int .i32 po, .int .i32 g, .int .i64 f, .int .i64 n, .int .i32 d0, .int .i32 d1, .int .i32 d2, .int .i32 d3, .int .i32 d4, .int .i32 d5, .int .i32 d6, .int .i32 d7, .int .i32 d8, .int .i32 d9, .slice u0 v0 x0, .slice u1 v1 x1] 105)).alloc (.cells #[.bool false, .string ⟨a.toArray⟩, .string ⟨b.toArray⟩] 109)))
    rw [show ((w.alloc (.cells #[.int .i32 mi, .int .i32 po, .int .i32 g, .int .i64 f, .int .i64 n, .int .i32 d0, .int .i32 d1, .int .i32 d2, .int .i32 d3, .int .i32 d4, .int .i32 d5, .int .i32 d6, .int .i32 d7, .int .i32 d8, .int .i32 d9, .slice u0 v0 x0, .slice u1 v1 x1] 105)).alloc (.cells #[.bool false, .string ⟨a.toArray⟩, .string ⟨b.toArray⟩] 109)).heap.size = w.heap.size + 1 + 1 from by simp] at h
    exact h
  have hw : Below w.heap.size w (((w.alloc (.cells #[.int .i32 mi, .int .i32 po, .int .i32 g, .int .i64 f, .int .i64 n, .int .i32 d0, .int .i32 d1, .int .i32 d2, .int .i32 d3, .int .i32 d4, .int .i32 d5, .int .i32 d6, .int .i32 d7, .int .i32 d8, .int .i32 d9, .slice u0 v0 x0, .slice u1 v1 x1] 105)).alloc (.cells #[.bool false, .string ⟨a.toArray⟩, .string ⟨b.toArray⟩] 109)).alloc (.cells #[.pointer none, .slice none 0 0] 148)) := (((Below.refl _ _).alloc (Nat.le_refl _) _).alloc (by simp) _).alloc (by simp; omega) _
  have HD : Hid (∀ x ∈ [d0, d1, d2, d3, d4, d5, d6, d7, d8, d9], -2147483648 ≤ x ∧ x ≤ 2147483647) := hD
  have HA : Hid (∀ c ∈ a, Pn.isDig c = true) := ha
  have HB : Hid (∀ c ∈ b, Pn.isDig c = true) := hb
  clear hD ha hb
  go_enter Tryz.func55, Tryz.ntmps55
  go_wp2_with fail
  go_loopw [] (fun wr => ∃ (pos : Nat) (acc : List UInt8), pos ≤ a.length ∧ Lib.IsBuilderF 148 5 (w.heap.size + 1 + 1) (w.heap.size + 1 + 1) (Lib.byteCells acc) wr ∧ wr.heap[(w.heap.size + 1 + 1 + 1)]? = some (.stringIter ⟨a.toArray⟩ pos) ∧ Row wr w.heap.size #[.int .i32 mi, .int .i32 po, .int .i32 g, .int .i64 f, .int .i64 n, .int .i32 d0, .int .i32 d1, .int .i32 d2, .int .i32 d3, .int .i32 d4, .int .i32 d5, .int .i32 d6, .int .i32 d7, .int .i32 d8, .int .i32 d9, .slice u0 v0 x0, .slice u1 v1 x1] ∧ Row wr (w.heap.size + 1) #[.bool false, .string ⟨a.toArray⟩, .string ⟨b.toArray⟩] ∧ Below w.heap.size w wr ∧ acc ++ Pn.wWhole (Lib.encodeRune g) f n (fun c => Lib.encodeRune (Pn.digAt [d0, d1, d2, d3, d4, d5, d6, d7, d8, d9] c)) (decide (0 < pos)) (a.drop pos) = [] ++ Pn.wWhole (Lib.encodeRune g) f n (fun c => Lib.encodeRune (Pn.digAt [d0, d1, d2, d3, d4, d5, d6, d7, d8, d9] c)) false a ∧ acc.length ≤ 8 * (pos + 1)) (fun wr => a.length - wr.iterPos (w.heap.size + 1 + 1 + 1))
  case atStart =>
    refine ⟨0, [], Nat.zero_le _, hI.alloc _, by simpa using World.iter_heap (((w.alloc (.cells #[.int .i32 mi, .int .i32 po, .int .i32 g, .int .i64 f, .int .i64 n, .int .i32 d0, .int .i32 d1, .int .i32 d2, .int .i32 d3, .int .i32 d4, .int .i32 d5, .int .i32 d6, .int .i32 d7, .int .i32 d8, .int .i32 d9, .slice u0 v0 x0, .slice u1 v1 x1] 105)).alloc (.cells #[.bool false, .string ⟨a.toArray⟩, .string ⟨b.toArray⟩] 109)).alloc (.cells #[.pointer none, .slice none 0 0] 148)) ⟨a.toArray⟩ 0, r0.alloc _, r1.alloc _, hw.alloc (by simp; omega) _, by simp, by simp⟩
  case round =>
    clear r0 r1 hw hI
    obtain ⟨pos, acc, hpos, hI, hit, r0, r1, hw, hacc, hal⟩ := hrel
    have hKI : (w.heap.size + 1 + 1) < (w.heap.size + 1 + 1 + 1) := by omega
    have hzr : (w.heap.size + 1 + 1 + 1) < wr.heap.size := (Array.getElem?_eq_some_iff.1 hit).1
    by_cases hp : pos < a.length
    · have hc : Pn.isDig a[pos] = true := HA.out _ (List.getElem_mem _)
      have hp' : pos < (⟨a.toArray⟩ : ByteArray).size := by rw [Lib.size_mk]; exact hp
      have hdec := dec_one ⟨a.toArray⟩ pos hp' hc
      rw [get_mk a pos hp' hp] at hdec
      have hnx : ∀ ty, (Instr.next (.pointer (some ⟨(w.heap.size + 1 + 1 + 1), 0, none⟩)) true ty).run Tryz.prog wr = _ := fun ty => Lib.run_next_any_at wr (w.heap.size + 1 + 1 + 1) ⟨a.toArray⟩ pos ty hit hp'
      rw [hdec] at hnx
      clear hdec
      have hcd := (Pn.isDig_iff _).1 hc
      have hdb := digAt_bd d0 d1 d2 d3 d4 d5 d6 d7 d8 d9 HD.out a[pos] hc
      have hdl := enc_le (Pn.digAt [d0, d1, d2, d3, d4, d5, d6, d7, d8, d9] a[pos])
      have hgl := enc_le g
      have hst := wWhole_step (Lib.encodeRune g) f n (fun c => Lib.encodeRune (Pn.digAt [d0, d1, d2, d3, d4, d5, d6, d7, d8, d9] c)) a pos hp (decide (0 < pos))
      have HQ : Hid (acc ++ ((if decide (0 < pos) && Pn.endsG f n (a.length - pos) then (Lib.encodeRune g) else []) ++ (Lib.encodeRune (Pn.digAt [d0, d1, d2, d3, d4, d5, d6, d7, d8, d9] a[pos]) ++ Pn.wWhole (Lib.encodeRune g) f n (fun c => Lib.encodeRune (Pn.digAt [d0, d1, d2, d3, d4, d5, d6, d7, d8, d9] c)) true (a.drop (pos + 1)))) = [] ++ Pn.wWhole (Lib.encodeRune g) f n (fun c => Lib.encodeRune (Pn.digAt [d0, d1, d2, d3, d4, d5, d6, d7, d8, d9] c)) false a) := by
        show _ = _
        rw [← hacc, hst]
      clear hst hacc
      replace hI := hI.iterAt hit (pos + 1)
      have hit2 := Lib.iterAt_heap wr (w.heap.size + 1 + 1 + 1) ⟨a.toArray⟩ pos (pos + 1) hit
      replace r0 := row_iter r0 (k := (w.heap.size + 1 + 1 + 1)) (by omega) ⟨a.toArray⟩ (pos + 1)
      replace r1 := row_iter r1 (k := (w.heap.size + 1 + 1 + 1)) (by omega) ⟨a.toArray⟩ (pos + 1)
      replace hw := Lib.below_iterAt hw (k := (w.heap.size + 1 + 1 + 1)) (by omega) ⟨a.toArray⟩ (pos + 1)
      have hZ : (wr.iterAt (w.heap.size + 1 + 1 + 1) ⟨a.toArray⟩ (pos + 1)).heap.size = wr.heap.size := Lib.iterAt_size _ _ _ _
      have q5 : (wr.iterAt (w.heap.size + 1 + 1 + 1) ⟨a.toArray⟩ (pos + 1)).cell? ⟨w.heap.size, 5 + (a[pos].toNat - 48), none⟩ = some (.int .i32 (Pn.digAt [d0, d1, d2, d3, d4, d5, d6, d7, d8, d9] a[pos])) := (r0.2.1 _).trans (digAt_cell mi po g f n d0 d1 d2 d3 d4 d5 d6 d7 d8 d9 a[pos] hc)
      have HC : Hid (Pn.isDig a[pos] = true) := hc
      clear hc
      by_cases h0 : pos = 0
      · have h0' : ¬ (0 : Int) < pos := by omega
        have HR : Hid (acc ++ (Lib.encodeRune (Pn.digAt [d0, d1, d2, d3, d4, d5, d6, d7, d8, d9] a[pos]) ++ Pn.wWhole (Lib.encodeRune g) f n (fun c => Lib.encodeRune (Pn.digAt [d0, d1, d2, d3, d4, d5, d6, d7, d8, d9] c)) true (a.drop (pos + 1))) = [] ++ Pn.wWhole (Lib.encodeRune g) f n (fun c => Lib.encodeRune (Pn.digAt [d0, d1, d2, d3, d4, d5, d6, d7, d8, d9] c)) false a) := by
          show _ = _
          have h := HQ.out
          rw [decide_eq_false (show ¬ 0 < pos by omega)] at h
          simpa using h
        clear HQ h0
        have hZ2 : (w.heap.size + 1 + 1) ≤ (wr.iterAt (w.heap.size + 1 + 1 + 1) ⟨a.toArray⟩ (pos + 1)).heap.size := by rw [hZ]; omega
        clear hZ
        go_wp2_with fail
        refine (Tryz.Builder_WriteRune_k (w.heap.size + 1 + 1) (w.heap.size + 1 + 1) _ _ hdb.1 hdb.2 _ hI (by rw [Lib.byteCells_length]; simp; omega) hZ2).mono ?_
        rintro e w5 ⟨rfl, h5, b5, k5⟩
        go_wp2
        go_roundw
        case rel =>
          refine ⟨pos + 1, acc ++ Lib.encodeRune (Pn.digAt [d0, d1, d2, d3, d4, d5, d6, d7, d8, d9] a[pos]), hp, ?_, k5.iter hit2 (by omega), r0.below b5 (by omega), r1.below b5 (by omega), hw.trans (b5.mono (by omega)), ?_, by simp; omega⟩
          · rw [Lib.byteCells_append, Lib.byteCells_encodeRune]; exact Or.inr h5
          · rw [List.append_assoc, decide_eq_true (Nat.succ_pos pos)]; exact HR.out
        case measure =>
          simp only [World.iterPos, k5.iter hit2 (by omega), hit]
          omega
      · have h0' : (0 : Int) < pos := by omega
        have hq1 : (wr.iterAt (w.heap.size + 1 + 1 + 1) ⟨a.toArray⟩ (pos + 1)).cell? ⟨w.heap.size + 1, 1, none⟩ = some (.string ⟨a.toArray⟩) := (r1.2.1 1).trans rfl
        have c0 : (wr.iterAt (w.heap.size + 1 + 1 + 1) ⟨a.toArray⟩ (pos + 1)).cell? ⟨w.heap.size, 0, none⟩ = some (.int .i32 mi) := (r0.2.1 0).trans rfl
        have c1 : (wr.iterAt (w.heap.size + 1 + 1 + 1) ⟨a.toArray⟩ (pos + 1)).cell? ⟨w.heap.size, 1, none⟩ = some (.int .i32 po) := (r0.2.1 1).trans rfl
        have c2 : (wr.iterAt (w.heap.size + 1 + 1 + 1) ⟨a.toArray⟩ (pos + 1)).cell? ⟨w.heap.size, 2, none⟩ = some (.int .i32 g) := (r0.2.1 2).trans rfl
        have c3 : (wr.iterAt (w.heap.size + 1 + 1 + 1) ⟨a.toArray⟩ (pos + 1)).cell? ⟨w.heap.size, 3, none⟩ = some (.int .i64 f) := (r0.2.1 3).trans rfl
        have c4 : (wr.iterAt (w.heap.size + 1 + 1 + 1) ⟨a.toArray⟩ (pos + 1)).cell? ⟨w.heap.size, 4, none⟩ = some (.int .i64 n) := (r0.2.1 4).trans rfl
        have c5 : (wr.iterAt (w.heap.size + 1 + 1 + 1) ⟨a.toArray⟩ (pos + 1)).cell? ⟨w.heap.size, 5, none⟩ = some (.int .i32 d0) := (r0.2.1 5).trans rfl
        have c6 : (wr.iterAt (w.heap.size + 1 + 1 + 1) ⟨a.toArray⟩ (pos + 1)).cell? ⟨w.heap.size, 6, none⟩ = some (.int .i32 d1) := (r0.2.1 6).trans rfl
        have c7 : (wr.iterAt (w.heap.size + 1 + 1 + 1) ⟨a.toArray⟩ (pos + 1)).cell? ⟨w.heap.size, 7, none⟩ = some (.int .i32 d2) := (r0.2.1 7).trans rfl
        have c8 : (wr.iterAt (w.heap.size + 1 + 1 + 1) ⟨a.toArray⟩ (pos + 1)).cell? ⟨w.heap.size, 8, none⟩ = some (.int .i32 d3) := (r0.2.1 8).trans rfl
        have c9 : (wr.iterAt (w.heap.size + 1 + 1 + 1) ⟨a.toArray⟩ (pos + 1)).cell? ⟨w.heap.size, 9, none⟩ = some (.int .i32 d4) := (r0.2.1 9).trans rfl
        have c10 : (wr.iterAt (w.heap.size + 1 + 1 + 1) ⟨a.toArray⟩ (pos + 1)).cell? ⟨w.heap.size, 10, none⟩ = some (.int .i32 d5) := (r0.2.1 10).trans rfl
        have c11 : (wr.iterAt (w.heap.size + 1 + 1 + 1) ⟨a.toArray⟩ (pos + 1)).cell? ⟨w.heap.size, 11, none⟩ = some (.int .i32 d6) := (r0.2.1 11).trans rfl
        have c12 : (wr.iterAt (w.heap.size + 1 + 1 + 1) ⟨a.toArray⟩ (pos + 1)).cell? ⟨w.heap.size, 12, none⟩ = some (.int .i32 d7) := (r0.2.1 12).trans rfl
        have c13 : (wr.iterAt (w.heap.size + 1 + 1 + 1) ⟨a.toArray⟩ (pos + 1)).cell? ⟨w.heap.size, 13, none⟩ = some (.int .i32 d8) := (r0.2.1 13).trans rfl
        have c14 : (wr.iterAt (w.heap.size + 1 + 1 + 1) ⟨a.toArray⟩ (pos + 1)).cell? ⟨w.heap.size, 14, none⟩ = some (.int .i32 d9) := (r0.2.1 14).trans rfl
        have c15 : (wr.iterAt (w.heap.size + 1 + 1 + 1) ⟨a.toArray⟩ (pos + 1)).cell? ⟨w.heap.size, 15, none⟩ = some (.slice u0 v0 x0) := (r0.2.1 15).trans rfl
        have c16 : (wr.iterAt (w.heap.size + 1 + 1 + 1) ⟨a.toArray⟩ (pos + 1)).cell? ⟨w.heap.size, 16, none⟩ = some (.slice u1 v1 x1) := (r0.2.1 16).trans rfl
        go_wp2_with fail
        rw [show ((a.length : Int) - pos) = ((a.length - pos : Nat) : Int) from by omega]
        refine (endsGroup_any mi po g d0 d1 d2 d3 d4 d5 d6 d7 d8 d9 f n (a.length - pos) _ hf hn hfn (by omega)).mono ?_
        rintro e w3 ⟨rfl, rfl⟩
        clear hq1 q5 c0 c1 c2 c3 c4 c5 c6 c7 c8 c9 c10 c11 c12 c13 c14
        have hZ1 : (w.heap.size + 1 + 1) ≤ (wr.iterAt (w.heap.size + 1 + 1 + 1) ⟨a.toArray⟩ (pos + 1)).heap.size := by rw [hZ]; omega
        replace hit2 := (Lib.alloc_old (wr.iterAt (w.heap.size + 1 + 1 + 1) ⟨a.toArray⟩ (pos + 1)) (.cells #[.int .i32 mi, .int .i32 po, .int .i32 g, .int .i64 f, .int .i64 n, .int .i32 d0, .int .i32 d1, .int .i32 d2, .int .i32 d3, .int .i32 d4, .int .i32 d5, .int .i32 d6, .int .i32 d7, .int .i32 d8, .int .i32 d9, .slice u0 v0 x0, .slice u1 v1 x1] 105) (w.heap.size + 1 + 1 + 1) (by rw [hZ]; exact hzr)).trans hit2
        clear hZ
        replace hI := hI.alloc (.cells #[.int .i32 mi, .int .i32 po, .int .i32 g, .int .i64 f, .int .i64 n, .int .i32 d0, .int .i32 d1, .int .i32 d2, .int .i32 d3, .int .i32 d4, .int .i32 d5, .int .i32 d6, .int .i32 d7, .int .i32 d8, .int .i32 d9, .slice u0 v0 x0, .slice u1 v1 x1] 105)
        replace r0 := r0.alloc (.cells #[.int .i32 mi, .int .i32 po, .int .i32 g, .int .i64 f, .int .i64 n, .int .i32 d0, .int .i32 d1, .int .i32 d2, .int .i32 d3, .int .i32 d4, .int .i32 d5, .int .i32 d6, .int .i32 d7, .int .i32 d8, .int .i32 d9, .slice u0 v0 x0, .slice u1 v1 x1] 105)
        replace r1 := r1.alloc (.cells #[.int .i32 mi, .int .i32 po, .int .i32 g, .int .i64 f, .int .i64 n, .int .i32 d0, .int .i32 d1, .int .i32 d2, .int .i32 d3, .int .i32 d4, .int .i32 d5, .int .i32 d6, .int .i32 d7, .int .i32 d8, .int .i32 d9, .slice u0 v0 x0, .slice u1 v1 x1] 105)
        replace hw := hw.alloc (by omega) (.cells #[.int .i32 mi, .int .i32 po, .int .i32 g, .int .i64 f, .int .i64 n, .int .i32 d0, .int .i32 d1, .int .i32 d2, .int .i32 d3, .int .i32 d4, .int .i32 d5, .int .i32 d6, .int .i32 d7, .int .i32 d8, .int .i32 d9, .slice u0 v0 x0, .slice u1 v1 x1] 105)
        have hZ2 : (w.heap.size + 1 + 1) ≤ ((wr.iterAt (w.heap.size + 1 + 1 + 1) ⟨a.toArray⟩ (pos + 1)).alloc (.cells #[.int .i32 mi, .int .i32 po, .int .i32 g, .int .i64 f, .int .i64 n, .int .i32 d0, .int .i32 d1, .int .i32 d2, .int .i32 d3, .int .i32 d4, .int .i32 d5, .int .i32 d6, .int .i32 d7, .int .i32 d8, .int .i32 d9, .slice u0 v0 x0, .slice u1 v1 x1] 105)).heap.size := by simp; omega
        clear hZ1
        have q5 := (r0.2.1 _).trans (digAt_cell mi po g f n d0 d1 d2 d3 d4 d5 d6 d7 d8 d9 a[pos] HC.out)
        cases hE : Pn.endsG f n (a.length - pos) with
        | false =>
          have HR : Hid (acc ++ (Lib.encodeRune (Pn.digAt [d0, d1, d2, d3, d4, d5, d6, d7, d8, d9] a[pos]) ++ Pn.wWhole (Lib.encodeRune g) f n (fun c => Lib.encodeRune (Pn.digAt [d0, d1, d2, d3, d4, d5, d6, d7, d8, d9] c)) true (a.drop (pos + 1))) = [] ++ Pn.wWhole (Lib.encodeRune g) f n (fun c => Lib.encodeRune (Pn.digAt [d0, d1, d2, d3, d4, d5, d6, d7, d8, d9] c)) false a) := by
            show _ = _
            have h := HQ.out
            rw [hE] at h
            simpa using h
          clear HQ h0
          go_wp2_with fail
          refine (Tryz.Builder_WriteRune_k (w.heap.size + 1 + 1) (w.heap.size + 1 + 1) _ _ hdb.1 hdb.2 _ hI (by rw [Lib.byteCells_length]; simp; omega) hZ2).mono ?_
          rintro e w5 ⟨rfl, h5, b5, k5⟩
          go_wp2
          go_roundw
          case rel =>
            refine ⟨pos + 1, acc ++ Lib.encodeRune (Pn.digAt [d0, d1, d2, d3, d4, d5, d6, d7, d8, d9] a[pos]), hp, ?_, k5.iter hit2 (by omega), r0.below b5 (by omega), r1.below b5 (by omega), hw.trans (b5.mono (by omega)), ?_, by simp; omega⟩
            · rw [Lib.byteCells_append, Lib.byteCells_encodeRune]; exact Or.inr h5
            · rw [List.append_assoc, decide_eq_true (Nat.succ_pos pos)]; exact HR.out
          case measure =>
            simp only [World.iterPos, k5.iter hit2 (by omega), hit]
            omega
        | true =>
          have HR : Hid ((acc ++ (Lib.encodeRune g)) ++ (Lib.encodeRune (Pn.digAt [d0, d1, d2, d3, d4, d5, d6, d7, d8, d9] a[pos]) ++ Pn.wWhole (Lib.encodeRune g) f n (fun c => Lib.encodeRune (Pn.digAt [d0, d1, d2, d3, d4, d5, d6, d7, d8, d9] c)) true (a.drop (pos + 1))) = [] ++ Pn.wWhole (Lib.encodeRune g) f n (fun c => Lib.encodeRune (Pn.digAt [d0, d1, d2, d3, d4, d5, d6, d7, d8, d9] c)) false a) := by
            show _ = _
            have h := HQ.out
            rw [hE, decide_eq_true (show 0 < pos by omega)] at h
            simpa using h
          clear HQ h0 q5
          have c2 := (r0.2.1 2).trans (show (#[.int .i32 mi, .int .i32 po, .int .i32 g, .int .i64 f, .int .i64 n, .int .i32 d0, .int .i32 d1, .int .i32 d2, .int .i32 d3, .int .i32 d4, .int .i32 d5, .int .i32 d6, .int .i32 d7, .int .i32 d8, .int .i32 d9, .slice u0 v0 x0, .slice u1 v1 x1] : Array Value)[2]? = some (.int .i32 g) from rfl)
          go_wp2_with fail
          refine (Tryz.Builder_WriteRune_k (w.heap.size + 1 + 1) (w.heap.size + 1 + 1) _ g hg.1 hg.2 _ hI (by rw [Lib.byteCells_length]; omega) hZ2).mono ?_
          rintro e w4 ⟨rfl, h4, b4, k4⟩
          clear c2
          replace hit2 := k4.iter hit2 (by omega)
          replace r0 := r0.below b4 (by omega)
          replace r1 := r1.below b4 (by omega)
          replace hw := hw.trans (b4.mono (by omega))
          replace hZ2 := Nat.le_trans hZ2 b4.size
          replace hI : Lib.IsBuilderF 148 5 (w.heap.size + 1 + 1) (w.heap.size + 1 + 1) (Lib.byteCells (acc ++ (Lib.encodeRune g))) w4 := by rw [Lib.byteCells_append, Lib.byteCells_encodeRune]; exact Or.inr h4
          clear h4 b4 k4
          have q5 := (r0.2.1 _).trans (digAt_cell mi po g f n d0 d1 d2 d3 d4 d5 d6 d7 d8 d9 a[pos] HC.out)
          go_wp2_with fail
          refine (Tryz.Builder_WriteRune_k (w.heap.size + 1 + 1) (w.heap.size + 1 + 1) _ _ hdb.1 hdb.2 _ hI (by rw [Lib.byteCells_length]; simp; omega) hZ2).mono ?_
          rintro e w5 ⟨rfl, h5, b5, k5⟩
          go_wp2
          go_roundw
          case rel =>
            refine ⟨pos + 1, (acc ++ (Lib.encodeRune g)) ++ Lib.encodeRune (Pn.digAt [d0, d1, d2, d3, d4, d5, d6, d7, d8, d9] a[pos]), hp, ?_, k5.iter hit2 (by omega), r0.below b5 (by omega), r1.below b5 (by omega), hw.trans (b5.mono (by omega)), ?_, by simp; omega⟩
            · rw [Lib.byteCells_append, Lib.byteCells_encodeRune]; exact Or.inr h5
            · rw [List.append_assoc, decide_eq_true (Nat.succ_pos pos)]; exact HR.out
          case measure =>
            simp only [World.iterPos, k5.iter hit2 (by omega), hit]
            omega
    · have hnx : ∀ ty, (Instr.next (.pointer (some ⟨(w.heap.size + 1 + 1 + 1), 0, none⟩)) true ty).run Tryz.prog wr = _ := fun ty => Lib.run_next_end_at wr (w.heap.size + 1 + 1 + 1) ⟨a.toArray⟩ pos ty hit (by rw [Lib.size_mk]; exact hp)
      have HX : Hid (acc = [] ++ Pn.wWhole (Lib.encodeRune g) f n (fun c => Lib.encodeRune (Pn.digAt [d0, d1, d2, d3, d4, d5, d6, d7, d8, d9] c)) false a) := by
        show _ = _
        rw [List.drop_eq_nil_of_le (by omega)] at hacc
        rw [← hacc]
        simp [Pn.wWhole]
      have hal2 : acc.length ≤ 252 := by omega
      clear hacc hal hit
      have qb : wr.cell? ⟨w.heap.size + 1, 2, none⟩ = some (.string ⟨b.toArray⟩) := (r1.2.1 2).trans rfl
      have hzB : (w.heap.size + 1 + 1) < wr.heap.size := by omega
      by_cases hbe : b = []
      · have hbe' : b.isEmpty = true := by simp [hbe]
        have HE : Hid (b = []) := hbe
        clear hbe
        go_wp2_with fail
        obtain ⟨wo, hwo⟩ : ∃ x : World, x = wr := ⟨wr, rfl⟩
        subst hwo
        clear qb
        go_loopw [] (fun wx => ∃ (pos2 : Nat) (acc2 : List UInt8), pos2 ≤ b.length ∧ Lib.IsBuilderF 148 5 (w.heap.size + 1 + 1) (w.heap.size + 1 + 1) (Lib.byteCells acc2) wx ∧ wx.heap[wo.heap.size]? = some (.stringIter ⟨b.toArray⟩ pos2) ∧ Row wx w.heap.size #[.int .i32 mi, .int .i32 po, .int .i32 g, .int .i64 f, .int .i64 n, .int .i32 d0, .int .i32 d1, .int .i32 d2, .int .i32 d3, .int .i32 d4, .int .i32 d5, .int .i32 d6, .int .i32 d7, .int .i32 d8, .int .i32 d9, .slice u0 v0 x0, .slice u1 v1 x1] ∧ Below w.heap.size w wx ∧ acc2 ++ (b.drop pos2).flatMap (fun c => Lib.encodeRune (Pn.digAt [d0, d1, d2, d3, d4, d5, d6, d7, d8, d9] c)) = acc ++ b.flatMap (fun c => Lib.encodeRune (Pn.digAt [d0, d1, d2, d3, d4, d5, d6, d7, d8, d9] c)) ∧ acc2.length ≤ 260 + 4 * pos2) (fun wx => b.length - wx.iterPos wo.heap.size)
        case atStart =>
          exact ⟨0, acc, Nat.zero_le _, hI.alloc _, by simpa using World.iter_heap wo ⟨b.toArray⟩ 0, r0.alloc _, hw.alloc (by omega) _, by simp, by simp; omega⟩
        case round =>
          clear r0 r1 hw hI hnx
          obtain ⟨pos2, acc2, hpos2, hI, hit, r0, hw, hacc2, hal3⟩ := hrel
          have hzr2 : wo.heap.size < wr.heap.size := (Array.getElem?_eq_some_iff.1 hit).1
          by_cases hp2 : pos2 < b.length
          · have hc : Pn.isDig b[pos2] = true := HB.out _ (List.getElem_mem _)
            have hp' : pos2 < (⟨b.toArray⟩ : ByteArray).size := by rw [Lib.size_mk]; exact hp2
            have hdec := dec_one ⟨b.toArray⟩ pos2 hp' hc
            rw [get_mk b pos2 hp' hp2] at hdec
            have hnx2 : ∀ ty, (Instr.next (.pointer (some ⟨wo.heap.size, 0, none⟩)) true ty).run Tryz.prog wr = _ := fun ty => Lib.run_next_any_at wr wo.heap.size ⟨b.toArray⟩ pos2 ty hit hp'
            rw [hdec] at hnx2
            clear hdec
            have hcd := (Pn.isDig_iff _).1 hc
            have hdb := digAt_bd d0 d1 d2 d3 d4 d5 d6 d7 d8 d9 HD.out b[pos2] hc
            have hdl := enc_le (Pn.digAt [d0, d1, d2, d3, d4, d5, d6, d7, d8, d9] b[pos2])
            have HR : Hid ((acc2 ++ Lib.encodeRune (Pn.digAt [d0, d1, d2, d3, d4, d5, d6, d7, d8, d9] b[pos2])) ++ (b.drop (pos2 + 1)).flatMap (fun c => Lib.encodeRune (Pn.digAt [d0, d1, d2, d3, d4, d5, d6, d7, d8, d9] c)) = acc ++ b.flatMap (fun c => Lib.encodeRune (Pn.digAt [d0, d1, d2, d3, d4, d5, d6, d7, d8, d9] c))) := by
              show _ = _
              rw [← hacc2, List.drop_eq_getElem_cons hp2, List.flatMap_cons, List.append_assoc]
            clear hacc2
            replace hI := hI.iterAt hit (pos2 + 1)
            have hit2 := Lib.iterAt_heap wr wo.heap.size ⟨b.toArray⟩ pos2 (pos2 + 1) hit
            replace r0 := row_iter r0 (k := wo.heap.size) (by omega) ⟨b.toArray⟩ (pos2 + 1)
            replace hw := Lib.below_iterAt hw (k := wo.heap.size) (by omega) ⟨b.toArray⟩ (pos2 + 1)
            have hZ2 : (w.heap.size + 1 + 1) ≤ (wr.iterAt wo.heap.size ⟨b.toArray⟩ (pos2 + 1)).heap.size := by rw [Lib.iterAt_size]; omega
            have q5 := (r0.2.1 _).trans (digAt_cell mi po g f n d0 d1 d2 d3 d4 d5 d6 d7 d8 d9 b[pos2] hc)
            clear hc
            go_wp2_with fail
            refine (Tryz.Builder_WriteRune_k (w.heap.size + 1 + 1) (w.heap.size + 1 + 1) _ _ hdb.1 hdb.2 _ hI (by rw [Lib.byteCells_length]; omega) hZ2).mono ?_
            rintro e w7 ⟨rfl, h7, b7, k7⟩
            go_wp2
            go_roundw
            case rel =>
              refine ⟨pos2 + 1, acc2 ++ Lib.encodeRune (Pn.digAt [d0, d1, d2, d3, d4, d5, d6, d7, d8, d9] b[pos2]), hp2, ?_, k7.iter hit2 (by omega), r0.below b7 (by omega), hw.trans (b7.mono (by omega)), HR.out, by simp; omega⟩
              rw [Lib.byteCells_append, Lib.byteCells_encodeRune]; exact Or.inr h7
            case measure =>
              simp only [World.iterPos, k7.iter hit2 (by omega), hit]
              omega
          · have hnx2 : ∀ ty, (Instr.next (.pointer (some ⟨wo.heap.size, 0, none⟩)) true ty).run Tryz.prog wr = _ := fun ty => Lib.run_next_end_at wr wo.heap.size ⟨b.toArray⟩ pos2 ty hit (by rw [Lib.size_mk]; exact hp2)
            have HY : Hid (acc2 = Pn.wParts ([]) (Lib.encodeRune po) (Lib.encodeRune g) f n (fun c => Lib.encodeRune (Pn.digAt [d0, d1, d2, d3, d4, d5, d6, d7, d8, d9] c)) a b) := by
              show _ = _
              unfold Pn.wParts
              rw [List.drop_eq_nil_of_le (by omega), List.flatMap_nil, List.append_nil] at hacc2
              rw [hacc2, HX.out, if_pos HE.out]
              simp
            clear hacc2
            go_wp2_with fail
            refine (Tryz.Builder_String_any_k (w.heap.size + 1 + 1) (w.heap.size + 1 + 1) acc2 _ hI (by omega)).mono ?_
            rintro e w8 ⟨rfl, _, b8, _⟩
            go_wp2
            go_ret
            exact ⟨ret_str HY.out, hw.trans (b8.mono (by omega))⟩
      · have hbe' : b.isEmpty = false := by simp [hbe]
        have HE : Hid (¬ b = []) := hbe
        clear hbe
        have c1 : wr.cell? ⟨w.heap.size, 1, none⟩ = some (.int .i32 po) := (r0.2.1 1).trans rfl
        go_wp2_with fail
        refine (Tryz.Builder_WriteRune_k (w.heap.size + 1 + 1) (w.heap.size + 1 + 1) _ po hpo.1 hpo.2 _ hI (by rw [Lib.byteCells_length]; omega) (by omega)).mono ?_
        rintro e w6 ⟨rfl, h6, b6, k6⟩
        clear c1 qb hnx
        have hpl := enc_le po
        replace r0 := r0.below b6 (by omega)
        replace r1 := r1.below b6 (by omega)
        replace hw := hw.trans (b6.mono (by omega))
        replace hzB := Nat.lt_of_lt_of_le hzB b6.size
        have hI6 : Lib.IsBuilderF 148 5 (w.heap.size + 1 + 1) (w.heap.size + 1 + 1) (Lib.byteCells (acc ++ Lib.encodeRune po)) w6 := by rw [Lib.byteCells_append, Lib.byteCells_encodeRune]; exact Or.inr h6
        clear h6 b6 k6 hI
        have qb : w6.cell? ⟨w.heap.size + 1, 2, none⟩ = some (.string ⟨b.toArray⟩) := (r1.2.1 2).trans rfl
        go_wp2_with fail
        clear qb
        go_loopw [] (fun wx => ∃ (pos2 : Nat) (acc2 : List UInt8), pos2 ≤ b.length ∧ Lib.IsBuilderF 148 5 (w.heap.size + 1 + 1) (w.heap.size + 1 + 1) (Lib.byteCells acc2) wx ∧ wx.heap[w6.heap.size]? = some (.stringIter ⟨b.toArray⟩ pos2) ∧ Row wx w.heap.size #[.int .i32 mi, .int .i32 po, .int .i32 g, .int .i64 f, .int .i64 n, .int .i32 d0, .int .i32 d1, .int .i32 d2, .int .i32 d3, .int .i32 d4, .int .i32 d5, .int .i32 d6, .int .i32 d7, .int .i32 d8, .int .i32 d9, .slice u0 v0 x0, .slice u1 v1 x1] ∧ Below w.heap.size w wx ∧ acc2 ++ (b.drop pos2).flatMap (fun c => Lib.encodeRune (Pn.digAt [d0, d1, d2, d3, d4, d5, d6, d7, d8, d9] c)) = (acc ++ Lib.encodeRune po) ++ b.flatMap (fun c => Lib.encodeRune (Pn.digAt [d0, d1, d2, d3, d4, d5, d6, d7, d8, d9] c)) ∧ acc2.length ≤ 260 + 4 * pos2) (fun wx => b.length - wx.iterPos w6.heap.size)
        case atStart =>
          exact ⟨0, (acc ++ Lib.encodeRune po), Nat.zero_le _, hI6.alloc _, by simpa using World.iter_heap w6 ⟨b.toArray⟩ 0, r0.alloc _, hw.alloc (by omega) _, by simp, by simp; omega⟩
        case round =>
          clear r0 r1 hw hI6 
          obtain ⟨pos2, acc2, hpos2, hI, hit, r0, hw, hacc2, hal3⟩ := hrel
          have hzr2 : w6.heap.size < wr.heap.size := (Array.getElem?_eq_some_iff.1 hit).1
          by_cases hp2 : pos2 < b.length
          · have hc : Pn.isDig b[pos2] = true := HB.out _ (List.getElem_mem _)
            have hp' : pos2 < (⟨b.toArray⟩ : ByteArray).size := by rw [Lib.size_mk]; exact hp2
            have hdec := dec_one ⟨b.toArray⟩ pos2 hp' hc
            rw [get_mk b pos2 hp' hp2] at hdec
            have hnx2 : ∀ ty, (Instr.next (.pointer (some ⟨w6.heap.size, 0, none⟩)) true ty).run Tryz.prog wr = _ := fun ty => Lib.run_next_any_at wr w6.heap.size ⟨b.toArray⟩ pos2 ty hit hp'
            rw [hdec] at hnx2
            clear hdec
            have hcd := (Pn.isDig_iff _).1 hc
            have hdb := digAt_bd d0 d1 d2 d3 d4 d5 d6 d7 d8 d9 HD.out b[pos2] hc
            have hdl := enc_le (Pn.digAt [d0, d1, d2, d3, d4, d5, d6, d7, d8, d9] b[pos2])
            have HR : Hid ((acc2 ++ Lib.encodeRune (Pn.digAt [d0, d1, d2, d3, d4, d5, d6, d7, d8, d9] b[pos2])) ++ (b.drop (pos2 + 1)).flatMap (fun c => Lib.encodeRune (Pn.digAt [d0, d1, d2, d3, d4, d5, d6, d7, d8, d9] c)) = (acc ++ Lib.encodeRune po) ++ b.flatMap (fun c => Lib.encodeRune (Pn.digAt [d0, d1, d2, d3, d4, d5, d6, d7, d8, d9] c))) := by
              show _ = _
              rw [← hacc2, List.drop_eq_getElem_cons hp2, List.flatMap_cons, List.append_assoc]
            clear hacc2
            replace hI := hI.iterAt hit (pos2 + 1)
            have hit2 := Lib.iterAt_heap wr w6.heap.size ⟨b.toArray⟩ pos2 (pos2 + 1) hit
            replace r0 := row_iter r0 (k := w6.heap.size) (by omega) ⟨b.toArray⟩ (pos2 + 1)
            replace hw := Lib.below_iterAt hw (k := w6.heap.size) (by omega) ⟨b.toArray⟩ (pos2 + 1)
            have hZ2 : (w.heap.size + 1 + 1) ≤ (wr.iterAt w6.heap.size ⟨b.toArray⟩ (pos2 + 1)).heap.size := by rw [Lib.iterAt_size]; omega
            have q5 := (r0.2.1 _).trans (digAt_cell mi po g f n d0 d1 d2 d3 d4 d5 d6 d7 d8 d9 b[pos2] hc)
            clear hc
            go_wp2_with fail
            refine (Tryz.Builder_WriteRune_k (w.heap.size + 1 + 1) (w.heap.size + 1 + 1) _ _ hdb.1 hdb.2 _ hI (by rw [Lib.byteCells_length]; omega) hZ2).mono ?_
            rintro e w7 ⟨rfl, h7, b7, k7⟩
            go_wp2
            go_roundw
            case rel =>
              refine ⟨pos2 + 1, acc2 ++ Lib.encodeRune (Pn.digAt [d0, d1, d2, d3, d4, d5, d6, d7, d8, d9] b[pos2]), hp2, ?_, k7.iter hit2 (by omega), r0.below b7 (by omega), hw.trans (b7.mono (by omega)), HR.out, by simp; omega⟩
              rw [Lib.byteCells_append, Lib.byteCells_encodeRune]; exact Or.inr h7
            case measure =>
              simp only [World.iterPos, k7.iter hit2 (by omega), hit]
              omega
          · have hnx2 : ∀ ty, (Instr.next (.pointer (some ⟨w6.heap.size, 0, none⟩)) true ty).run Tryz.prog wr = _ := fun ty => Lib.run_next_end_at wr w6.heap.size ⟨b.toArray⟩ pos2 ty hit (by rw [Lib.size_mk]; exact hp2)
            have HY : Hid (acc2 = Pn.wParts ([]) (Lib.encodeRune po) (Lib.encodeRune g) f n (fun c => Lib.encodeRune (Pn.digAt [d0, d1, d2, d3, d4, d5, d6, d7, d8, d9] c)) a b) := by
              show _ = _
              unfold Pn.wParts
              rw [List.drop_eq_nil_of_le (by omega), List.flatMap_nil, List.append_nil] at hacc2
              rw [hacc2, HX.out, if_neg HE.out]
              simp
            clear hacc2
            go_wp2_with fail
            refine (Tryz.Builder_String_any_k (w.heap.size + 1 + 1) (w.heap.size + 1 + 1) acc2 _ hI (by omega)).mono ?_
            rintro e w8 ⟨rfl, _, b8, _⟩
            go_wp2
            go_ret
            exact ⟨ret_str HY.out, hw.trans (b8.mono (by omega))⟩
end Go.Proofs.YtaepcfidpekflaaGreatDoor
