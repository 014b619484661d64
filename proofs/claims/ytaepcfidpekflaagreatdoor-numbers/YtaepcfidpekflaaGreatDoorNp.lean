/-
  Numbers: the row's statement and the card. After the guide's worked examples. By the verifier.
-/
import Derived.Test.YtaepcfidpekflaaGreatDoorVr
import Derived.Test.YtaepcfidpekflaaGreatDoorNe
import Derived.ProofKit
import Derived.OpenShut
import Derived.ShutString
import Derived.ChangeSlices
import Derived.Deep.DeepHandedRow
import Derived.LaidLaws
import Derived.LaidHandle
import Derived.Lib.LaidU8T
import Derived.Shelf.Vars
namespace Go.Proofs.YtaepcfidpekflaaGreatDoor.Nu
open Go.ChangeShapes Go.WideShapes Go.ChangeAt Go.RowKit
open Go.ChangeMaps (open_string shut_string)

theorem cellsInt : Tryz.prog.cellsOf 3 = 1 := by kernel_rfl
theorem cell_in {w : World} {p : Addr} {v : Value} (h : w.cell? p = some v) : p.block < w.heap.size := by
  rcases Nat.lt_or_ge p.block w.heap.size with h' | h'
  · exact h'
  · simp [World.cell?, Array.getElem?_eq_none h'] at h
theorem sign_any (b off len cap : Nat) (zs : List Int) (W : World) (hcell : ∀ j, j < len → W.cell? ⟨b, off + j, none⟩ = some (.int .i64 (zs.getD j 0))) (k : Nat) (w' : World) (hb : Below W.heap.size W w') :
    Calls Tryz.prog 26 #[.slice (some ⟨b, off, none⟩) len cap, .int .i64 k] w' fun e w2 => e = .returned (.int .i32 (if k < len then wrap32 (zs.getD k 0) else 0)) ∧ w2 = w' := by
  by_cases h : k < len
  · rw [if_pos h]
    exact sign_in b off len cap k _ w' (by omega) ((hb.cell (p := ⟨b, off + k, none⟩) (cell_in (hcell k h))).trans (hcell k h))
  · rw [if_neg h]
    exact sign_out _ len cap k w' (by omega)
theorem walk (s d : ByteArray) (v : Value) (mi po g fi ne : Int) (w : World) (hB : Base w)
    (s0 : ∀ w', Below w.heap.size w w' → Calls Tryz.prog 26 #[v, .int .i64 0] w' fun e w2 => e = .returned (.int .i32 mi) ∧ w2 = w')
    (s1 : ∀ w', Below w.heap.size w w' → Calls Tryz.prog 26 #[v, .int .i64 1] w' fun e w2 => e = .returned (.int .i32 po) ∧ w2 = w')
    (s2 : ∀ w', Below w.heap.size w w' → Calls Tryz.prog 26 #[v, .int .i64 2] w' fun e w2 => e = .returned (.int .i32 g) ∧ w2 = w') :
    Calls Tryz.prog 3 #[.string s, v, .int .i64 fi, .int .i64 ne, .string d] w fun e w' => e = .returned (.bool true) ∧ Below w.heap.size w w' := by
  by_cases h1 : (65536 : Int) < s.size
  · exact numbers_long1 s d v fi ne w h1
  by_cases h2 : (65536 : Int) < d.size
  · exact numbers_long2 s d v fi ne w h1 h2
  exact numbers_core s d v mi po g fi ne w hB h1 h2 (show Hid _ from s0) (show Hid _ from s1) (show Hid _ from s2)

set_option maxRecDepth 100000 in
theorem contract (H : Type) (enc : TypeId × Value → H) (W : World) (base : Nat) (args : Array Value) (ds gs : List (DataW H)) (before : List MemPlace)
    (hval : ∀ (j : Nat) t v, Tryz.f3.params[j]? = some t → args[j]? = some v → Value.okWide Tryz.prog W .any base t v)
    (hW : DataW.Whole enc Tryz.prog Tryz.f3.params.toList Rows.numbersSpec.vars false W args.toList ds gs before) (hL : laidMetH Tryz.prog Rows.numbersRow.laid W) (hS : W.ShapedOpen Tryz.prog) :
    Calls Tryz.prog 3 args W fun e W' => ∃ v, e = .returned v ∧ Rows.numbersSpec.post enc Tryz.prog Tryz.f3 false true false false W args v W' := by
  have hW' := hW
  obtain ⟨p, q, hA0, hV, rfl, hfz, hnd⟩ := hW
  have hA : DataW.TrodAll enc Tryz.prog W 0 (fun _ => true) true Tryz.f3.params.toList args.toList ds p := hA0
  rw [Tryz.params3] at hA hval
  obtain ⟨v0, vs0, d0, ds0, p0, q0, hargs, rfl, rfl, h0, r0⟩ := trodAll_cons hA
  obtain ⟨v1, vs1, d1, ds1, p1, q1, rfl, rfl, rfl, h1, r1⟩ := trodAll_cons r0
  obtain ⟨v2, vs2, d2, ds2, p2, q2, rfl, rfl, rfl, h2, r2⟩ := trodAll_cons r1
  obtain ⟨v3, vs3, d3, ds3, p3, q3, rfl, rfl, rfl, h3, r3⟩ := trodAll_cons r2
  obtain ⟨v4, vs4, d4, ds4, p4, q4, rfl, rfl, rfl, h4, r4⟩ := trodAll_cons r3
  obtain ⟨rfl, rfl, rfl⟩ := trodAll_nil r4
  obtain rfl : args = #[v0, v1, v2, v3, v4] := Array.toList_inj.1 hargs
  obtain ⟨rfl, rfl⟩ := trodVars_none hV
  obtain ⟨s, rfl, rfl, rfl, hs⟩ := open_string Tryz.underlying9 (hval 0 9 v0 rfl rfl) h0
  obtain ⟨fi, rfl, rfl, rfl, wf⟩ := open_int Tryz.underlying3 (hval 2 3 v2 rfl rfl) h2
  obtain ⟨ne, rfl, rfl, rfl, wn⟩ := open_int Tryz.underlying3 (hval 3 3 v3 rfl rfl) h3
  obtain ⟨d, rfl, rfl, rfl, hd⟩ := open_string Tryz.underlying9 (hval 4 9 v4 rfl rfl) h4
  obtain ⟨a0, len, cap, rfl⟩ := okWide_slice Tryz.underlying22 (hval 1 22 v1 rfl rfl)
  obtain ⟨fuel, hf⟩ := h1
  have hB : Base W := (Vr.base_of hL hS)
  clear hA0
  simp only [List.append_nil] at hW'
  rcases open_ints Tryz.underlying22 Tryz.underlying3 cellsInt hf with ⟨hcs, hx⟩ | ⟨a, len', cap', zs, hcs, _, hl, hm, hz, hx, hcell, hwz⟩
  · simp [Value.cells] at hcs
    obtain ⟨rfl, rfl, rfl⟩ := hcs
    simp only [Prod.mk.injEq] at hx
    obtain ⟨rfl, rfl⟩ := hx
    refine (walk s d _ 0 0 0 fi ne W hB (fun w' _ => sign_out none 0 0 0 w' (by omega)) (fun w' _ => sign_out none 0 0 1 w' (by omega)) (fun w' _ => sign_out none 0 0 2 w' (by omega))).mono fun e W' ⟨he, hb⟩ => ?_
    subst he
    refine ⟨_, rfl, _, _, _, [], [], [], hW', ?_, ?_, ?_, hb.frame _, fun h => by cases h⟩
    · exact trodAll_cons_mk (shut_bool Tryz.underlying4 _) trodAll_mk0
    · exact trodAll_cons_mk (shut_string Tryz.underlying9 hs) (trodAll_cons_mk (shut_slice_nil Tryz.underlying22) (trodAll_cons_mk (shut_int Tryz.underlying3 wf) (trodAll_cons_mk (shut_int Tryz.underlying3 wn) (trodAll_cons_mk (shut_string Tryz.underlying9 hd) trodAll_mk0))))
    · rfl
  · simp [Value.cells] at hcs
    obtain ⟨rfl, rfl, rfl⟩ := hcs
    simp only [Prod.mk.injEq] at hx
    obtain ⟨rfl, rfl⟩ := hx
    simp only [if_true] at hz
    obtain ⟨mi, po, g, s0, s1, s2⟩ : ∃ mi po g : Int,
        (∀ w', Below W.heap.size W w' → Calls Tryz.prog 26 #[.slice (some a) len cap, .int .i64 0] w' fun e w2 => e = .returned (.int .i32 mi) ∧ w2 = w')
        ∧ (∀ w', Below W.heap.size W w' → Calls Tryz.prog 26 #[.slice (some a) len cap, .int .i64 1] w' fun e w2 => e = .returned (.int .i32 po) ∧ w2 = w')
        ∧ (∀ w', Below W.heap.size W w' → Calls Tryz.prog 26 #[.slice (some a) len cap, .int .i64 2] w' fun e w2 => e = .returned (.int .i32 g) ∧ w2 = w') := by
      by_cases hl0 : len = 0
      · subst hl0
        exact ⟨0, 0, 0, fun w' _ => sign_out (some a) 0 cap 0 w' (by omega), fun w' _ => sign_out (some a) 0 cap 1 w' (by omega), fun w' _ => sign_out (some a) 0 cap 2 w' (by omega)⟩
      · obtain ⟨b, off, spot⟩ := a
        have hspot : spot = none := by simpa [Addr.add] using World.cell?_spot (hcell 0 (by omega))
        subst hspot
        have hc : ∀ j, j < len → W.cell? ⟨b, off + j, none⟩ = some (.int .i64 (zs.getD j 0)) := fun j hj => by rw [← add_plain]; exact hcell j (by omega)
        exact ⟨_, _, _, fun w' h => sign_any b off len cap zs W hc 0 w' h, fun w' h => sign_any b off len cap zs W hc 1 w' h, fun w' h => sign_any b off len cap zs W hc 2 w' h⟩
    refine (walk s d _ mi po g fi ne W hB s0 s1 s2).mono fun e W' ⟨he, hb⟩ => ?_
    subst he
    have hsl : DataW.trod enc Tryz.prog W' 0 (fun b => decide (b < W.heap.size)) true 2 22 [.slice (some a) len cap] = some (.slice (lits .i64 (zs.take len)) (lits .i64 (zs.drop len)), MemPlace.row a zs.length) := by
      refine shut_ints 0 Tryz.underlying22 Tryz.underlying3 cellsInt (Nat.zero_le _) hl hm ?_ (fun i hi => ?_) hwz
      · by_cases hc0 : cap = 0
        · split <;> omega
        · have := cell_in (hcell 0 (by omega))
          rw [block_add] at this
          rw [if_pos (decide_eq_true this)]
          exact hz
      · have := cell_in (hcell i hi)
        exact (hb.cell this).trans (hcell i hi)
    have hT : DataW.Trod enc Tryz.prog W' 0 (fun b => decide (b < W.heap.size)) true 22 (.slice (some a) len cap) (.slice (lits .i64 (zs.take len)) (lits .i64 (zs.drop len))) (MemPlace.row a zs.length) := ⟨2, hsl⟩
    refine ⟨_, rfl, _, _, _, [], MemPlace.row a zs.length, [], hW', ?_, ?_, ?_, hb.frame _, fun h => by cases h⟩
    · exact trodAll_cons_mk (shut_bool Tryz.underlying4 _) trodAll_mk0
    · have := trodAll_cons_mk (shut_string Tryz.underlying9 hs) (trodAll_cons_mk hT (trodAll_cons_mk (shut_int Tryz.underlying3 wf) (trodAll_cons_mk (shut_int Tryz.underlying3 wn) (trodAll_cons_mk (shut_string Tryz.underlying9 hd) trodAll_mk0))))
      simp only [List.append_nil, List.nil_append] at this
      exact this
    · rfl

theorem reads (os : Os) {H : Type} (enc : TypeId × Value → H) : ∃ places, DataW.whole enc Tryz.prog ((Vr.laidW (World.holding Tryz.prog os Vr.seed) (World.holding Tryz.prog default ⟨#[], #[], []⟩).heap.size).forCall (fun _ _ => 0) ⟨#[], #[.string ⟨#[]⟩, .slice none 0 0, .int .i64 0, .int .i64 0, .string ⟨#[]⟩], []⟩).memory Tryz.f3.params.toList Rows.numbersSpec.vars false #[Value.string ⟨#[]⟩, .slice none 0 0, .int .i64 0, .int .i64 0, .string ⟨#[]⟩].toList 8 = some ([.lit (.string []), .nil, .lit (.int .i64 0), .lit (.int .i64 0), .lit (.string [])], [], places) :=
  ⟨[], by kernel_rfl⟩

set_option maxRecDepth 100000 in
theorem lifted (os : Os) (started : os.Started) (H : Type) (enc : TypeId × Value → H) (F : Stop.Interp) :
    ReturnsInHanded {} Tryz.checked os 3 .any ((OpenSpec.ofChange Rows.numbersSpec).preRow enc Tryz.prog Tryz.f3 Rows.numbersRow.domain false Rows.numbersRow.laid) (((OpenSpec.ofChange Rows.numbersSpec).at F).post enc Tryz.prog Tryz.f3 false true false false) := by
  obtain ⟨places, hx⟩ := reads os enc
  refine returnsInHanded_of_row (C := Tryz.checked) (s := OpenSpec.ofChange Rows.numbersSpec) Vr.own started (by kernel_rfl) Tryz.func3
    (witness_row_at (enc := enc) (C := Tryz.checked) false (Vr.laidW (World.holding Tryz.prog os Vr.seed) (World.holding Tryz.prog default ⟨#[], #[], []⟩).heap.size) #[.string ⟨#[]⟩, .slice none 0 0, .int .i64 0, .int .i64 0, .string ⟨#[]⟩] rfl (by kernel_rfl) (by kernel_rfl) (by kernel_rfl)
      (OpenSpec.preRow_of_cond 8 hx (by kernel_rfl) (fun k hk => by cases hk) (by kernel_rfl) (Vr.laid_met os _))) ?_
  intro W base args ds gs before hval hW _ _ _ hL hS _
  exact contract H enc W base args ds gs before hval hW hL hS
end Go.Proofs.YtaepcfidpekflaaGreatDoor.Nu
