/-
  Categories: the arguments opened and shut, the lifted statement. After the guide's worked examples. By the verifier.
-/
import Derived.Test.YtaepcfidpekflaaGreatDoorVr
import Derived.Test.YtaepcfidpekflaaGreatDoorC1
import Derived.SizedLaws
import Derived.Deep.Strs
import Derived.ProofKit
import Derived.OpenShut
import Derived.ShutString
import Derived.ChangeSlices
import Derived.Deep.DeepHandedRow
import Derived.LaidLaws
namespace Go.Proofs.YtaepcfidpekflaaGreatDoor.Ct
open Go.ChangeShapes Go.WideShapes Go.ChangeAt Go.RowKit Go.Deep
open Go.ChangeMaps (open_string shut_string)

theorem cellsStr : Tryz.prog.cellsOf 9 = 1 := by kernel_rfl
theorem bytesStr : Tryz.prog.bytesOf 9 = 16 := by kernel_rfl
theorem cell_in {w : World} {p : Addr} {v : Value} (h : w.cell? p = some v) : p.block < w.heap.size := by
  rcases Nat.lt_or_ge p.block w.heap.size with h' | h'
  · exact h'
  · simp [World.cell?, Array.getElem?_eq_none h'] at h
theorem mk_list (a : ByteArray) : a = ⟨a.data.toList.toArray⟩ := by cases a; simp
theorem weights_all {H : Type} {P : Program} {e : TypeId} {d : DataW H} {n : Nat} : ∀ {ds : List (DataW H)}, d ∈ ds → n ∈ d.weights P e → n ∈ DataW.weightsAll P e ds := by
  intro ds
  induction ds with
  | nil => intro h; cases h
  | cons x r ih =>
    intro h hn
    simp only [DataW.weightsAll, List.mem_append]
    rcases List.mem_cons.1 h with rfl | h
    · exact .inl hn
    · exact .inr (ih h hn)
set_option maxRecDepth 100000 in
/-- A list of texts that came in, opened; and shut again in a later world. -/
theorem open_arg {H : Type} {enc : TypeId × Value → H} {W : World} {base : Nat} {v : Value} {d : DataW H} {p : List MemPlace} (hok : Value.okWide Tryz.prog W .any base 35 v) (h : DataW.Trod enc Tryz.prog W 0 (fun _ => true) true 35 v d p) :
    ∃ l : List Pr.T, SlE W v l ∧ ((∀ n ∈ d.weights Tryz.prog 35, n ≤ reachBytes) → l.length < 2 ^ 47 ∧ ∀ t ∈ l, t.length < 2 ^ 47) ∧ ∀ W', Below W.heap.size W W' → DataW.Trod enc Tryz.prog W' 0 (fun b => decide (b < W.heap.size)) true 35 v d p := by
  obtain ⟨a0, len, cap, rfl⟩ := okWide_slice Tryz.underlying35 hok
  obtain ⟨fuel, hf⟩ := h
  rcases open_strs Tryz.underlying35 Tryz.underlying9 cellsStr hf with ⟨hcs, hx⟩ | ⟨a, len', cap', m, Sx, hcs, _, hl, hm, hmm, hx, hcell⟩
  · simp [Value.cells] at hcs
    obtain ⟨rfl, rfl, rfl⟩ := hcs
    simp only [Prod.mk.injEq] at hx
    obtain ⟨rfl, rfl⟩ := hx
    exact ⟨[], .inl ⟨_, _, rfl, rfl⟩, fun _ => ⟨by decide, fun t ht => by cases ht⟩, fun W' _ => shut_slice_nil Tryz.underlying35⟩
  · simp [Value.cells] at hcs
    obtain ⟨rfl, rfl, rfl⟩ := hcs
    simp only [if_true] at hmm
    have hmm2 := hmm.symm
    subst hmm2
    simp only [Prod.mk.injEq] at hx
    obtain ⟨rfl, rfl⟩ := hx
    refine ⟨(List.range len).map fun i => (Sx i).data.toList, ?_, fun hw => ⟨?_, fun t ht => ?_⟩, fun W' hb => ?_⟩
    · by_cases hl0 : len = 0
      · subst hl0
        exact .inl ⟨_, _, rfl, rfl⟩
      · obtain ⟨b, off, spot⟩ := a
        have hspot : spot = none := by simpa [Addr.add] using World.cell?_spot (hcell 0 (by omega)).1
        subst hspot
        refine .inr ⟨b, off, cap, by simp, by simpa using hl, ?_, fun j hj => ?_⟩
        · have := cell_in (hcell 0 (by omega)).1
          rwa [block_add] at this
        · simp only [List.length_map, List.length_range] at hj
          rw [← add_plain, (hcell j (by omega)).1]
          have e : ((List.range len).map fun i => (Sx i).data.toList).getD j [] = (Sx j).data.toList := by
            rw [List.getD_eq_getElem?_getD, List.getElem?_map, List.getElem?_range hj]
            rfl
          rw [e, strV, ← mk_list]
    · have := hw ((len + (cap - len)) * Tryz.prog.bytesOf 9) (by simp [DataW.weights, Tryz.underlying35])
      rw [bytesStr] at this
      have hr := reachBytes_lt
      simp
      omega
    · obtain ⟨i, hi, rfl⟩ := List.mem_map.1 ht
      have := hw (Sx i).data.toList.length (by
        simp only [DataW.weights, Tryz.underlying35]
        refine List.mem_cons_of_mem _ (List.mem_append_left _ (weights_all (List.mem_map.2 ⟨i, hi, rfl⟩) ?_))
        simp [DataW.weights])
      have hr := reachBytes_lt
      omega
    · by_cases hc0 : cap = 0
      · subst hc0
        obtain rfl : len = 0 := by omega
        by_cases hsp : a.block < W.heap.size
        · have := shut_slice_whole_cells (enc := enc) (P := Tryz.prog) (w := W') (base := 0) (spare := fun b => decide (b < W.heap.size)) (held := true) (a := a) (t := 35) Tryz.underlying35 (Nat.zero_le _) (Nat.le_refl 0) (Nat.zero_le _) (decide_eq_true hsp) (fun i => (.lit (.string (Sx i).data.toList) : DataW H)) (fun _ => []) (fun i hi => absurd hi (Nat.not_lt_zero _))
          simp only [List.range_zero, List.map_nil, Nat.sub_zero, Nat.zero_mul, List.flatMap_nil, List.append_nil] at this
          exact this
        · have := shut_slice_cells (enc := enc) (P := Tryz.prog) (w := W') (base := 0) (spare := fun b => decide (b < W.heap.size)) (held := true) (a := a) (t := 35) Tryz.underlying35 (Nat.zero_le _) (Nat.le_refl 0) (Nat.zero_le _) (decide_eq_false hsp) (fun i => (.lit (.string (Sx i).data.toList) : DataW H)) (fun _ => []) (fun i hi => absurd hi (Nat.not_lt_zero _))
          simp only [List.range_zero, List.map_nil, Nat.zero_mul, List.flatMap_nil, List.append_nil] at this
          exact this
      · obtain ⟨b, off, spot⟩ := a
        have hspot : spot = none := by simpa [Addr.add] using World.cell?_spot (hcell 0 (by omega)).1
        subst hspot
        have hin := cell_in (hcell 0 (by omega)).1
        rw [block_add] at hin
        exact shut_strs_whole Tryz.underlying35 Tryz.underlying9 cellsStr (Nat.zero_le _) hl hm (decide_eq_true hin) Sx (fun i hi => by rw [← add_plain]; exact (hb.cell (by rw [block_add]; exact hin)).trans (hcell i hi).1) (fun i hi => (hcell i hi).2)

set_option maxRecDepth 100000 in
theorem contract (H : Type) (enc : TypeId × Value → H) (W : World) (base : Nat) (args : Array Value) (ds gs : List (DataW H)) (before : List MemPlace)
    (hval : ∀ (j : Nat) t v, Tryz.f5.params[j]? = some t → args[j]? = some v → Value.okWide Tryz.prog W .any base t v)
    (hW : DataW.Whole enc Tryz.prog Tryz.f5.params.toList Rows.categoriesSpec.vars false W args.toList ds gs before) (hz : (DataW.weightsEach Tryz.prog (Tryz.f5.params.toList ++ (OpenSpec.ofChange Rows.categoriesSpec).bare.plain.varTypes Tryz.prog) (ds ++ gs)).all (· ≤ reachBytes) = true)
    (hL : laidMetH Tryz.prog Rows.categoriesRow.laid W) (hS : W.ShapedOpen Tryz.prog) :
    Calls Tryz.prog 5 args W fun e W' => ∃ v, e = .returned v ∧ Rows.categoriesSpec.post enc Tryz.prog Tryz.f5 false true false false W args v W' := by
  have hW' := hW
  obtain ⟨p, q, hA0, hV, rfl, hfz, hnd⟩ := hW
  have hA : DataW.TrodAll enc Tryz.prog W 0 (fun _ => true) true Tryz.f5.params.toList args.toList ds p := hA0
  rw [Tryz.params5] at hA hval
  obtain ⟨v0, vs0, d0, ds0, p0, q0, hargs, rfl, rfl, h0, r0⟩ := trodAll_cons hA
  obtain ⟨v1, vs1, d1, ds1, p1, q1, rfl, rfl, rfl, h1, r1⟩ := trodAll_cons r0
  obtain ⟨v2, vs2, d2, ds2, p2, q2, rfl, rfl, rfl, h2, r2⟩ := trodAll_cons r1
  obtain ⟨rfl, rfl, rfl⟩ := trodAll_nil r2
  obtain rfl : args = #[v0, v1, v2] := Array.toList_inj.1 hargs
  obtain ⟨rfl, rfl⟩ := trodVars_none hV
  obtain ⟨s, rfl, rfl, rfl, hs⟩ := open_string Tryz.underlying9 (hval 1 9 v1 rfl rfl) h1
  obtain ⟨l, s1, s2, s3⟩ := open_arg (hval 0 35 v0 rfl rfl) h0
  obtain ⟨ns, t1, t2, t3⟩ := open_arg (hval 2 35 v2 rfl rfl) h2
  have z0 := s2 fun n hn => by simpa using List.all_eq_true.1 hz n (DataW.weights_mem_each (j := 0) (t := 35) rfl rfl n hn)
  have z2 := t2 fun n hn => by simpa using List.all_eq_true.1 hz n (DataW.weights_mem_each (j := 2) (t := 35) rfl rfl n hn)
  clear hA0 hz s2 t2
  simp only [List.append_nil] at hW'
  refine (categories_law W v0 v2 l ns s (Vr.base_of hL hS) s1 t1 z0.1 z0.2 z2.1 z2.2).mono fun e W' ⟨he, hbl⟩ => ?_
  subst he
  refine ⟨_, rfl, _, _, _, [], p0 ++ ([] ++ (p2 ++ [])), [], hW', ?_, ?_, ?_, hbl.frame _, fun h => by cases h⟩
  · exact trodAll_cons_mk (shut_bool Tryz.underlying4 _) trodAll_mk0
  · exact trodAll_cons_mk (s3 W' hbl) (trodAll_cons_mk (shut_string Tryz.underlying9 hs) (trodAll_cons_mk (t3 W' hbl) trodAll_mk0))
  · rfl

theorem reads (os : Os) {H : Type} (enc : TypeId × Value → H) : ∃ places, DataW.whole enc Tryz.prog ((Vr.laidW (World.holding Tryz.prog os Vr.seed) (World.holding Tryz.prog default ⟨#[], #[], []⟩).heap.size).forCall (fun _ _ => 0) ⟨#[], #[.slice none 0 0, .string ⟨#[]⟩, .slice none 0 0], []⟩).memory Tryz.f5.params.toList Rows.categoriesSpec.vars false #[Value.slice none 0 0, .string ⟨#[]⟩, .slice none 0 0].toList 8 = some ([.nil, .lit (.string []), .nil], [], places) :=
  ⟨[], by kernel_rfl⟩

set_option maxRecDepth 100000 in
theorem lifted (os : Os) (started : os.Started) (H : Type) (enc : TypeId × Value → H) (F : Stop.Interp) :
    ReturnsInHanded {} Tryz.checked os 5 .any ((OpenSpec.ofChange Rows.categoriesSpec).preRow enc Tryz.prog Tryz.f5 Rows.categoriesRow.domain false Rows.categoriesRow.laid) (((OpenSpec.ofChange Rows.categoriesSpec).at F).post enc Tryz.prog Tryz.f5 false true false false) := by
  obtain ⟨places, hx⟩ := reads os enc
  refine returnsInHanded_of_row (C := Tryz.checked) (s := OpenSpec.ofChange Rows.categoriesSpec) Vr.own started (by kernel_rfl) Tryz.func5
    (witness_row_at (enc := enc) (C := Tryz.checked) false (Vr.laidW (World.holding Tryz.prog os Vr.seed) (World.holding Tryz.prog default ⟨#[], #[], []⟩).heap.size) #[.slice none 0 0, .string ⟨#[]⟩, .slice none 0 0] rfl (by kernel_rfl) (by kernel_rfl) (by kernel_rfl)
      (OpenSpec.preRow_of_cond 8 hx (by kernel_rfl) (fun k hk => by cases hk) (by kernel_rfl) (Vr.laid_met os _))) ?_
  intro W base args ds gs before hval hW _ _ hz hL hS _
  exact contract H enc W base args ds gs before hval hW hz hL hS
end Go.Proofs.YtaepcfidpekflaaGreatDoor.Ct
