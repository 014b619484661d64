/-
  Several texts in one (Cn, Xp). By the verifier.
-/
import Derived.Test.YtaepcfidpekflaaGreatDoorZ39
import Derived.Test.YtaepcfidpekflaaGreatDoorZ52
import Derived.Test.YtaepcfidpekflaaGreatDoorZ30
import Derived.SizedLaws
namespace Go.Proofs.YtaepcfidpekflaaGreatDoor
open Go.RowKit Pg

/-- What the document's Canon needs of a text, and what it answers. -/
theorem canon_facts {s : Pg.T} {r : Sum (Nat × Nat) Pg.Tr} (h : PatR s r) : Dk.Bal [] (Dk.readS s).1 ∧ (∀ m ∈ (Dk.readS s).1, Dk.MOk m) ∧ (Dk.readS s).1.length ≤ 3016 ∧ CanS (Dk.readS s) = (outP r).1 ∧ (Dk.readS s).2.1 = (outP r).2.1 ∧ (if (Dk.readS s).2.1 = 0 then (0 : Nat) else (Dk.readS s).2.2) = (outP r).2.2 := by
  cases r with
  | inl x =>
    obtain ⟨er, a⟩ := x
    obtain ⟨h1, h2⟩ := read_bad h
    rw [h1]
    exact ⟨trivial, fun m hm => by simp at hm, by simp, by simp [CanS, outP, h2], rfl, by simp [outP, h2]⟩
  | inr t =>
    have h1 := read_good h
    rw [h1]
    cases h with
    | ok g g1 g2 g3 =>
      obtain ⟨k1, k2, k3, k4, k5, k6⟩ := tree_marks g1 g2
      refine ⟨?_, tree_mok g g1 g2, by simp only []; omega, ?_, rfl, by simp [outP]⟩
      · have := bal_flat (o := o (Pn.pts s)) t [] [] trivial
        simpa using this
      · rw [CanS, if_pos rfl]
        exact (canT_canGo (o (Pn.pts s)) t).symm
set_option maxHeartbeats 1600000 in
set_option maxRecDepth 100000 in
theorem lcanon_any (s : Pg.T) (w : World) (hE : w.cell? ⟨0, 0, none⟩ = some (.iface 208 (.agg #[.pointer (some ⟨9, 67, none⟩)]))) (hU : Lib.Utf8Tabs 1 2 w) (hB : Bas w) (hs : s.length ≤ 1000000) :
    Calls Tryz.prog 23 #[.string ⟨s.toArray⟩] w fun e w' => e = .returned (.bool true) ∧ Below w.heap.size w w' := by
  have kp := plcanon_any s w hE hU hB hs
  clear hE hU hB
  go_enter Tryz.func23, Tryz.ntmps23
  go_wp2_with fail
  refine kp.mono ?_
  rintro e w1 ⟨hb1, r, hr, rfl⟩
  obtain ⟨f1, f2, f3, f4, f5, f6⟩ := canon_facts hr
  have kc := kcanon_any w1 s hs (read_ok hr) f1 f2 f3
  rw [f4, f5] at kc
  rw [f5] at f6
  rw [f6] at kc
  clear kp f1 f2 f3 f4 f5 f6 hr
  generalize (outP r).1 = T at *
  generalize (outP r).2.1 = X at *
  generalize (outP r).2.2 = Y at *
  go_wp2_with fail
  refine kc.mono ?_
  rintro e w2 ⟨rfl, hb2⟩
  have HB2 : Hid (Below w.heap.size w w2) := below_of hb1 hb2
  clear kc hb1 hb2
  go_wp2
  go_ret
  exact ⟨rfl, HB2.out⟩
set_option maxHeartbeats 1600000 in
theorem canons_any (s : Pg.T) (w : World) (hE : w.cell? ⟨0, 0, none⟩ = some (.iface 208 (.agg #[.pointer (some ⟨9, 67, none⟩)]))) (hU : Lib.Utf8Tabs 1 2 w) (hB : Bas w) :
    Calls Tryz.prog 7 #[.string ⟨s.toArray⟩] w fun e w' => e = .returned (.bool true) ∧ Below w.heap.size w w' := by
  go_enter Tryz.func7, Tryz.ntmps7
  by_cases h : 65536 < s.length
  · have h' : (65536 : Int) < s.length := by omega
    go_wp2
    go_ret
    exact ⟨rfl, Below.refl _ _⟩
  · have h' : ¬ ((65536 : Int) < s.length) := by omega
    have kc := lcanon_any s w hE hU hB (by omega)
    go_wp2_with fail
    refine kc.mono ?_
    rintro e w1 ⟨rfl, hb1⟩
    clear kc
    go_wp2
    go_ret
    exact ⟨rfl, hb1⟩
end Go.Proofs.YtaepcfidpekflaaGreatDoor
namespace Go.Proofs.YtaepcfidpekflaaGreatDoor.Xc
open Go.ChangeShapes Go.WideShapes Go.ChangeAt Go.RowKit
open Go.ChangeMaps (open_string shut_string)

theorem mk_list (a : ByteArray) : a = ⟨a.data.toList.toArray⟩ := by cases a; simp
set_option maxRecDepth 100000 in
theorem contract (H : Type) (enc : TypeId × Value → H) (W : World) (base : Nat) (args : Array Value) (ds gs : List (DataW H)) (before : List MemPlace)
    (hval : ∀ (j : Nat) t v, Tryz.f7.params[j]? = some t → args[j]? = some v → Value.okWide Tryz.prog W .any base t v)
    (hW : DataW.Whole enc Tryz.prog Tryz.f7.params.toList Rows.canonsSpec.vars false W args.toList ds gs before)
    (hL : laidMetH Tryz.prog Rows.canonsRow.laid W) (hS : W.ShapedOpen Tryz.prog) :
    Calls Tryz.prog 7 args W fun e W' => ∃ v, e = .returned v ∧ Rows.canonsSpec.post enc Tryz.prog Tryz.f7 false true false false W args v W' := by
  have hW' := hW
  obtain ⟨p, q, hA0, hV, rfl, hfz, hnd⟩ := hW
  have hA : DataW.TrodAll enc Tryz.prog W 0 (fun _ => true) true Tryz.f7.params.toList args.toList ds p := hA0
  rw [Tryz.params7] at hA hval
  obtain ⟨v0, vs0, d0, ds0, p0, q0, hargs, rfl, rfl, h0, r0⟩ := trodAll_cons hA
  obtain ⟨rfl, rfl, rfl⟩ := trodAll_nil r0
  obtain rfl : args = #[v0] := Array.toList_inj.1 hargs
  obtain ⟨rfl, rfl⟩ := trodVars_none hV
  obtain ⟨s, rfl, rfl, rfl, hs⟩ := open_string Tryz.underlying9 (hval 0 9 v0 rfl rfl) h0
  clear hA0
  simp only [List.append_nil] at hW'
  have kc := canons_any s.data.toList W (Xr.handle_of (Xr.split_canons hL).2) (Xr.tabs_of (Xr.split_canons hL).1 (by simp [Xr.five]) (by simp [Xr.five])) (Xr.bas_of hL hS)
  rw [← mk_list] at kc
  refine kc.mono fun e W' ⟨he, hbl⟩ => ?_
  subst he
  refine ⟨_, rfl, _, _, _, [], [], [], hW', ?_, ?_, ?_, hbl.frame _, fun h => by cases h⟩
  · exact trodAll_cons_mk (shut_bool Tryz.underlying4 _) trodAll_mk0
  · exact trodAll_cons_mk (shut_string Tryz.underlying9 hs) trodAll_mk0
  · rfl
theorem reads (os : Os) {H : Type} (enc : TypeId × Value → H) : ∃ places, DataW.whole enc Tryz.prog ((Vr.laidW (World.holding Tryz.prog os Vr.seed) (World.holding Tryz.prog default ⟨#[], #[], []⟩).heap.size).forCall (fun _ _ => 0) ⟨#[], #[.string ⟨#[]⟩], []⟩).memory Tryz.f7.params.toList Rows.canonsSpec.vars false #[Value.string ⟨#[]⟩].toList 8 = some ([.lit (.string [])], [], places) :=
  ⟨[], by kernel_rfl⟩
set_option maxRecDepth 100000 in
theorem lifted (os : Os) (started : os.Started) (H : Type) (enc : TypeId × Value → H) (F : Stop.Interp) :
    ReturnsInHanded {} Tryz.checked os 7 .any ((OpenSpec.ofChange Rows.canonsSpec).preRow enc Tryz.prog Tryz.f7 Rows.canonsRow.domain false Rows.canonsRow.laid) (((OpenSpec.ofChange Rows.canonsSpec).at F).post enc Tryz.prog Tryz.f7 false true false false) := by
  obtain ⟨places, hx⟩ := reads os enc
  refine returnsInHanded_of_row (C := Tryz.checked) (s := OpenSpec.ofChange Rows.canonsSpec) Vr.own started (by kernel_rfl) Tryz.func7
    (witness_row_at (enc := enc) (C := Tryz.checked) false (Vr.laidW (World.holding Tryz.prog os Vr.seed) (World.holding Tryz.prog default ⟨#[], #[], []⟩).heap.size) #[.string ⟨#[]⟩] rfl (by kernel_rfl) (by kernel_rfl) (by kernel_rfl)
      (OpenSpec.preRow_of_cond 8 hx (by kernel_rfl) (fun k hk => by cases hk) (by kernel_rfl) (Xr.laid_canons os _))) ?_
  intro W base args ds gs before hval hW _ _ _ hL hS _
  exact contract H enc W base args ds gs before hval hW hL hS
end Go.Proofs.YtaepcfidpekflaaGreatDoor.Xc
