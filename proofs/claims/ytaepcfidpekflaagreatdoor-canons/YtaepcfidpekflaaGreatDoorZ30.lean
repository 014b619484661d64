/-
  Several texts in one (Xr). By the verifier.
-/
import Derived.Test.YtaepcfidpekflaaGreatDoorZ02
import Derived.Test.YtaepcfidpekflaaGreatDoorZ29
namespace Go.Proofs.YtaepcfidpekflaaGreatDoor.Xr
open Go.ChangeShapes Go.WideShapes Go.ChangeAt Go.RowKit

theorem handle_of {W : World} (h : handlesMet Tryz.prog [("errors.errorType", Rows.laid_errors_errorType)] W) : W.cell? ⟨0, 0, none⟩ = some (.iface 208 (.agg #[.pointer (some ⟨9, 67, none⟩)])) := by
  obtain ⟨name, u, ty, e1, e2, e3, e4, e5⟩ := h _ (List.mem_singleton.2 rfl)
  have en : name = [101, 114, 114, 111, 114] := (Option.some.inj e1).symm
  subst en
  obtain rfl := Option.some.inj (Vr.rt.symm.trans e2)
  have hm : ty ∈ (List.range 471).filter fun t => Tryz.prog.rowNamed t [101, 114, 114, 111, 114] := List.mem_filter.2 ⟨List.mem_range.2 (by rw [← Vr.size]; exact e3), e4⟩
  rw [Vr.oneRow] at hm
  obtain rfl := List.mem_singleton.1 hm
  have hh : typeHandle Tryz.prog 67 = .pointer (some ⟨9, 67, none⟩) := by kernel_rfl
  rw [hh] at e5
  simpa using World.var?_cell Vr.et e5 0
theorem tabs_of {W : World} {l : List (String × DataW Unit)} (h : laidMet Tryz.prog l W) (m1 : ("unicode/utf8.first", Rows.laid_unicode_utf8_first) ∈ l) (m2 : ("unicode/utf8.acceptRanges", Rows.laid_unicode_utf8_acceptRanges) ∈ l) : Lib.Utf8Tabs 1 2 W := by
  refine utf8Tabs_of_readsT (U8Types.of196 Tryz.lays196) ⟨by kernel_rfl, by kernel_rfl, by kernel_rfl, by kernel_rfl, by kernel_rfl, by kernel_rfl, by kernel_rfl⟩ ?_ ?_
  · have := Lib.laidMet.reads h (n := "unicode/utf8.first") (d := Rows.laid_unicode_utf8_first) m1
    rw [Vr.first_same] at this
    exact this
  · have := Lib.laidMet.reads h (n := "unicode/utf8.acceptRanges") (d := Rows.laid_unicode_utf8_acceptRanges) m2
    rw [Vr.accept_same] at this
    exact this
theorem pow_of {W : World} {l : List (String × DataW Unit)} (h : laidMet Tryz.prog l W) (m : ("internal/strconv.uint64pow10", Rows.laid_internal_strconv_uint64pow10) ∈ l) : Lib.TabIs Tryz.prog W "internal/strconv.uint64pow10" .u64 Lib.pow10Tab := by
  have := Lib.laidMet.reads h (n := "internal/strconv.uint64pow10") (d := Rows.laid_internal_strconv_uint64pow10) m
  rw [Vr.pow_same] at this
  obtain ⟨g', t', cs, fuel, p, hg', ht', hvar, hd⟩ := this
  obtain rfl := Option.some.inj (pow10_named.symm.trans hg')
  obtain rfl := Option.some.inj ((show (Tryz.prog.globals[4]?).map (·.type) = some 406 by kernel_rfl).symm.trans ht')
  unfold Lib.TabIs
  rw [hvar, ← Lib.cells_of_tab Tryz.underlying406 Tryz.underlying314 (by kernel_rfl) (by kernel_rfl) hd]
/-- Canons' five that are no handle. -/
abbrev five : List (String × DataW Unit) := [("math/bits.deBruijn32tab", Rows.laid_math_bits_deBruijn32tab), ("math/bits.deBruijn64tab", Rows.laid_math_bits_deBruijn64tab), ("internal/strconv.uint64pow10", Rows.laid_internal_strconv_uint64pow10), ("unicode/utf8.acceptRanges", Rows.laid_unicode_utf8_acceptRanges), ("unicode/utf8.first", Rows.laid_unicode_utf8_first)]
theorem split_canons {W : World} (h : laidMetH Tryz.prog Rows.canonsRow.laid W) : laidMet Tryz.prog five W ∧ handlesMet Tryz.prog [("errors.errorType", Rows.laid_errors_errorType)] W := h
theorem bas_of {W : World} (h : laidMetH Tryz.prog Rows.canonsRow.laid W) (hS : W.ShapedOpen Tryz.prog) : Bas W := ⟨Vr.maxLen_of hS, pow_of (split_canons h).1 (by simp [five])⟩
theorem laid_canons (os : Os) (args : Array Value) : laidMetH Tryz.prog Rows.canonsRow.laid ((Vr.laidW (World.holding Tryz.prog os Vr.seed) (World.holding Tryz.prog default ⟨#[], #[], []⟩).heap.size).forCall (fun _ _ => 0) ⟨#[], args, []⟩).memory :=
  laidMetH_of_parts (laidMet_of_run' 8 (by kernel_rfl) (by kernel_rfl)) (by kernel_rfl)
end Go.Proofs.YtaepcfidpekflaaGreatDoor.Xr
