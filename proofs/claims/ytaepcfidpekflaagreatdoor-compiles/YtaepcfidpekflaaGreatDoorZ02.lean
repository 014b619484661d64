/-
  Several texts in one (Vr). By the verifier.
-/
import Derived.Test.YtaepcfidpekflaaGreatDoorCards
import Derived.Test.YtaepcfidpekflaaGreatDoorTie
import Derived.Test.YtaepcfidpekflaaGreatDoorZ01
import Derived.ProofKit
import Derived.OpenShut
import Derived.ShutString
import Derived.Deep.DeepHandedRow
import Derived.LaidLaws
import Derived.LaidHandle
import Derived.Lib.LaidU8T
import Derived.Shelf.Vars
namespace Go.Proofs.YtaepcfidpekflaaGreatDoor.Vr
open Go.ChangeShapes Go.WideShapes Go.ChangeAt Go.RowKit
theorem own:ownKnob Tryz.prog.godebug = none:=by kernel_rfl
theorem et : Tryz.prog.globalNamed "errors.errorType" = some 0 := by kernel_rfl
theorem rt : (Tryz.prog.cutTypes.find? (·.1 == "internal/reflectlite.rtype")).map (·.2) = some 208 := by kernel_rfl
theorem oneRow:((List.range 471).filter fun t=>Tryz.prog.rowNamed t [101,114,114,111,114]) = [67]:=by kernel_rfl
theorem size:Tryz.prog.types.size = 471:=by kernel_rfl
abbrev seven : List (String × DataW Unit) := [("math/bits.deBruijn32tab", Rows.laid_math_bits_deBruijn32tab), ("math/bits.deBruijn64tab", Rows.laid_math_bits_deBruijn64tab), ("internal/strconv.uint64pow10", Rows.laid_internal_strconv_uint64pow10), ("unicode/utf8.acceptRanges", Rows.laid_unicode_utf8_acceptRanges), ("strconv.ErrRange", Rows.laid_strconv_ErrRange), ("strconv.ErrSyntax", Rows.laid_strconv_ErrSyntax), ("unicode/utf8.first", Rows.laid_unicode_utf8_first)]
theorem split_laid {W : World} (h : laidMetH Tryz.prog Rows.logicRow.laid W) : laidMet Tryz.prog seven W ∧ handlesMet Tryz.prog [("errors.errorType", Rows.laid_errors_errorType)] W := h
theorem handle_of {W:World} (h:laidMetH Tryz.prog Rows.logicRow.laid W):W.cell? ⟨0,0,none⟩ = some (.iface 208 (.agg #[.pointer (some ⟨9,67,none⟩)])):=by
 obtain ⟨name,u,ty,e1,e2,e3,e4,e5⟩:=(split_laid h).2 _ (List.mem_singleton.2 rfl)
 have en:name = [101,114,114,111,114]:=(Option.some.inj e1).symm
 subst en
 obtain rfl:=Option.some.inj (rt.symm.trans e2)
 have hm:ty ∈ (List.range 471).filter fun t=>Tryz.prog.rowNamed t [101,114,114,111,114]:=List.mem_filter.2 ⟨List.mem_range.2 (by rw [← size];exact e3),e4⟩
 rw [oneRow] at hm
 obtain rfl:=List.mem_singleton.1 hm
 have hh:typeHandle Tryz.prog 67 = .pointer (some ⟨9,67,none⟩):=by kernel_rfl
 rw [hh] at e5
 simpa using World.var?_cell et e5 0
theorem maxLen_of {W:World} (h:W.ShapedOpen Tryz.prog):∃ m,W.cell? ⟨3,0,none⟩ = some (.int .i64 m):=
 Go.Proofs.cell_of_shapedOpen_int (zero:=#[.int .i64 0]) (t:=3) h (of_decide_eq_true (by kernel_rfl)) (by kernel_rfl) rfl (by kernel_rfl) (by kernel_rfl) Tryz.underlying3
theorem accept_same:(Rows.laid_unicode_utf8_acceptRanges:DataW Unit) = Lib.acceptData:=by kernel_rfl
theorem first_same:Rows.laid_unicode_utf8_first = Lib.firstData:=by kernel_rfl
theorem pow_same:(Rows.laid_internal_strconv_uint64pow10:DataW Unit) = Lib.tabData .u64 Lib.pow10Tab:=by kernel_rfl
theorem tabs_of {W:World} (h:laidMetH Tryz.prog Rows.logicRow.laid W):Lib.Utf8Tabs 1 2 W:=by
 have h':=(split_laid h).1
 refine utf8Tabs_of_readsT (U8Types.of196 Tryz.lays196) ⟨by kernel_rfl,by kernel_rfl,by kernel_rfl,by kernel_rfl,by kernel_rfl,by kernel_rfl,by kernel_rfl⟩ ?_ ?_
 ·have := Lib.laidMet.reads h' (n := "unicode/utf8.first") (d := Rows.laid_unicode_utf8_first) (by simp [seven])
  rw [first_same] at this
  exact this
 ·have := Lib.laidMet.reads h' (n := "unicode/utf8.acceptRanges") (d := Rows.laid_unicode_utf8_acceptRanges) (by simp [seven])
  rw [accept_same] at this
  exact this
theorem pow_of {W : World} (h : laidMetH Tryz.prog Rows.logicRow.laid W) : Lib.TabIs Tryz.prog W "internal/strconv.uint64pow10" .u64 Lib.pow10Tab := by
 have := Lib.laidMet.reads (split_laid h).1 (n := "internal/strconv.uint64pow10") (d := Rows.laid_internal_strconv_uint64pow10) (by simp [seven])
 rw [pow_same] at this
 obtain ⟨g',t',cs,fuel,p,hg',ht',hvar,hd⟩:=this
 obtain rfl:=Option.some.inj (pow10_named.symm.trans hg')
 obtain rfl:=Option.some.inj ((show (Tryz.prog.globals[4]?).map (·.type) = some 406 by kernel_rfl).symm.trans ht')
 unfold Lib.TabIs
 rw [hvar,← Lib.cells_of_tab Tryz.underlying406 Tryz.underlying314 (by kernel_rfl) (by kernel_rfl) hd]
theorem err_of {W:World} (h:laidMetH Tryz.prog Rows.logicRow.laid W) (n:String) (D:DataW Unit) (g:Nat) (hD:∃ nm d,D = DataW.iface nm d) (hg:Tryz.prog.globalNamed n = some g) (ht:(Tryz.prog.globals[g]?).map (·.type) = some 67) (hm:(n,D) ∈ seven):∃ t p,W.cell? ⟨g,0,none⟩ = some (.iface t p):=by
 obtain ⟨nm,d,rfl⟩:=hD
 obtain ⟨g',t',cs,fuel,p,hg',ht',hvar,hd⟩:=Lib.laidMet.reads (split_laid h).1 hm
 obtain rfl:=Option.some.inj (hg.symm.trans hg')
 obtain rfl:=Option.some.inj (ht.symm.trans ht')
 obtain ⟨_,u,v,e,_⟩:=iface_of_trod Tryz.underlying67 hd
 refine ⟨u,v,?_⟩
 have:=World.var?_cell hg hvar 0
 rw [this]
 have:cs = #[.iface u v]:=Array.toList_inj.1 e
 rw [this]
 rfl
theorem base_of {W:World} (h:laidMetH Tryz.prog Rows.logicRow.laid W) (hS:W.ShapedOpen Tryz.prog):Base W:=
 ⟨handle_of h, maxLen_of hS, tabs_of h, pow_of h, err_of h "strconv.ErrSyntax" Rows.laid_strconv_ErrSyntax _ ⟨_, _, rfl⟩ (by kernel_rfl) (by kernel_rfl) (by simp [seven]), err_of h "strconv.ErrRange" Rows.laid_strconv_ErrRange _ ⟨_, _, rfl⟩ (by kernel_rfl) (by kernel_rfl) (by simp [seven])⟩
/-! ### The witness -/
def flat:List (DataW Unit) → List Value
 | []=>[]
 | .lit (.int k n) :: r=>.int k n :: flat r
 | .agg [.lit (.int k n),.lit (.int l m)] :: r=>.int k n :: .int l m :: flat r
 | _ :: r=>flat r
def parts:DataW Unit → List (DataW Unit)
 | .agg l=>l
 | _=>[]
def put (cs:Array Value):Obj → Obj
 | .cells _ t frozen=>.cells cs t frozen
 | o=>o
def seed : Input := ⟨#[.cells #[.string ⟨#[118,97,108,117,101,32,111,117,116,32,111,102,32,114,97,110,103,101]⟩] 426,.cells #[.string ⟨#[105,110,118,97,108,105,100,32,115,121,110,116,97,120]⟩] 426],#[],[]⟩
def laidW (w0 : World) (low : Nat) : World :=
 let h1:=w0.heap.modify 0 (put #[.iface 208 (.agg #[.pointer (some ⟨9,67,none⟩)])])
 let h2:=h1.modify 1 (put (flat (parts Go.Pinned.utf8First)).toArray)
 let h3:=h2.modify 2 (put (flat (parts Rows.laid_unicode_utf8_acceptRanges)).toArray)
 let h4:=h3.modify 4 (put (flat (parts Rows.laid_internal_strconv_uint64pow10)).toArray)
 let h5:=h4.modify 7 (put (flat (parts Rows.laid_math_bits_deBruijn32tab)).toArray)
 let h6:=h5.modify 8 (put (flat (parts Rows.laid_math_bits_deBruijn64tab)).toArray)
 let h7:=h6.modify 6 (put #[.iface 424 (.pointer (some ⟨low,0,none⟩))])
 { w0 with heap:=h7.modify 5 (put #[.iface 424 (.pointer (some ⟨low + 1,0,none⟩))]) }
theorem laid_met (os:Os) (args:Array Value):laidMetH Tryz.prog Rows.logicRow.laid ((laidW (World.holding Tryz.prog os seed) (World.holding Tryz.prog default ⟨#[], #[], []⟩).heap.size).forCall (fun _ _=>0) ⟨#[],args,[]⟩).memory:=
 laidMetH_of_parts (laidMet_of_run' 8 (by kernel_rfl) (by kernel_rfl)) (by kernel_rfl)
end Go.Proofs.YtaepcfidpekflaaGreatDoor.Vr
