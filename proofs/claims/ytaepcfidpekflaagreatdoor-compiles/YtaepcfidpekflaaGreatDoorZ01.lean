/-
  Several texts in one (Base, Sv). By the verifier.
-/
import Derived.Test.YtaepcfidpekflaaGreatDoorProg
import Derived.WalkKit
import Derived.WalkSmall
import Derived.Lib.LaidTab
import Derived.Lib.ItoaNum
import Derived.Shelf.Lay
import Derived.Shelf.Unicode.DecodeSlow
import Derived.Shelf.Unicode.ValidAny
namespace Go.Proofs.YtaepcfidpekflaaGreatDoor
open Go.RowKit
def Base (w:World):Prop:=
 w.cell? ⟨0,0,none⟩ = some (.iface 208 (.agg #[.pointer (some ⟨9,67,none⟩)]))
  ∧ (∃ m,w.cell? ⟨3,0,none⟩ = some (.int .i64 m))
  ∧ Lib.Utf8Tabs 1 2 w
  ∧ Lib.TabIs Tryz.prog w "internal/strconv.uint64pow10" .u64 Lib.pow10Tab
  ∧ (∃ t p,w.cell? ⟨5,0,none⟩ = some (.iface t p))
  ∧ ∃ t p,w.cell? ⟨6,0,none⟩ = some (.iface t p)
theorem cell_lt {w:World} {b o:Nat} {v:Value} (h:w.cell? ⟨b,o,none⟩ = some v):b < w.heap.size:=by
 rcases Nat.lt_or_ge b w.heap.size with h' | h'
 ·exact h'
 ·simp [World.cell?,Array.getElem?_eq_none h'] at h
theorem pow10_named : Program.globalNamed Tryz.prog "internal/strconv.uint64pow10" = some 4 := by kernel_rfl
theorem var_lt {P:Program} {w:World} {n:String} {g:Nat} {cs:Array Value} (hg:P.globalNamed n = some g) (h:w.var? P n = some cs):g < w.heap.size:=by
 rcases Nat.lt_or_ge g w.heap.size with h' | h'
 ·exact h'
 ·simp [World.var?,hg,Array.getElem?_eq_none h'] at h
theorem Base.below {w w':World} (h:Base w) (hb:Below w.heap.size w w'):Base w':=by
 obtain ⟨h1,⟨m,h2⟩,h3,h4,⟨t5,p5,h5⟩,t6,p6,h6⟩:=h
 exact ⟨(hb.cell (p:=⟨_,0,none⟩) (cell_lt h1)).trans h1,⟨m,(hb.cell (p:=⟨_,0,none⟩) (cell_lt h2)).trans h2⟩,Utf8Tabs_below h3 hb,
  var?_below hb pow10_named (var_lt pow10_named h4) h4,⟨t5,p5,(hb.cell (p:=⟨_,0,none⟩) (cell_lt h5)).trans h5⟩,t6,p6,(hb.cell (p:=⟨_,0,none⟩) (cell_lt h6)).trans h6⟩
theorem Base.alloc {w:World} (h:Base w) (o:Obj):Base (w.alloc o):=h.below ((Below.refl _ _).alloc (Nat.le_refl _) _)
theorem Base.drew {w:World} (h:Base w):Base w.drew:=h.below (Below.refl _ _).drew
theorem below_of {w w1 w2:World} (h1:Below w.heap.size w w1) (h2:Below w1.heap.size w1 w2):Below w.heap.size w w2:=h1.trans (h2.mono h1.size)
theorem below_all {w w1:World} (o:Obj) (h:Below (w.alloc o).heap.size (w.alloc o) w1):Below w.heap.size w w1:=below_of ((Below.refl _ _).alloc (Nat.le_refl _) _) h
theorem drewB (w:World) (n:Nat):Below w.heap.size w (w.drewN n):=below_drewN (Below.refl _ _) n
def Row (w:World) (b:Nat) (cs:Array Value):Prop:=b < w.heap.size ∧ (∀ j,w.cell? ⟨b,j,none⟩ = cs[j]?) ∧ ∀ j,w.frozen? ⟨b,j,none⟩ = false
theorem row_at (w:World) (cs:Array Value) (T:TypeId):Row (w.alloc (.cells cs T)) w.heap.size cs:=
 ⟨by simp,fun j=>by simp,fun j=>by simp⟩
theorem Row.alloc {w:World} {b:Nat} {cs:Array Value} (h:Row w b cs) (o:Obj):Row (w.alloc o) b cs:=
 ⟨by have:=h.1;simp;omega,fun j=>(World.cell?_alloc_lt w o ⟨b,j,none⟩ h.1).trans (h.2.1 j),fun j=>(World.frozen?_alloc_old w o ⟨b,j,none⟩ (Nat.ne_of_lt h.1)).trans (h.2.2 j)⟩
theorem Row.below {w w':World} {b B:Nat} {cs:Array Value} (h:Row w b cs) (hb:Below B w w') (hB:b < B):Row w' b cs:=
 ⟨Nat.lt_of_lt_of_le h.1 hb.size,fun j=>(hb.cell (p:=⟨b,j,none⟩) hB).trans (h.2.1 j),fun j=>(hb.frozen (p:=⟨b,j,none⟩) hB).trans (h.2.2 j)⟩
theorem Row.keep {w w':World} {b:Nat} {cs:Array Value} (h:Row w b cs) (hb:Below w.heap.size w w'):Row w' b cs:=h.below hb h.1
theorem Row.setC {w:World} {b:Nat} {cs:Array Value} (h:Row w b cs) (k:Nat) (v:Value) (hk:k < cs.size):Row (w.setCell ⟨b,k,none⟩ v) b (cs.setIfInBounds k v):=by
 refine ⟨by simpa using h.1,fun j=>?_,fun j=>by rw [World.frozen?_setCell];exact h.2.2 j⟩
 by_cases e:k = j
 ·subst e
  have hq:=h.2.1 k
  rw [Array.getElem?_eq_getElem hk] at hq
  rw [World.cell?_setCell_same (h:=hq)]
  simp [hk]
 ·rw [World.cell?_setCell_other (h:=by intro e2;exact e (by injection e2)),h.2.1 j,Array.getElem?_setIfInBounds_ne e]
theorem Row.setO {w:World} {b b' k:Nat} {cs:Array Value} (h:Row w b cs) (hne:b' ≠ b) (v:Value):Row (w.setCell ⟨b',k,none⟩ v) b cs:=
 ⟨by simpa using h.1,fun j=>by rw [World.cell?_setCell_other (h:=by intro e;injection e with e1;exact hne e1)];exact h.2.1 j,fun j=>by rw [World.frozen?_setCell];exact h.2.2 j⟩
def Kept (w:World) (o:Obj) (w':World):Prop:=Below (w.alloc o).heap.size (w.alloc o) w'
theorem Kept.below {w w':World} {o:Obj} (h:Kept w o w'):Below w.heap.size w w':=below_all o h
theorem Kept.base {w w':World} {o:Obj} (hB:Base w) (h:Kept w o w'):Base w':=hB.below h.below
theorem Kept.cell {w w':World} {o:Obj} (h:Kept w o w') (j:Nat):w'.cell? ⟨w.heap.size,j,none⟩ = (w.alloc o).cell? ⟨w.heap.size,j,none⟩:=Below.cell (p:=⟨w.heap.size,j,none⟩) h (by simp)
end Go.Proofs.YtaepcfidpekflaaGreatDoor
namespace Go.Proofs
open Go.Shelf Go.RowKit
def Tryz.lays196_ren:Go.Shelf.Ren:=⟨fun | 196=>104 | 259=>140 | n=>n,fun | 0=>0 | 3=>3 | 4=>4 | 5=>5 | 9=>9 | 12=>12 | 46=>254 | 53=>314 | 119=>250 | 138=>252 | 139=>253 | n=>n,fun | 3=>1 | 4=>2 | n=>n⟩
theorem Tryz.lays196:Go.Proofs.Lays.n196 Tryz.prog Tryz.lays196_ren:={
 mixed:=by kernel_rfl
 f196:=Tryz.func104.trans (congrArg some (by kernel_rfl))
 f259:=Tryz.func140.trans (congrArg some (by kernel_rfl))
 t0:=Tryz.underlying0
 a0:=Tryz.isAgg0
 z0:=Tryz.sizeOf0
 v0:=Tryz.zeroValue0
 t3:=Tryz.underlying3
 a3:=Tryz.isAgg3
 z3:=Tryz.sizeOf3
 v3:=Tryz.zeroValue3
 t4:=Tryz.underlying4
 a4:=Tryz.isAgg4
 z4:=Tryz.sizeOf4
 v4:=Tryz.zeroValue4
 t5:=Tryz.underlying5
 a5:=Tryz.isAgg5
 z5:=Tryz.sizeOf5
 v5:=Tryz.zeroValue5
 t9:=Tryz.underlying9
 a9:=Tryz.isAgg9
 z9:=Tryz.sizeOf9
 v9:=Tryz.zeroValue9
 t12:=Tryz.underlying12
 a12:=Tryz.isAgg12
 z12:=Tryz.sizeOf12
 v12:=Tryz.zeroValue12
 t46:=Tryz.underlying254
 a46:=Tryz.isAgg254
 z46:=Tryz.sizeOf254
 v46:=Tryz.zeroValue254
 t53:=Tryz.underlying314
 a53:=Tryz.isAgg314
 z53:=Tryz.sizeOf314
 v53:=Tryz.zeroValue314
 t119:=Tryz.underlying250
 a119:=Tryz.isAgg250
 z119:=Tryz.sizeOf250
 t138:=Tryz.underlying252
 a138:=Tryz.isAgg252
 z138:=Tryz.sizeOf252
 v138:=Tryz.zeroValue252
 t139:=Tryz.underlying253
 a139:=Tryz.isAgg253
 z139:=Tryz.sizeOf253
 v139:=Tryz.zeroValue253
 g3:=by kernel_rfl
 g4:=by kernel_rfl }
theorem Tryz.utf8_ValidString (s:ByteArray) (w:World) (hs:s.size ≤ 9223372036854775807) (hT:Lib.Utf8Tabs 1 2 w):
  Calls Tryz.prog 104 #[.string s] w fun e w'=>e = .returned (.bool (Lib.validD s.data.toList)) ∧ Below w.heap.size w w':=Any.utf8_ValidString Tryz.lays196 s w hs hT
end Go.Proofs
