/-
  Several texts in one (Il, Im). By the verifier.
-/
import Derived.Test.YtaepcfidpekflaaGreatDoorZ33
import Derived.Laws.EntriesVeiled
import Derived.Shelf.Abstract
namespace Go.Proofs.YtaepcfidpekflaaGreatDoor
open Go.RowKit Pg

theorem run_spec (num : Bool) (x : Nat) : Dk.runP num x = (((x : Int) == 39) || specZ num x) := by
  have e1 : ((x : Int) == 39) = (x == 39) := by rw [Bool.eq_iff_iff, beq_iff_eq, beq_iff_eq]; omega
  have e2 : ((x : Int) == 123) = (x == 123) := by rw [Bool.eq_iff_iff, beq_iff_eq, beq_iff_eq]; omega
  have e3 : ((x : Int) == 125) = (x == 125) := by rw [Bool.eq_iff_iff, beq_iff_eq, beq_iff_eq]; omega
  have e4 : ((x : Int) == 35) = (x == 35) := by rw [Bool.eq_iff_iff, beq_iff_eq, beq_iff_eq]; omega
  unfold Dk.runP specZ
  rw [e1, e2, e3, e4]
  simp [Bool.or_assoc]
theorem enters_in : Enters 196 := enters_of Tryz.func196 (by kernel_rfl) rfl
theorem enters_out : Enters 198 := enters_of Tryz.func198 (by kernel_rfl) rfl
set_option maxHeartbeats 800000 in
theorem wtext1_any (x : Nat) (bn : Nat) (num : Bool) (W : World) (c0 : W.cell? ⟨bn, 0, none⟩ = some (.bool num)) :
    Calls Tryz.prog 196 #[.int .i32 (x : Int), .pointer (some ⟨bn, 0, none⟩)] W fun e w' => e = .returned (.bool (Dk.runP num x)) ∧ ∃ q, w' = W.drewN q := by
  have ks := fun W => pisSpecial_any x num W
  obtain ⟨R, HR⟩ : ∃ R, Hid (Dk.runP num x = R) := ⟨_, rfl⟩
  have HR2 : Hid ((((x : Int) == 39) || specZ num x) = R) := by show _ = _; rw [← HR.out, run_spec]
  rw [HR.out]
  generalize specZ num x = S at *
  clear HR
  go_enter Tryz.func196, Tryz.ntmps196
  by_cases h39 : (x : Int) = 39
  · have h39' : ((x : Int) == 39) = true := by rw [h39]; rfl
    rw [h39'] at HR2
    clear h39
    clear ks
    go_wp2
    go_ret
    exact ⟨by rw [← HR2.out]; rfl, 0, rfl⟩
  · have h39' : ((x : Int) == 39) = false := by rw [beq_eq_false_iff_ne]; exact h39
    rw [h39'] at HR2
    clear h39
    go_wp2_with (go_at_call 197; refine (ks _).mono ?_; rintro e w2 ⟨rfl, hw2⟩; have h2 := hw2.symm; subst h2)
    go_ret
    exact ⟨by rw [← HR2.out]; rfl, 0, rfl⟩
theorem tells_in (w : World) (bn : Nat) (num : Bool) (hc : w.cell? ⟨bn, 0, none⟩ = some (.bool num)) (hlt : bn < w.heap.size) : Tells w (.func (.func 196) #[] #[.pointer (some ⟨bn, 0, none⟩)]) (Dk.runP num) :=
  ⟨_, _, rfl, enters_in, fun W x hb => wtext1_any x bn num W ((hb.cell (p := ⟨bn, 0, none⟩) hlt).trans hc)⟩
set_option maxHeartbeats 800000 in
theorem wtext2_any (x : Nat) (bf g : Nat) (lb : Array Value) (R : Bool) (W : World) (eg : ∀ args w, (callFunc g args).run Tryz.prog w = .ok (.enter g args) w) (c1 : W.cell? ⟨bf, 0, none⟩ = some (.func (.func g) #[] lb)) (k1 : Calls Tryz.prog g (#[.int .i32 (x : Int)] ++ lb) W fun e w' => e = .returned (.bool R) ∧ ∃ q, w' = W.drewN q) :
    Calls Tryz.prog 198 #[.int .i32 (x : Int), .pointer (some ⟨bf, 0, none⟩)] W fun e w' => e = .returned (.bool (!R)) ∧ ∃ q, w' = W.drewN q := by
  go_enter Tryz.func198, Tryz.ntmps198
  go_wp2_with (go_at_fn g; refine k1.mono ?_; rintro e w2 ⟨rfl, q, rfl⟩)
  go_ret
  first | exact ⟨rfl, _, rfl⟩ | exact ⟨by cases R <;> rfl, _, rfl⟩
theorem tells_out (w : World) (bn bf : Nat) (num : Bool) (hc : w.cell? ⟨bn, 0, none⟩ = some (.bool num)) (hlt : bn < w.heap.size) (hc1 : w.cell? ⟨bf, 0, none⟩ = some (.func (.func 196) #[] #[.pointer (some ⟨bn, 0, none⟩)])) (hlt1 : bf < w.heap.size) : Tells w (.func (.func 198) #[] #[.pointer (some ⟨bf, 0, none⟩)]) (fun r => !Dk.runP num r) :=
  ⟨_, _, rfl, enters_out, fun W x hb => wtext2_any x bf _ _ _ W enters_in ((hb.cell (p := ⟨bf, 0, none⟩) hlt1).trans hc1) (wtext1_any x bn num W ((hb.cell (p := ⟨bn, 0, none⟩) hlt).trans hc))⟩
end Go.Proofs.YtaepcfidpekflaaGreatDoor
namespace Go.Proofs.YtaepcfidpekflaaGreatDoor
open Go.RowKit Pg

/-- What the closures of text need of the world. -/
structure Cl (w : World) (bn bf : Nat) (num : Bool) : Prop where
  num : w.cell? ⟨bn, 0, none⟩ = some (.bool num)
  ltn : bn < w.heap.size
  fn : w.cell? ⟨bf, 0, none⟩ = some (.func (.func 196) #[] #[.pointer (some ⟨bn, 0, none⟩)])
  ltf : bf < w.heap.size
theorem Cl.kept {w w' : World} {bn bf b : Nat} {num : Bool} {o1 o2 : Obj} (h : Cl w bn bf num) (hb : Lib.OthersKept 5 (some b) w w') (hz : w.heap.size ≤ w'.heap.size) (h1 : w.heap[bn]? = some o1) (h2 : w.heap[bf]? = some o2) (g1 : ∀ c fz, o1 ≠ .cells c 5 fz) (g2 : ∀ c fz, o2 ≠ .cells c 5 fz) (n1 : bn ≠ b) (n2 : bf ≠ b) : Cl w' bn bf num ∧ w'.heap[bn]? = some o1 ∧ w'.heap[bf]? = some o2 := by
  have e1 := hb bn o1 h1 (fun e => n1 (by injection e)) g1
  have e2 := hb bf o2 h2 (fun e => n2 (by injection e)) g2
  refine ⟨⟨?_, by have := h.ltn; omega, ?_, by have := h.ltf; omega⟩, e1, e2⟩
  · have := h.num; simp only [World.cell?, h1, e1] at this ⊢; exact this
  · have := h.fn; simp only [World.cell?, h2, e2] at this ⊢; exact this
theorem heap_new (w : World) (o : Obj) : (w.alloc o).heap[w.heap.size]? = some o := by
  rw [show (w.alloc o).heap = w.heap.push o from rfl]
  simp
/-- Whatever is done above B, the variables of the library stand. -/
def BaseB (B : Nat) (w : World) : Prop := ∀ W, Below B w W → Bas W
theorem BaseB.next {B : Nat} {w w' : World} (h : BaseB B w) (hb : Below B w w') : BaseB B w' := fun W hW => h W (hb.trans hW)
theorem BaseB.base {B : Nat} {w : World} (h : BaseB B w) : Bas w := h w (Below.refl _ _)
theorem dbl_not (num : Bool) (t : Pg.T) : t.takeWhile (fun c => !(!Dk.inRun num c)) = t.takeWhile (Dk.inRun num) := by
  congr 1
  funext c
  simp
/-- Where the closures' boxes stand, and that bytes that are written leave them. -/
def ClB (w : World) (b bn bf : Nat) (num : Bool) : Prop := Cl w bn bf num ∧ bn ≠ b ∧ bf ≠ b ∧ w.heap[bn]? = some (.cells #[.bool num] 4) ∧ w.heap[bf]? = some (.cells #[.func (.func 196) #[] #[.pointer (some ⟨bn, 0, none⟩)]] 95)
theorem ClB.kept {w w' : World} {b bn bf : Nat} {num : Bool} (h : ClB w b bn bf num) (hk : Lib.OthersKept 5 (some b) w w') (hz : w.heap.size ≤ w'.heap.size) : ClB w' b bn bf num := by
  obtain ⟨h1, h2, h3, h4, h5⟩ := h
  obtain ⟨k1, k2, k3⟩ := h1.kept hk hz h4 h5 (fun c fz e => by injection e with _ e _; cases e) (fun c fz e => by injection e with _ e _; cases e) h2 h3
  exact ⟨k1, h2, h3, k2, k3⟩
set_option maxHeartbeats 6400000 in
set_option maxRecDepth 100000 in
theorem wtext_any (B b : Nat) (l s : Pg.T) (num : Bool) (w : World) (hW : Wtr w B b l) (hB : BaseB B w) (hBw : B ≤ w.heap.size) (hs : s.length ≤ 10000) (hl : l.length ≤ 50000000) :
    Calls Tryz.prog 163 #[.pointer (some ⟨b, 0, none⟩), .string ⟨s.toArray⟩, .bool num] w fun e w' => e = .returned (.tuple #[]) ∧ Wtr w' B b (l ++ Dk.written num s) ∧ Below B w w' ∧ Lib.OthersKept 5 (some b) w w' := by
  obtain ⟨R, HR⟩ : ∃ R, Hid (l ++ Dk.written num s = R) := ⟨_, rfl⟩
  rw [HR.out]
  have hRl : R.length ≤ 50040000 := by
    have := Dk.written_len num s
    rw [← HR.out, List.length_append]
    omega
  have hbl := hW.lt
  have hbn : b < w.heap.size := hbl.1
  have HW : Hid (Wtr w B b l) := hW
  have HBB : Hid (BaseB B w) := hB
  have w2F : ∀ o o2, Below B w ((w.alloc o).alloc o2) := fun o o2 => ((Below.refl B w).alloc hBw _).alloc (by simp; omega) _
  clear hW hB hbl hl
  go_enter Tryz.func163, Tryz.ntmps163
  go_wp2_with fail
  go_loopg [1] s.length (fun g v wr => ∃ (S d : Pg.T), v = .string ⟨S.toArray⟩ ∧ S.length ≤ g ∧ S.length ≤ 10000 ∧ Hid (Wtr wr B b d) ∧ Hid (d ++ Dk.written num S = R) ∧ Hid (Below B w wr) ∧ Hid (Lib.OthersKept 5 (some b) w wr) ∧ Hid (ClB wr b w.heap.size (w.heap.size + 1) num))
  case atStart =>
    refine ⟨s, l, rfl, Nat.le_refl _, hs, (HW.out.alloc _).alloc _, HR, w2F _ _, ((Lib.OthersKept.refl _ _ w).alloc _).alloc _, ⟨⟨?_, by simp; omega, ?_, by simp⟩, by omega, by omega, ?_, ?_⟩⟩
    · rw [World.cell?_alloc_lt _ _ _ (by simp)]; simp
    · have := (row_at (w.alloc (.cells #[.bool num] 4)) #[.func (.func 196) #[] #[.pointer (some ⟨w.heap.size, 0, none⟩)]] 95).2.1 0
      rw [World.size_alloc] at this
      exact this
    · rw [Lib.alloc_old _ _ _ (by simp)]
      exact heap_new w _
    · have := heap_new (w.alloc (.cells #[.bool num] 4)) (.cells #[.func (.func 196) #[] #[.pointer (some ⟨w.heap.size, 0, none⟩)]] 95)
      rw [World.size_alloc] at this
      exact this
  case round =>
    obtain ⟨S, d, rfl, hg, hSb, HWr, HD, HBr, HKr, HC⟩ := hrel
    clear HR HW w2F hs
    by_cases hS : S = []
    · subst hS
      have HF : Hid (d = R) := by show _ = _; rw [← HD.out]; simp [Dk.written, Dk.writtenGo]
      go_wp2
      first | go_end0 | refine bodyPost_ret (results_none rfl _ _ _) rfl ?_
      exact ⟨rfl, by rw [← HF.out]; exact HWr.out, HBr.out, HKr.out⟩
    · obtain ⟨a, r, z, hSe, ha, hr, hwr, hz⟩ := Dk.written_round num S
      have hzl := hz hS
      have hem : List.isEmpty S = false := by
        cases S with
        | nil => exact absurd rfl hS
        | cons => rfl
      have HD2 : Hid ((d ++ a) ++ (Dk.runW r ++ Dk.written num z) = R) := by show _ = _; rw [← HD.out, hwr, List.append_assoc]
      have hSl : S.length = a.length + (r.length + z.length) := by rw [hSe]; simp
      have hDl : d.length + a.length + (Dk.runW r).length ≤ 50040000 := by
        have := congrArg List.length HD2.out
        simp only [List.length_append] at this
        omega
      have hzr := HBr.out.size
      have k1 := wlength_any S _ _ _ _ (Dk.run_in num) wr (tells_in wr w.heap.size num HC.out.1.num HC.out.1.ltn)
      rw [← ha] at k1
      have ex1 : (⟨S.toArray⟩ : ByteArray).extract 0 a.length = ⟨a.toArray⟩ := by rw [ex_take, hSe]; simp
      have ex2 : (⟨S.toArray⟩ : ByteArray).extract a.length S.length = ⟨(r ++ z).toArray⟩ := by rw [ex_drop, hSe]; simp
      have i1 : (a.length : Int) ≤ S.length := by omega
      have hS1l : (r ++ z).length = r.length + z.length := by simp
      have hr2 : ((r ++ z).takeWhile (fun c => !(!Dk.inRun num c))).length = r.length := by rw [dbl_not, ← hr]
      have ex3 : (⟨(r ++ z).toArray⟩ : ByteArray).extract 0 r.length = ⟨r.toArray⟩ := by rw [ex_take]; simp
      have ex4 : (⟨(r ++ z).toArray⟩ : ByteArray).extract r.length (r ++ z).length = ⟨z.toArray⟩ := by rw [ex_drop]; simp
      have HZ : Hid (z.length < S.length) := hzl
      have hrl : r.length ≤ S.length := by omega
      have HDR : Hid (S.length ≤ gk) := hg
      obtain ⟨S1, hS1⟩ : ∃ S1, r ++ z = S1 := ⟨_, rfl⟩
      rw [hS1] at ex2 ex3 ex4 hS1l hr2
      have HS1 : Hid (r ++ z = S1) := hS1
      have i2 : (r.length : Int) ≤ S1.length := by omega
      have c1 := HC.out.1.fn
      clear hS hSe ha hr hwr hz hzl hg HD hSl hS1 hS1l
      go_wp2_with fail
      refine k1.mono ?_
      rintro e w1 ⟨rfl, hb1⟩
      have HW1 : Hid (Wtr w1 B b d) := HWr.out.keep hb1
      have HB1 : Hid (Below B w w1) := HBr.out.trans (hb1.mono (by omega))
      have HK1 : Hid (Lib.OthersKept 5 (some b) w w1) := HKr.out.trans (kept_of hb1)
      have HC1 : Hid (ClB w1 b w.heap.size (w.heap.size + 1) num) := HC.out.kept (kept_of hb1) hb1.size
      have hz1 := hb1.size
      have hbb := HW1.out.lt.1
      clear k1 hb1 HWr HBr HKr HC c1
      have kw := wall_any B b d [a] w1.heap.size 1 (w1.alloc (.cells #[.string ⟨a.toArray⟩] 9)) (HW1.out.alloc _) (tx_new w1 b [a] hbb _ (by decide)) (by simp; omega) (by simp) (by simp; omega)
      go_wp2_with fail
      refine kw.mono ?_
      rintro e w2 ⟨rfl, hw2, hb2, hk2⟩
      have HW2 : Hid (Wtr w2 B b (d ++ a)) := by have h := hw2; simp only [List.flatten_cons, List.flatten_nil, List.append_nil] at h; exact h
      have HB2 : Hid (Below B w w2) := (HB1.out.alloc (by omega) _).trans hb2
      have HK2 : Hid (Lib.OthersKept 5 (some b) w w2) := (HK1.out.alloc _).trans hk2
      have HC2 : Hid (ClB w2 b w.heap.size (w.heap.size + 1) num) := HC1.out.kept (((Lib.OthersKept.refl _ _ w1).alloc _).trans hk2) (by have := hb2.size; simp at this; omega)
      have hz2 := HB2.out.size
      clear kw hw2 hb2 hk2 HW1 HB1 HK1 HC1 hbb hz1
      have k2 := wlength_any S1 _ _ _ _ (Dk.run_out num) w2 (tells_out w2 w.heap.size (w.heap.size + 1) num HC2.out.1.num HC2.out.1.ltn HC2.out.1.fn HC2.out.1.ltf)
      rw [hr2] at k2
      clear hr2
      go_wp2_with fail
      refine k2.mono ?_
      rintro e w3 ⟨rfl, hb3⟩
      have HW3 : Hid (Wtr w3 B b (d ++ a)) := HW2.out.keep hb3
      have HB3 : Hid (Below B w w3) := HB2.out.trans (hb3.mono (by omega))
      have HK3 : Hid (Lib.OthersKept 5 (some b) w w3) := HK2.out.trans (kept_of hb3)
      have HC3 : Hid (ClB w3 b w.heap.size (w.heap.size + 1) num) := HC2.out.kept (kept_of hb3) hb3.size
      have hz3 := HB3.out.size
      clear k2 hb3 HW2 HB2 HK2 HC2
      have kr := wrun_any B b (d ++ a) r w3 HW3.out (HBB.out.next HB3.out).base (by omega) (by omega) (by simp; omega)
      go_wp2_with fail
      refine kr.mono ?_
      rintro e w4 ⟨rfl, hw4, hb4, hk4⟩
      have HW4 : Hid (Wtr w4 B b ((d ++ a) ++ Dk.runW r)) := hw4
      have HB4 : Hid (Below B w w4) := HB3.out.trans hb4
      have HK4 : Hid (Lib.OthersKept 5 (some b) w w4) := HK3.out.trans hk4
      have HC4 : Hid (ClB w4 b w.heap.size (w.heap.size + 1) num) := HC3.out.kept hk4 hb4.size
      clear kr hw4 hb4 hk4 HW3 HB3 HK3 HC3
      go_wp2
      go_roundg z.length
      case measure => have := HZ.out; have := HDR.out; omega
      case rel => exact ⟨z, (d ++ a) ++ Dk.runW r, rfl, Nat.le_refl _, by have := HZ.out; omega, HW4, by show _ = _; rw [← HD2.out]; simp, HB4, HK4, HC4⟩
end Go.Proofs.YtaepcfidpekflaaGreatDoor
