/-
  Several texts in one (Ya, Yb, Yc, Yd, Ye, Yf, Yg). By the verifier.
-/
import Derived.Test.YtaepcfidpekflaaGreatDoorU49
import Derived.Test.YtaepcfidpekflaaGreatDoorU51
import Derived.Test.YtaepcfidpekflaaGreatDoorU48
namespace Go.Proofs.YtaepcfidpekflaaGreatDoor
open Go.RowKit Go.Maps Go.Shelf Pg

theorem wk_cells (b : Nat) (n : Int) (d : List Ar) (W : World) (k : Nat) (h : WkSt b n d W) (ho : WkOwn b W k) : ∃ c T f, W.heap[k]? = some (.cells c T f) := by
  obtain ⟨v, u, h1, h2, h3, h4⟩ := h
  rcases ho with rfl | rfl | rfl | ⟨v', hv, hk⟩ | ⟨u', hu, hk⟩
  · exact ⟨_, _, _, h3⟩
  · exact ⟨_, _, _, h1⟩
  · exact ⟨_, _, _, h2⟩
  · rw [h1.cell] at hv; cases hv; exact (ownsRow_cells h4.names hk).2
  · rw [h2.cell] at hu; cases hu; exact (ownsRow_cells h4.places hk).2
/-- Walk's function, as Each wants it. -/
theorem wk_us (b : Nat) (n : Int) : Us 4000 b 67 #[.pointer (some ⟨b + 1, 0, none⟩), .pointer (some ⟨b + 2, 0, none⟩), .pointer (some ⟨b, 0, none⟩)] (WkSt b n) (WkOwn b) (WkGd b) (fun d => some (decide ((d.length : Int) < n))) where
  enters := enters_of Tryz.func67 (by kernel_rfl) rfl
  gw := wk_gw b
  gd d W h := h.gd
  base d W h := by
    obtain ⟨v, u, h1, h2, h3, h4⟩ := h
    exact Nat.le_of_lt h3.lt
  cells d W k h ho := wk_cells b n d W k h ho
  keep d W W' h _ hs := wk_keep b n d W W' h hs
  call W d x h hl := (walk1_any b n d x W h hl).mono (by
    rintro e w' ⟨rfl, h1, h2, h3, h4⟩
    exact ⟨by simp, h1, h2, h3, h4⟩)
/-- How many of a pattern's arguments Walk sees. -/
theorem walk_take {n : Int} {l q : List Ar} {y : Ar} (hp : q ++ [y] <+: l) (hq : Okp (fun d => some (decide ((d.length : Int) < n))) q) (hne : (some (decide (((q ++ [y]).length : Int) < n))) ≠ some true) : q ++ [y] = l.take (max 1 n.toNat) := by
  obtain ⟨r, rfl⟩ := hp
  have h1 : ¬ ((((q ++ [y]).length : Nat) : Int) < n) := fun e => hne (by rw [decide_eq_true e])
  have h2 : q = [] ∨ (q.length : Int) < n := by
    rcases List.eq_nil_or_concat q with rfl | ⟨q', z, rfl⟩
    · exact .inl rfl
    · right
      rw [List.concat_eq_append] at hq ⊢
      have := hq q' z (List.prefix_refl _)
      simpa using this
  have h3 : (q ++ [y]).length = max 1 n.toNat := by
    simp at h1 ⊢
    rcases h2 with rfl | h2
    · simp at *; omega
    · omega
  rw [← h3, List.take_left]
theorem walk_all {n : Int} {l : List Ar} (hq : Okp (fun d => some (decide ((d.length : Int) < n))) l) : l = l.take (max 1 n.toNat) := by
  refine (List.take_of_length_le ?_).symm
  rcases List.eq_nil_or_concat l with rfl | ⟨q', z, rfl⟩
  · simp
  · rw [List.concat_eq_append] at hq ⊢
    have := hq q' z (List.prefix_refl _)
    simp at this
    simp
    omega
end Go.Proofs.YtaepcfidpekflaaGreatDoor
namespace Go.Proofs.YtaepcfidpekflaaGreatDoor.Pg
open Go.Proofs.YtaepcfidpekflaaGreatDoor

theorem args_in {t : Tr} : ∀ {lo hi : Nat}, In lo hi t → ∀ x ∈ argsT t, x.2 < hi := by
  induction t with
  | nil => intro lo hi h x hx; simp [argsT] at hx
  | text _ r ih => intro lo hi h x hx; exact ih h x hx
  | sign r ih => intro lo hi h x hx; exact ih h x hx
  | simple n a r ih =>
    intro lo hi h x hx
    rcases List.mem_cons.1 hx with rfl | hx
    · have := In.le h.2; simp; omega
    · exact ih h.2 x hx
  | num n a r ih =>
    intro lo hi h x hx
    rcases List.mem_cons.1 hx with rfl | hx
    · have := In.le h.2; simp; omega
    · exact ih h.2 x hx
  | sel n a bs e r ih1 ih2 =>
    intro lo hi h x hx
    have h1 := In.le h.2.1
    have h2 := In.le h.2.2
    rcases List.mem_cons.1 hx with rfl | hx
    · simp; omega
    · rcases List.mem_append.1 hx with hx | hx
      · have := ih1 h.2.1 x hx; omega
      · exact ih2 h.2.2 x hx
  | plu n a ord off bs e r ih1 ih2 =>
    intro lo hi h x hx
    have h1 := In.le h.2.1
    have h2 := In.le h.2.2
    rcases List.mem_cons.1 hx with rfl | hx
    · simp; omega
    · rcases List.mem_append.1 hx with hx | hx
      · have := ih1 h.2.1 x hx; omega
      · exact ih2 h.2.2 x hx
  | br w a m r ih1 ih2 =>
    intro lo hi h x hx
    obtain ⟨h0, c, h1, h2⟩ := h
    have h3 := In.le h2
    rcases List.mem_append.1 hx with hx | hx
    · have := ih1 h1 x hx; omega
    · exact ih2 h2 x hx
theorem args_flat (o : Nat → Nat) (t : Tr) : (argsT t).length ≤ (flat o t).length := by
  induction t <;> simp_all [argsT, flat] <;> omega
theorem flat_at {o : Nat → Nat} {N : Nat} (h : ∀ a, o a ≤ N) : ∀ t : Tr, ∀ m ∈ flat o t, m.at_ ≤ N := by
  intro t
  induction t with
  | nil => intro m hm; simp [flat] at hm
  | text _ r ih => intro m hm; rcases List.mem_cons.1 hm with rfl | hm; exact Nat.zero_le _; exact ih m hm
  | sign r ih => intro m hm; rcases List.mem_cons.1 hm with rfl | hm; exact Nat.zero_le _; exact ih m hm
  | simple n a r ih => intro m hm; rcases List.mem_cons.1 hm with rfl | hm; exact h a; exact ih m hm
  | num n a r ih => intro m hm; rcases List.mem_cons.1 hm with rfl | hm; exact h a; exact ih m hm
  | sel n a bs e r ih1 ih2 =>
    intro m hm
    rcases List.mem_cons.1 hm with rfl | hm
    · exact h a
    · rcases List.mem_append.1 hm with hm | hm
      · exact ih1 m hm
      · rcases List.mem_cons.1 hm with rfl | hm; exact h e; exact ih2 m hm
  | plu n a ord off bs e r ih1 ih2 =>
    intro m hm
    rcases List.mem_cons.1 hm with rfl | hm
    · exact h a
    · rcases List.mem_append.1 hm with hm | hm
      · exact ih1 m hm
      · rcases List.mem_cons.1 hm with rfl | hm; exact h e; exact ih2 m hm
  | br w a t r ih1 ih2 =>
    intro m hm
    rcases List.mem_cons.1 hm with rfl | hm
    · exact h a
    · rcases List.mem_append.1 hm with hm | hm
      · exact ih1 m hm
      · rcases List.mem_cons.1 hm with rfl | hm; exact Nat.zero_le _; exact ih2 m hm
/-- The error's number and place. -/
def errR : Sum (Nat × Nat) Tr → Nat × Nat
  | .inl x => x
  | .inr _ => (0, 0)
/-- A pattern's arguments. -/
def argsR : Sum (Nat × Nat) Tr → List (T × Nat)
  | .inl _ => []
  | .inr t => argsT t
theorem args_len {s : T} {t : Tr} (h : PatR s (.inr t)) : (argsT t).length ≤ 3016 := by
  cases h with
  | ok g g1 g2 g3 =>
    obtain ⟨k1, k2, k3, k4, k5, k6⟩ := tree_marks g1 g2
    have := args_flat (o (Pn.pts s)) t
    omega
/-- What the document's Names needs of a text, and what it answers. -/
theorem names_facts {s : T} {r : Sum (Nat × Nat) Tr} (h : PatR s r) : (Dk.readS s).1.length ≤ 3016 ∧ (∀ m ∈ (Dk.readS s).1, m.at_ ≤ s.length) ∧ Dk.namesP s (Dk.readS s).1 = argsR r ∧ (Dk.readS s).2.1 = (errR r).1 ∧ (Dk.readS s).2.2 = (errR r).2 := by
  cases r with
  | inl x =>
    obtain ⟨er, a⟩ := x
    obtain ⟨h1, h2⟩ := read_bad h
    rw [h1]
    exact ⟨by simp, fun m hm => by simp at hm, rfl, rfl, rfl⟩
  | inr t =>
    have h1 := read_good h
    rw [h1]
    cases h with
    | ok g g1 g2 g3 =>
      obtain ⟨k1, k2, k3, k4, k5, k6⟩ := tree_marks g1 g2
      obtain ⟨hp, hf⟩ := pts_of s g1
      obtain ⟨w1, w2, w3, w4, w5, w6⟩ := whole_marks hp.cps g2
      refine ⟨by simp only []; omega, flat_at (fun a => by have := o_le (Pn.pts s) a; rw [hf] at this; exact this) t, ?_, rfl, rfl⟩
      show Dk.namesP s (flat (o (Pn.pts s)) t) = argsT t
      unfold Dk.namesP
      rw [names_flat t w5, List.map_map]
      conv => rhs; rw [← List.map_id (argsT t)]
      refine List.map_congr_left fun x hx => ?_
      have hx2 := args_in w6 x hx
      have := pts_ahead hp x.2 (Nat.le_of_lt hx2)
      rw [hf] at this
      obtain ⟨x1, x2⟩ := x
      simp only [Function.comp, id] at this ⊢
      rw [this]
end Go.Proofs.YtaepcfidpekflaaGreatDoor.Pg
namespace Go.Proofs.YtaepcfidpekflaaGreatDoor
open Go.RowKit Go.Maps Go.Shelf Pg

/-- What Walk answers. -/
def WalkSaid (s : Pg.T) (n : Int) (w : World) (e : Ending) (w' : World) : Prop := Below w.heap.size w w' ∧ ∃ r v u, PatR s r ∧ e = .returned (.tuple #[v, u, .int .i64 ((errR r).1 : Nat), .int .i64 ((errR r).2 : Nat)]) ∧ ∃ B, Two w' B v u ((argsR r).take (max 1 n.toNat))
theorem two_other {W : World} {B b : Nat} {v u x : Value} {d : List Ar} (h : Two W B v u d) (hb : b < B) : Two (W.setCell ⟨b, 0, none⟩ x) B v u d :=
  ⟨ownsRow_same h.names fun g hg => set_heap_other (p := ⟨b, 0, none⟩) (by have := (h.names.lt g hg).1; simp; omega), ownsRow_same h.places fun g hg => set_heap_other (p := ⟨b, 0, none⟩) (by have := (h.places.lt g hg).1; simp; omega), h.apart⟩
theorem wk_said {s : Pg.T} {b : Nat} {n : Int} {w w' : World} {e : Ending} (h : EachSaid b s (WkSt b n) (fun d => some (decide ((d.length : Int) < n))) w e w') : Below b w w' ∧ ∃ r, PatR s r ∧ match r with
  | .inl (er, a) => (∃ v, e = .returned v ∧ Flt w.heap.size w' v er a) ∧ WkSt b n ((argsR r).take (max 1 n.toNat)) w'
  | .inr _ => e = .returned .nilIface ∧ WkSt b n ((argsR r).take (max 1 n.toNat)) w' := by
  obtain ⟨hb, r, hr, hm⟩ := h
  refine ⟨hb, r, hr, ?_⟩
  cases r with
  | inl x =>
    obtain ⟨er, a⟩ := x
    exact ⟨hm.1, by simpa [argsR] using hm.2⟩
  | inr t =>
    rcases hm with ⟨rfl, h1, h2⟩ | ⟨q, y, h1, h2, h3, rfl, h4⟩
    · refine ⟨rfl, ?_⟩
      show WkSt b n ((argsT t).take _) w'
      rw [← walk_all h1]
      exact h2
    · refine ⟨rfl, ?_⟩
      show WkSt b n ((argsT t).take _) w'
      rw [← walk_take h1 h2 h3]
      exact h4
set_option maxHeartbeats 1600000 in
set_option maxRecDepth 100000 in
theorem plwalk_any (s : Pg.T) (n : Int) (w : World) (hE : w.cell? ⟨0, 0, none⟩ = some (.iface 208 (.agg #[.pointer (some ⟨9, 67, none⟩)]))) (hU : Lib.Utf8Tabs 1 2 w) (hs : s.length ≤ 1000000) :
    Calls Tryz.prog 41 #[.string ⟨s.toArray⟩, .int .i64 n] w fun e w' => WalkSaid s n w e w' := by
  obtain ⟨W3, hW3⟩ : ∃ W3, ((w.alloc (.cells #[.int .i64 n] 3)).alloc (.cells #[.slice none 0 0] 35)).alloc (.cells #[.slice none 0 0] 22) = W3 := ⟨_, rfl⟩
  have hbA : Below w.heap.size w W3 := by subst hW3; exact (((Below.refl _ w).alloc (Nat.le_refl _) _).alloc (by simp) _).alloc (by simp; omega) _
  have hst : WkSt w.heap.size n [] W3 := by
    subst hW3
    refine ⟨.slice none 0 0, .slice none 0 0, ?_, ?_, ?_, World.ownsRow_nil _ _ _ _, World.ownsRow_nil _ _ _ _, fun g h => by simp [Value.ownBlock] at h⟩
    · have := (Boxed.new (w.alloc (.cells #[.int .i64 n] 3)) 35 (.slice none 0 0)).alloc (.cells #[.slice none 0 0] 22)
      rw [World.size_alloc] at this
      exact this
    · have := Boxed.new ((w.alloc (.cells #[.int .i64 n] 3)).alloc (.cells #[.slice none 0 0] 35)) 22 (.slice none 0 0)
      simp only [World.size_alloc] at this
      exact this
    · exact ((Boxed.new w 3 (.int .i64 n)).alloc _).alloc _
  have ke := each_any s 4000 w.heap.size _ _ _ _ _ _ (wk_us w.heap.size n) W3 (Utf8Tabs_below hU hbA) hs hst (fun t h => by have := args_len h; omega)
  have HBA : Hid (Below w.heap.size w W3) := hbA
  have HE : Hid (w.cell? ⟨0, 0, none⟩ = some (.iface 208 (.agg #[.pointer (some ⟨9, 67, none⟩)]))) := hE
  clear hU hbA hst hE
  go_enter Tryz.func41, Tryz.ntmps41
  go_wp2_with fail
  refine ke.mono ?_
  rintro e w1 hq
  obtain ⟨hb1, r, hr, hm⟩ := wk_said hq
  have HB1 : Hid (Below w.heap.size w w1) := HBA.out.trans hb1
  have HR : Hid (PatR s r) := hr
  have hE1 := (HB1.out.cell (p := ⟨0, 0, none⟩) (cell_lt HE.out)).trans HE.out
  -- what lies behind the call of Tell
  have fin : ∀ (w2 : World) (v u : Value), WkSt w.heap.size n ((argsR r).take (max 1 n.toNat)) w1 → Below w1.heap.size w1 w2 → w1.cell? ⟨w.heap.size + 1, 0, none⟩ = some v → w1.cell? ⟨w.heap.size + 2, 0, none⟩ = some u → w2.cell? ⟨w.heap.size + 1, 0, none⟩ = some v ∧ w2.cell? ⟨w.heap.size + 1 + 1, 0, none⟩ = some u ∧ Two w2 (w.heap.size + 3) v u ((argsR r).take (max 1 n.toNat)) := by
    rintro w2 v u ⟨v', u', h1, h2, h3, h4⟩ hb2 hv hu
    rw [h1.cell] at hv
    rw [h2.cell] at hu
    cases hv
    cases hu
    exact ⟨(hb2.cell (p := ⟨w.heap.size + 1, 0, none⟩) h1.lt).trans h1.cell, (hb2.cell (p := ⟨w.heap.size + 2, 0, none⟩) h2.lt).trans h2.cell, h4.keep hb2⟩
  clear ke hq hb1 hr
  cases r with
  | inl x =>
    obtain ⟨er, a⟩ := x
    obtain ⟨⟨v, rfl, b, rfl, hbl, hrow⟩, hst⟩ := hm
    have kt := tell_fault b er a w1 hE1 hrow.1 (hrow.2.1 0) (hrow.2.1 1)
    clear hrow hE1 hbl
    go_wp2_with fail
    refine kt.mono ?_
    rintro e w2 ⟨rfl, hb2⟩
    have HB2 : Hid (Below w.heap.size w w2) := below_of HB1.out hb2
    obtain ⟨v, u, h1, h2, h3, h4⟩ := id hst
    obtain ⟨c1, c2, HT⟩ := fin w2 v u hst hb2 h1.cell h2.cell
    have HT2 : Hid (Two w2 (w.heap.size + 3) v u ((argsR (.inl (er, a))).take (max 1 n.toNat))) := HT
    obtain ⟨va, vn, vc, rfl⟩ := owns_form h4.names
    obtain ⟨ua, un, uc, rfl⟩ := owns_form h4.places
    clear kt hb2 hst h1 h2 h3 h4 fin HT
    go_wp2
    go_quiet (fail)
    go_wp2
    refine bodyPost_ret (v := .tuple #[.slice va vn vc, .slice ua un uc, .int .i64 er, .int .i64 a]) (by simp [results, Tryz.results41, go_sem]) rfl ?_
    exact ⟨by first | exact HB2.out | exact below_of HB2.out (drewB _ _), _, _, _, HR.out, rfl, _, by first | exact HT2.out | exact HT2.out.keep (drewB _ _)⟩
  | inr t =>
    obtain ⟨rfl, hst⟩ := hm
    have kt := tell_nil w1
    clear hE1
    go_wp2_with fail
    refine kt.mono ?_
    rintro e w2 ⟨rfl, hb2⟩
    have HB2 : Hid (Below w.heap.size w w2) := below_of HB1.out hb2
    obtain ⟨v, u, h1, h2, h3, h4⟩ := id hst
    obtain ⟨c1, c2, HT⟩ := fin w2 v u hst hb2 h1.cell h2.cell
    have HT2 : Hid (Two w2 (w.heap.size + 3) v u ((argsR (.inr t)).take (max 1 n.toNat))) := HT
    obtain ⟨va, vn, vc, rfl⟩ := owns_form h4.names
    obtain ⟨ua, un, uc, rfl⟩ := owns_form h4.places
    clear kt hb2 hst h1 h2 h3 h4 fin HT
    go_wp2
    go_quiet (fail)
    go_wp2
    refine bodyPost_ret (v := .tuple #[.slice va vn vc, .slice ua un uc, .int .i64 0, .int .i64 0]) (by simp [results, Tryz.results41, go_sem]) rfl ?_
    exact ⟨by first | exact HB2.out | exact below_of HB2.out (drewB _ _), _, _, _, HR.out, rfl, _, by first | exact HT2.out | exact HT2.out.keep (drewB _ _)⟩
end Go.Proofs.YtaepcfidpekflaaGreatDoor
namespace Go.Proofs.YtaepcfidpekflaaGreatDoor
open Go.RowKit Go.Maps Go.Shelf Pg

def SpSt (b : Nat) (s : Pg.T) (n : Int) (d : List Ar) (W : World) : Prop := Boxed W b 9 (.string ⟨s.toArray⟩) ∧ Boxed W (b + 1) 3 (.int .i64 n) ∧ Boxed W (b + 2) 3 (.int .i64 (d.length : Nat))
def SpOwn (b : Nat) (_ : World) (k : Nat) : Prop := k = b ∨ k = b + 1 ∨ k = b + 2
def SpGd (b : Nat) (W : World) : Prop := ∃ x y z, Boxed W b 9 x ∧ Boxed W (b + 1) 3 y ∧ Boxed W (b + 2) 3 z
def spOut (n : Int) (d : List Ar) : Option Bool := if (d.length : Int) = n then none else some true
theorem sp_gw (b : Nat) : Gw (SpOwn b) (SpGd b) where
  old W k hg ho := by
    obtain ⟨x, y, z, h1, h2, h3⟩ := hg
    rcases ho with rfl | rfl | rfl
    · exact h1.lt
    · exact h2.lt
    · exact h3.lt
  grows W W' hb hg := by
    obtain ⟨x, y, z, h1, h2, h3⟩ := hg
    exact ⟨⟨x, y, z, boxed_same h1 (hb.block _ h1.lt), boxed_same h2 (hb.block _ h2.lt), boxed_same h3 (hb.block _ h3.lt)⟩, fun k h => h⟩
  turns W l o o' hl ho hg := by
    obtain ⟨x, y, z, h1, h2, h3⟩ := hg
    have ne : ∀ {B : Nat} {t : TypeId} {y : Value}, Boxed W B t y → (W.putObj l o').heap[B]? = W.heap[B]? := fun {B t y} h => World.putObj_heap_other (fun e => by subst e; rw [show W.heap[B]? = _ from h] at hl; cases hl; cases ho)
    exact ⟨⟨x, y, z, boxed_same h1 (ne h1), boxed_same h2 (ne h2), boxed_same h3 (ne h3)⟩, fun k h => h⟩
set_option maxHeartbeats 1600000 in
set_option maxRecDepth 100000 in
theorem stop1_any (b : Nat) (s : Pg.T) (n : Int) (d : List Ar) (x : Ar) (W : World) (h : SpSt b s n d W) (hl : d.length < 4000) :
    Calls Tryz.prog 97 #[.string ⟨x.1.toArray⟩, .int .i64 (x.2 : Nat), .pointer (some ⟨b + 2, 0, none⟩), .pointer (some ⟨b + 1, 0, none⟩), .pointer (some ⟨b, 0, none⟩)] W fun e w' => (match spOut n (d ++ [x]) with | some b => e = .returned (.bool b) | none => ∃ u pv, e = .panicked [{ v := .iface u pv, recovered := false }]) ∧ w' = W.setCell ⟨b + 2, 0, none⟩ (.int .i64 ((d ++ [x]).length : Nat)) := by
  obtain ⟨h1, h2, h3⟩ := h
  have c1 := h1.cell
  have c2 := h2.cell
  have c3 := h3.cell
  have f3 := h3.frozen
  have s1 := (h1.other (B' := b + 2) (by omega) (.int .i64 ((d.length : Int) + 1))).cell
  have s2 := (h2.other (B' := b + 2) (by omega) (.int .i64 ((d.length : Int) + 1))).cell
  have s3 := (h3.set (.int .i64 ((d.length : Int) + 1))).cell
  clear h1 h2 h3
  by_cases he : ((d.length : Int) + 1) = n
  · have ho : spOut n (d ++ [x]) = none := by unfold spOut; rw [if_pos (by simp; exact he)]
    rw [ho]
    subst he
    go_enter Tryz.func97, Tryz.ntmps97
    go_wp2
    exact ⟨rfl, ⟨_, _, rfl⟩, by simp⟩
  · have ho : spOut n (d ++ [x]) = some true := by unfold spOut; rw [if_neg (by simp; exact he)]
    rw [ho]
    go_enter Tryz.func97, Tryz.ntmps97
    go_wp2
    go_ret
    exact ⟨rfl, by simp⟩
theorem sp_us (b : Nat) (s : Pg.T) (n : Int) : Us 4000 b 97 #[.pointer (some ⟨b + 2, 0, none⟩), .pointer (some ⟨b + 1, 0, none⟩), .pointer (some ⟨b, 0, none⟩)] (SpSt b s n) (SpOwn b) (SpGd b) (spOut n) where
  enters := enters_of Tryz.func97 (by kernel_rfl) rfl
  gw := sp_gw b
  gd d W h := ⟨_, _, _, h.1, h.2.1, h.2.2⟩
  base d W h := Nat.le_of_lt h.1.lt
  cells d W k h ho := by
    rcases ho with rfl | rfl | rfl
    · exact ⟨_, _, _, h.1⟩
    · exact ⟨_, _, _, h.2.1⟩
    · exact ⟨_, _, _, h.2.2⟩
  keep d W W' h _ hs := ⟨⟨boxed_same h.1 (hs _ (.inl rfl)), boxed_same h.2.1 (hs _ (.inr (.inl rfl))), boxed_same h.2.2 (hs _ (.inr (.inr rfl)))⟩, fun k h => h⟩
  call W d x h hl := (stop1_any b s n d x W h hl).mono (by
    rintro e w' ⟨h1, rfl⟩
    refine ⟨h1, ⟨h.1.other (by omega) _, h.2.1.other (by omega) _, h.2.2.set _⟩, ⟨by simp [World.setCell], fun k c T f hk ho => (set_heap_other (p := ⟨b + 2, 0, none⟩) (fun e => ho (.inr (.inr e)))).trans hk, fun k _ h => h⟩, KeepsOthers.setCell _ _ _, (Below.refl _ _).setCell (p := ⟨b + 2, 0, none⟩) (by simp) _⟩)
/-- How often Stop's function is called, and the error's number. -/
def stopS (n : Int) (l : List Ar) : Nat × Nat := if 1 ≤ n ∧ n ≤ l.length then (n.toNat, 15) else (l.length, 0)
theorem stop_at {n : Int} {l q : List Ar} {y : Ar} (hp : q ++ [y] <+: l) (hne : spOut n (q ++ [y]) ≠ some true) : spOut n (q ++ [y]) = none ∧ stopS n l = ((q ++ [y]).length, 15) := by
  have h1 : ((q ++ [y]).length : Int) = n := by
    unfold spOut at hne
    by_cases h : ((q ++ [y]).length : Int) = n
    · exact h
    · rw [if_neg h] at hne; exact absurd rfl hne
  have h2 := hp.length_le
  refine ⟨by unfold spOut; rw [if_pos h1], ?_⟩
  unfold stopS
  rw [if_pos ⟨by rw [← h1]; simp; omega, by omega⟩, ← h1]
  simp
theorem stop_all {n : Int} {l : List Ar} (h : Okp (spOut n) l) : stopS n l = (l.length, 0) := by
  unfold stopS
  rw [if_neg]
  rintro ⟨h1, h2⟩
  have h3 : n.toNat - 1 < l.length := by omega
  have h4 : l.take (n.toNat - 1) ++ [l[n.toNat - 1]] = l.take n.toNat := by
    rw [List.take_append_getElem]
    congr 1
    omega
  have h5 := h (l.take (n.toNat - 1)) l[n.toNat - 1] (by rw [h4]; exact List.take_prefix _ _)
  unfold spOut at h5
  rw [h4, if_pos (by rw [List.length_take]; omega)] at h5
  cases h5
end Go.Proofs.YtaepcfidpekflaaGreatDoor
namespace Go.Proofs.YtaepcfidpekflaaGreatDoor
open Go.RowKit Go.Maps Go.Shelf Pg

/-- What Stop answers: how often, and the error's number. -/
def stopR (n : Int) : Sum (Nat × Nat) Pg.Tr → Nat × Nat
  | .inl (er, _) => (0, er)
  | .inr t => stopS n (argsT t)
def StopSaid (s : Pg.T) (n : Int) (w : World) (e : Ending) (w' : World) : Prop := Below w.heap.size w w' ∧ ∃ r, PatR s r ∧ e = .returned (.tuple #[.int .i64 ((stopR n r).1 : Nat), .int .i64 ((stopR n r).2 : Nat)])
set_option maxHeartbeats 1600000 in
set_option maxRecDepth 100000 in
theorem plstop_any (s : Pg.T) (n : Int) (w : World) (hE : w.cell? ⟨0, 0, none⟩ = some (.iface 208 (.agg #[.pointer (some ⟨9, 67, none⟩)]))) (hU : Lib.Utf8Tabs 1 2 w) (hs : s.length ≤ 1000000) :
    Calls Tryz.prog 68 #[.string ⟨s.toArray⟩, .int .i64 n] w fun e w' => StopSaid s n w e w' := by
  obtain ⟨W3, hW3⟩ : ∃ W3, ((w.alloc (.cells #[.string ⟨s.toArray⟩] 9)).alloc (.cells #[.int .i64 n] 3)).alloc (.cells #[.int .i64 0] 3) = W3 := ⟨_, rfl⟩
  have hbA : Below w.heap.size w W3 := by subst hW3; exact (((Below.refl _ w).alloc (Nat.le_refl _) _).alloc (by simp) _).alloc (by simp; omega) _
  have hst : SpSt w.heap.size s n [] W3 := by
    subst hW3
    refine ⟨((Boxed.new w 9 (.string ⟨s.toArray⟩)).alloc _).alloc _, ?_, ?_⟩
    · have := (Boxed.new (w.alloc (.cells #[.string ⟨s.toArray⟩] 9)) 3 (.int .i64 n)).alloc (.cells #[.int .i64 0] 3)
      rw [World.size_alloc] at this
      exact this
    · have := Boxed.new ((w.alloc (.cells #[.string ⟨s.toArray⟩] 9)).alloc (.cells #[.int .i64 n] 3)) 3 (.int .i64 0)
      simp only [World.size_alloc] at this
      exact this
  have c3 : W3.cell? ⟨w.heap.size + 1 + 1, 0, none⟩ = some (.int .i64 0) := hst.2.2.cell
  have f3 : W3.frozen? ⟨w.heap.size + 1 + 1, 0, none⟩ = false := hst.2.2.frozen
  obtain ⟨W4, hW4⟩ : ∃ W4, W3.setCell ⟨w.heap.size + 1 + 1, 0, none⟩ (.int .i64 0) = W4 := ⟨_, rfl⟩
  have hbB : Below w.heap.size w W4 := by subst hW4; exact hbA.setCell (p := ⟨w.heap.size + 1 + 1, 0, none⟩) (by simp; omega) _
  have hst4 : SpSt w.heap.size s n [] W4 := by subst hW4; exact ⟨hst.1.other (by omega) _, hst.2.1.other (by omega) _, hst.2.2.set _⟩
  have c4 := hst4.1.cell
  have ke := each_any s 4000 w.heap.size _ _ _ _ _ _ (sp_us w.heap.size s n) W4 (Utf8Tabs_below hU hbB) hs hst4 (fun t h => by have := args_len h; omega)
  have HBA : Hid (Below w.heap.size w W4) := hbB
  have HE : Hid (w.cell? ⟨0, 0, none⟩ = some (.iface 208 (.agg #[.pointer (some ⟨9, 67, none⟩)]))) := hE
  clear hU hbA hbB hst hst4 hE
  go_enter Tryz.func68, Tryz.ntmps68
  go_wp2_with fail
  refine ke.mono ?_
  rintro e w1 ⟨hb1, r, hr, hm⟩
  have HB1 : Hid (Below w.heap.size w w1) := HBA.out.trans hb1
  have HR : Hid (PatR s r) := hr
  have hE1 := (HB1.out.cell (p := ⟨0, 0, none⟩) (cell_lt HE.out)).trans HE.out
  clear ke hb1 hr
  -- what lies behind the call of Tell
  have fin : ∀ (w2 : World) (l : List Ar), SpSt w.heap.size s n l w1 → Below w1.heap.size w1 w2 → w2.cell? ⟨w.heap.size + 1 + 1, 0, none⟩ = some (.int .i64 (l.length : Nat)) := fun w2 l h hb2 => (hb2.cell (p := ⟨w.heap.size + 2, 0, none⟩) h.2.2.lt).trans h.2.2.cell
  cases r with
  | inl x =>
    obtain ⟨er, a⟩ := x
    obtain ⟨⟨v, rfl, b, rfl, hbl, hrow⟩, hst⟩ := hm
    have kt := tell_fault b er a w1 hE1 hrow.1 (hrow.2.1 0) (hrow.2.1 1)
    clear hrow hE1 hbl
    go_wp2_with fail
    refine kt.mono ?_
    rintro e w2 ⟨rfl, hb2⟩
    have HB2 : Hid (Below w.heap.size w w2) := below_of HB1.out hb2
    have c2 := fin w2 _ hst hb2
    clear kt hb2 hst fin
    go_wp2
    refine bodyPost_ret (v := .tuple #[.int .i64 0, .int .i64 er]) (by simp [results, Tryz.results68, go_sem]) rfl ?_
    exact ⟨by first | exact HB2.out | exact below_of HB2.out (drewB _ _), _, HR.out, rfl⟩
  | inr t =>
    rcases hm with ⟨rfl, h1, hst⟩ | ⟨q, y, h1, h2, h3, rfl, hst⟩
    · have hso := stop_all h1
      have kt := tell_nil w1
      clear hE1
      go_wp2_with fail
      refine kt.mono ?_
      rintro e w2 ⟨rfl, hb2⟩
      have HB2 : Hid (Below w.heap.size w w2) := below_of HB1.out hb2
      have c2 := fin w2 _ hst hb2
      clear kt hb2 hst fin
      generalize hL : (argsT t).length = L at *
      go_wp2
      refine bodyPost_ret (v := .tuple #[.int .i64 L, .int .i64 0]) (by simp [results, Tryz.results68, go_sem]) rfl ?_
      exact ⟨by first | exact HB2.out | exact below_of HB2.out (drewB _ _), _, HR.out, by show _ = Ending.returned (.tuple #[.int .i64 ((stopS n (argsT t)).1 : Nat), .int .i64 ((stopS n (argsT t)).2 : Nat)]); rw [hso]; rfl⟩
    · obtain ⟨hno, hso⟩ := stop_at h1 h3
      rw [hno]
      unfold errU
      have kt := tell_errno 15 w1 hE1
      clear hE1
      go_wp2_with fail
      refine kt.mono ?_
      rintro e w2 ⟨rfl, hb2⟩
      have HB2 : Hid (Below w.heap.size w w2) := below_of HB1.out hb2
      have c2 := fin w2 _ hst hb2
      clear kt hb2 hst fin
      generalize hL : (q ++ [y]).length = L at *
      go_wp2
      refine bodyPost_ret (v := .tuple #[.int .i64 L, .int .i64 15]) (by simp [results, Tryz.results68, go_sem]) rfl ?_
      exact ⟨by first | exact HB2.out | exact below_of HB2.out (drewB _ _), _, HR.out, by show _ = Ending.returned (.tuple #[.int .i64 ((stopS n (argsT t)).1 : Nat), .int .i64 ((stopS n (argsT t)).2 : Nat)]); rw [hso]; rfl⟩
end Go.Proofs.YtaepcfidpekflaaGreatDoor
namespace Go.Proofs.YtaepcfidpekflaaGreatDoor
open Go.RowKit Go.Maps Go.Shelf Pg

/-- A row that is read. -/
def Rv (w : World) (v : Value) (xs : List Value) : Prop := ∃ a c, v = .slice a xs.length c ∧ xs.length ≤ c ∧ ∀ j, j < xs.length → ∃ g, a = some ⟨g, 0, none⟩ ∧ g < w.heap.size ∧ w.cell? ⟨g, j, none⟩ = xs[j]?
theorem Rv.keep {w w' : World} {v : Value} {xs : List Value} (h : Rv w v xs) (hb : Below w.heap.size w w') : Rv w' v xs := by
  obtain ⟨a, c, h1, h2, h3⟩ := h
  refine ⟨a, c, h1, h2, fun j hj => ?_⟩
  obtain ⟨g, h4, h5, h6⟩ := h3 j hj
  exact ⟨g, h4, Nat.lt_of_lt_of_le h5 hb.size, (hb.cell (p := ⟨g, j, none⟩) h5).trans h6⟩
theorem Rv.take {w : World} {a : Option Addr} {n c m : Nat} {xs : List Value} (h : Rv w (.slice a n c) xs) (hm : m ≤ xs.length) : Rv w (.slice a m c) (xs.take m) := by
  obtain ⟨a', c', h1, h2, h3⟩ := h
  cases h1
  have e : (xs.take m).length = m := by rw [List.length_take]; omega
  refine ⟨a, c, by rw [e], by omega, fun j hj => ?_⟩
  obtain ⟨g, h4, h5, h6⟩ := h3 j (by omega)
  exact ⟨g, h4, h5, by rw [h6, List.getElem?_take, if_pos (by omega)]⟩
theorem rv_of {w : World} {B n : Nat} {e : TypeId} {v : Value} {xs : List Value} (h : w.ownsRow B e 1 v n xs) (hl : xs.length = n) : Rv w v xs := by
  obtain ⟨a, m, c, rfl⟩ := owns_form h
  have hm := ownsRow_len h
  subst hm
  rcases id h.2 with ⟨h1, h2⟩ | ⟨g, cap, cur, h1, h2, h3, h4⟩
  · cases h1
    exact ⟨none, 0, by rw [hl], by omega, fun j hj => by omega⟩
  · cases h1
    refine ⟨_, _, by rw [hl], by have := h4.1; omega, fun j hj => ⟨g, rfl, lt_heap h3, h.cellAt j (by omega)⟩⟩
theorem Two.rn {w : World} {B : Nat} {v u : Value} {l : List Ar} (h : Two w B v u l) : Rv w v (strs (l.map (·.1))) := rv_of h.names (by simp [strs])
theorem Two.rp {w : World} {B : Nat} {v u : Value} {l : List Ar} (h : Two w B v u l) : Rv w u (l.map fun x => ixV x.2) := rv_of h.places (by simp)
set_option maxHeartbeats 1600000 in
set_option maxRecDepth 100000 in
theorem same_any (w : World) (v u : Value) (xs : List Pg.T) (hl : xs.length ≤ 4000) (hv : Rv w v (strs xs)) (hu : Rv w u (strs xs)) :
    Calls Tryz.prog 43 #[v, u] w fun e w' => e = .returned (.bool true) ∧ Below w.heap.size w w' := by
  obtain ⟨va, vc, rfl, hvc, hv⟩ := hv
  obtain ⟨ua, uc, rfl, huc, hu⟩ := hu
  have hsl : (strs xs).length = xs.length := by simp [strs]
  rw [hsl] at hv hu ⊢
  clear hvc huc hsl
  go_enter Tryz.func43, Tryz.ntmps43
  go_wp2_with fail
  go_loopg [5] xs.length (fun g i wr => ∃ n : Nat, g + n = xs.length ∧ i = .int .i64 n ∧ Below w.heap.size w wr)
  case atStart => exact ⟨0, by omega, rfl, Below.refl _ _⟩
  case round =>
    obtain ⟨n, hgn, rfl, hb2⟩ := hrel
    by_cases hlt : n < xs.length
    · have hlt' : (n : Int) < xs.length := by omega
      obtain ⟨g, rfl, hg, cg⟩ := hv n hlt
      obtain ⟨g', rfl, hg', cg'⟩ := hu n hlt
      have e : (strs xs)[n]? = some (.string ⟨xs[n].toArray⟩) := by simp [strs, hlt]
      rw [e] at cg cg'
      generalize xs[n] = X at *
      have d1 := (hb2.cell (p := ⟨g, n, none⟩) hg).trans cg
      have d2 := (hb2.cell (p := ⟨g', n, none⟩) hg').trans cg'
      clear hv hu e cg cg'
      go_wp2
      go_quiet (fail)
      go_wp2
      go_roundg (gk - 1)
      case measure => omega
      case rel => exact ⟨n + 1, by omega, by go_num, by first | exact hb2 | exact below_of hb2 (drewB _ _)⟩
    · have hlt' : ¬ ((n : Int) < xs.length) := by omega
      clear hv hu
      go_wp2
      go_ret
      exact ⟨rfl, hb2⟩
end Go.Proofs.YtaepcfidpekflaaGreatDoor
namespace Go.Proofs.YtaepcfidpekflaaGreatDoor
open Go.RowKit Go.Maps Go.Shelf Pg

theorem names_row {w w' : World} {l : List (Pr.T × Nat)} {er pl : Nat} {e : Ending} (h : NamesSaid w w' l er pl e) : ∃ va vc ua uc, e = .returned (.tuple #[.slice va l.length vc, .slice ua l.length uc, .int .i64 (er : Nat), .int .i64 (pl : Nat)]) ∧ Rv w' (.slice va l.length vc) (strs (l.map (·.1))) ∧ Rv w' (.slice ua l.length uc) (l.map fun x => ixV x.2) ∧ Below w.heap.size w w' := by
  obtain ⟨v, u, B, h1, h2, h3, h4⟩ := h
  obtain ⟨va, vn, vc, rfl⟩ := owns_form h3.names
  obtain ⟨ua, un, uc, rfl⟩ := owns_form h3.places
  have e1 := ownsRow_len h3.names
  have e2 := ownsRow_len h3.places
  subst e1
  subst e2
  exact ⟨va, vc, ua, uc, h1, h3.rn, h3.rp, h4⟩
theorem stopS_in {n : Int} {l : List Ar} (h1 : 1 ≤ n) (h2 : n ≤ l.length) : stopS n l = (n.toNat, 15) := by unfold stopS; rw [if_pos ⟨h1, h2⟩]
theorem stopS_out {n : Int} {l : List Ar} (h2 : ¬ n ≤ l.length) : stopS n l = (l.length, 0) := by unfold stopS; rw [if_neg (fun h => h2 h.2)]
set_option maxHeartbeats 1600000 in
set_option maxRecDepth 100000 in
theorem stopped_any (s : Pg.T) (n : Int) (f : Nat) (hn : 1 ≤ n) (w : World) (hE : w.cell? ⟨0, 0, none⟩ = some (.iface 208 (.agg #[.pointer (some ⟨9, 67, none⟩)]))) (hU : Lib.Utf8Tabs 1 2 w) (hs : s.length ≤ 65536) {r : Sum (Nat × Nat) Pg.Tr} (hr : PatR s r) (hf : f = (errR r).1) :
    Calls Tryz.prog 44 #[.string ⟨s.toArray⟩, .int .i64 n, .int .i64 (f : Nat)] w fun e w' => e = .returned (.bool true) ∧ Below w.heap.size w w' := by
  obtain ⟨f1, f2, f3, f4, f5⟩ := names_facts hr
  have kn := knames_any w s hs (read_ok hr) f1 f2
  have HF : Hid (f = (Dk.readS s).2.1) := hf.trans f4.symm
  have HE : Hid (w.cell? ⟨0, 0, none⟩ = some (.iface 208 (.agg #[.pointer (some ⟨9, 67, none⟩)]))) := hE
  have HU : Hid (Lib.Utf8Tabs 1 2 w) := hU
  clear f1 f2 f3 f4 f5 hr hf hE hU
  go_enter Tryz.func44, Tryz.ntmps44
  go_wp2_with fail
  refine kn.mono ?_
  rintro e w1 hq
  obtain ⟨va, vc, ua, uc, rfl, -, -, hb1⟩ := names_row hq
  have HB1 : Hid (Below w.heap.size w w1) := hb1
  have ks := plstop_any s n w1 ((hb1.cell (p := ⟨0, 0, none⟩) (cell_lt HE.out)).trans HE.out) (Utf8Tabs_below HU.out hb1) (by omega)
  clear kn hq hb1
  generalize hL : (Dk.namesP s (Dk.readS s).1).length = L at *
  generalize (Dk.readS s).2.2 = P at *
  generalize hX : (Dk.readS s).2.1 = X at *
  go_wp2_with fail
  refine ks.mono ?_
  rintro e w2 ⟨hb2, r, hr, rfl⟩
  have HB2 : Hid (Below w.heap.size w w2) := below_of HB1.out hb2
  obtain ⟨f1, f2, f3, f4, f5⟩ := names_facts hr
  have hfx : f = X := HF.out
  rw [f3] at hL
  rw [f4] at hX
  clear ks hb2 f1 f2 f3 f4 f5 HF HE HU
  subst hfx
  have hc : (f = 0 ∧ n ≤ L ∧ stopR n r = (n.toNat, 15)) ∨ ((f ≠ 0 ∨ ¬ n ≤ L) ∧ stopR n r = (L, f)) := by
    cases r with
    | inl x =>
      obtain ⟨er, a⟩ := x
      have h2 := (read_bad hr).2
      simp only [errR] at hX
      simp only [argsR] at hL
      subst hX
      subst hL
      exact .inr ⟨.inl h2, rfl⟩
    | inr t =>
      simp only [errR] at hX
      simp only [argsR] at hL
      subst hX
      subst hL
      by_cases h : n ≤ (argsT t).length
      · exact .inl ⟨rfl, h, stopS_in hn h⟩
      · exact .inr ⟨.inr h, stopS_out h⟩
  clear hX hL hr
  rcases hc with ⟨rfl, h1, h2⟩ | ⟨h1, h2⟩
  · rw [h2]
    have h3 : (n.toNat : Int) = n := by omega
    rw [show (((n.toNat, 15) : Nat × Nat).1 : Int) = n from h3]
    clear h2 h3
    go_wp2
    go_ret
    exact ⟨rfl, HB2.out⟩
  · rw [h2]
    clear h2
    rcases h1 with h1 | h1
    · go_wp2
      go_ret
      exact ⟨rfl, HB2.out⟩
    · by_cases h0 : f = 0
      · subst h0
        go_wp2
        go_ret
        exact ⟨rfl, HB2.out⟩
      · go_wp2
        go_ret
        exact ⟨rfl, HB2.out⟩
end Go.Proofs.YtaepcfidpekflaaGreatDoor
namespace Go.Proofs.YtaepcfidpekflaaGreatDoor
open Go.RowKit Go.Maps Go.Shelf Pg

theorem Rv.at {w : World} {a : Option Addr} {n c : Nat} {xs : List Value} (h : Rv w (.slice a n c) xs) (j : Nat) (hj : j < xs.length) : ∃ g, a = some ⟨g, 0, none⟩ ∧ g < w.heap.size ∧ w.cell? ⟨g, j, none⟩ = xs[j]? := by
  obtain ⟨a', c', h1, h2, h3⟩ := h
  cases h1
  exact h3 j hj
set_option maxHeartbeats 1600000 in
set_option maxRecDepth 100000 in
theorem leach_any (s : Pg.T) (n : Int) (w : World) (hE : w.cell? ⟨0, 0, none⟩ = some (.iface 208 (.agg #[.pointer (some ⟨9, 67, none⟩)]))) (hU : Lib.Utf8Tabs 1 2 w) (hs : s.length ≤ 65536) :
    Calls Tryz.prog 24 #[.string ⟨s.toArray⟩, .int .i64 n] w fun e w' => e = .returned (.bool true) ∧ Below w.heap.size w w' := by
  have kw := plwalk_any s n w hE hU (by omega)
  have HE : Hid (w.cell? ⟨0, 0, none⟩ = some (.iface 208 (.agg #[.pointer (some ⟨9, 67, none⟩)]))) := hE
  have HU : Hid (Lib.Utf8Tabs 1 2 w) := hU
  clear hE hU
  go_enter Tryz.func24, Tryz.ntmps24
  go_wp2_with fail
  refine kw.mono ?_
  rintro e w1 ⟨hb1, r, v, u, hr, rfl, B, hT⟩
  obtain ⟨f1, f2, f3, f4, f5⟩ := names_facts hr
  have kn := knames_any w1 s hs (read_ok hr) f1 f2
  rw [f3, f4, f5] at kn
  have HB1 : Hid (Below w.heap.size w w1) := hb1
  have HR : Hid (PatR s r) := hr
  have hrn := hT.rn
  have hrp := hT.rp
  obtain ⟨va, vn, vc, rfl⟩ := owns_form hT.names
  obtain ⟨ua, un, uc, rfl⟩ := owns_form hT.places
  have E1 : Hid (vn = ((argsR r).take (max 1 n.toNat)).length) := ownsRow_len hT.names
  have E2 : Hid (un = ((argsR r).take (max 1 n.toNat)).length) := ownsRow_len hT.places
  have hl : (argsR r).length ≤ 3016 := by
    cases r with
    | inl x => simp [argsR]
    | inr t => exact args_len hr
  clear kw hT f1 f2 f3 f4 f5 hb1 hr
  generalize hX : (errR r).1 = X at *
  generalize (errR r).2 = Y at *
  generalize argsR r = A at *
  go_wp2_with fail
  refine kn.mono ?_
  rintro e w2 hq
  obtain ⟨ka, kc, pa, pc, rfl, hkn, hkp, hb2⟩ := names_row hq
  have HB2 : Hid (Below w.heap.size w w2) := below_of HB1.out hb2
  -- the rest, of what both lists have become
  have HRn : Hid (Rv w2 (.slice va vn vc) (strs ((A.take (max 1 n.toNat)).map (·.1)))) := hrn.keep hb2
  have HRp : Hid (Rv w2 (.slice ua un uc) ((A.take (max 1 n.toNat)).map fun x => ixV x.2)) := hrp.keep hb2
  have HKn : Hid (Rv w2 (.slice ka A.length kc) (strs (A.map (·.1)))) := hkn
  have HKp : Hid (Rv w2 (.slice pa A.length pc) (A.map fun x => ixV x.2)) := hkp
  have hkc : A.length ≤ kc := by
    obtain ⟨a', c', h1, h2, _⟩ := hkn
    simp only [Value.slice.injEq] at h1
    have : (strs (A.map (·.1))).length = A.length := by simp [strs]
    omega
  have hpc : A.length ≤ pc := by
    obtain ⟨a', c', h1, h2, _⟩ := hkp
    simp only [Value.slice.injEq] at h1
    have : (A.map fun x => ixV x.2).length = A.length := by simp
    omega
  clear kn hq hrn hrp hkn hkp hb2
  have e1 := E1.out
  have e2 := E2.out
  clear E1 E2
  obtain ⟨M, hM, hM1, hM2⟩ : ∃ M : Nat, max 1 n.toNat = M ∧ 1 ≤ M ∧ (if n < 1 then (1 : Int) else n) = M := ⟨_, rfl, by omega, by split <;> omega⟩
  rw [hM] at HRn HRp e1 e2
  clear hM
  by_cases hc : M < A.length
  · have hK : (A.take M).length = M := by rw [List.length_take]; omega
    have hK1 : M = vn := (e1.trans hK).symm
    have hK2 : M = un := (e2.trans hK).symm
    subst hK1
    subst hK2
    clear e1 e2
    have HKn2 : Hid (Rv w2 (.slice ka M kc) (strs ((A.take M).map (·.1)))) := by
      have := HKn.out.take (m := M) (by simp [strs]; omega)
      rw [show (strs (A.map (·.1))).take M = strs ((A.take M).map (·.1)) by simp [strs, List.map_take]] at this
      exact this
    have HKp2 : Hid (Rv w2 (.slice pa M pc) ((A.take M).map fun x => ixV x.2)) := by
      have := HKp.out.take (m := M) (by simp; omega)
      rw [← List.map_take] at this
      exact this
    clear HKn HKp
    by_cases hn : n < 1
    · rw [if_pos hn] at hM2
      obtain rfl : M = 1 := by omega
      clear hM1 hM2
      have hc' : (1 : Int) < A.length := by omega
      generalize A.take 1 = D at *
      have ks := same_any w2 _ _ (D.map (·.1)) (by simp; omega) HRn.out HKn2.out
      go_wp2_with fail
      refine ks.mono ?_
      rintro e w3 ⟨rfl, hb3⟩
      have HB3 : Hid (Below w.heap.size w w3) := below_of HB2.out hb3
      have HP : Hid (Rv w3 (.slice ua 1 uc) (D.map fun x => ixV x.2)) := HRp.out.keep hb3
      have HQ : Hid (Rv w3 (.slice pa 1 pc) (D.map fun x => ixV x.2)) := HKp2.out.keep hb3
      clear ks hb3 HRn HRp HKn2 HKp2
      go_wp2_with fail
      go_loopg [13, 14] D.length (fun g o i wr => ∃ k : Nat, o = .bool true ∧ g + k = D.length ∧ i = .int .i64 k ∧ Below w3.heap.size w3 wr)
      case atStart => exact ⟨0, rfl, by omega, rfl, Below.refl _ _⟩
      case round =>
        obtain ⟨k, rfl, hgk, rfl, hb4⟩ := hrel
        by_cases hlt : k < D.length
        · have hlt' : (k : Int) < (1 : Nat) := by omega
          obtain ⟨g, e3, hg, cg⟩ := HP.out.at k (by simpa using hlt)
          obtain ⟨g', e4, hg', cg'⟩ := HQ.out.at k (by simpa using hlt)
          subst e3
          subst e4
          have e : (D.map fun x => ixV x.2)[k]? = some (.int .i64 (D[k].2 : Nat)) := by simp [hlt, ixV]
          rw [e] at cg cg'
          generalize D[k].2 = Z at *
          have d1 := (hb4.cell (p := ⟨g, k, none⟩) hg).trans cg
          have d2 := (hb4.cell (p := ⟨g', k, none⟩) hg').trans cg'
          clear e cg cg'
          go_wp2
          go_quiet (fail)
          go_wp2
          go_roundg (gk - 1)
          case measure => omega
          case rel => exact ⟨k + 1, by simp, by omega, by go_num, by first | exact hb4 | exact below_of hb4 (drewB _ _)⟩
        · have hlt' : ¬ ((k : Int) < (1 : Nat)) := by omega
          have HB4 : Hid (Below w.heap.size w wr) := below_of HB3.out hb4
          have kt := stopped_any s 1 X (by omega) wr ((HB4.out.cell (p := ⟨0, 0, none⟩) (cell_lt HE.out)).trans HE.out) (Utf8Tabs_below HU.out HB4.out) hs HR.out hX.symm
          clear hb4 HP HQ
          go_wp2_with fail
          refine kt.mono ?_
          rintro e w5 ⟨rfl, hb5⟩
          clear kt
          go_wp2
          go_ret
          exact ⟨rfl, below_of HB4.out hb5⟩
    · rw [if_neg hn] at hM2
      subst hM2
      have hc' : (M : Int) < A.length := by omega
      generalize A.take M = D at *
      have ks := same_any w2 _ _ (D.map (·.1)) (by simp; omega) HRn.out HKn2.out
      go_wp2_with fail
      refine ks.mono ?_
      rintro e w3 ⟨rfl, hb3⟩
      have HB3 : Hid (Below w.heap.size w w3) := below_of HB2.out hb3
      have HP : Hid (Rv w3 (.slice ua M uc) (D.map fun x => ixV x.2)) := HRp.out.keep hb3
      have HQ : Hid (Rv w3 (.slice pa M pc) (D.map fun x => ixV x.2)) := HKp2.out.keep hb3
      clear ks hb3 HRn HRp HKn2 HKp2
      go_wp2_with fail
      go_loopg [13, 14] D.length (fun g o i wr => ∃ k : Nat, o = .bool true ∧ g + k = D.length ∧ i = .int .i64 k ∧ Below w3.heap.size w3 wr)
      case atStart => exact ⟨0, rfl, by omega, rfl, Below.refl _ _⟩
      case round =>
        obtain ⟨k, rfl, hgk, rfl, hb4⟩ := hrel
        by_cases hlt : k < D.length
        · have hlt' : (k : Int) < (M : Nat) := by omega
          obtain ⟨g, e3, hg, cg⟩ := HP.out.at k (by simpa using hlt)
          obtain ⟨g', e4, hg', cg'⟩ := HQ.out.at k (by simpa using hlt)
          subst e3
          subst e4
          have e : (D.map fun x => ixV x.2)[k]? = some (.int .i64 (D[k].2 : Nat)) := by simp [hlt, ixV]
          rw [e] at cg cg'
          generalize D[k].2 = Z at *
          have d1 := (hb4.cell (p := ⟨g, k, none⟩) hg).trans cg
          have d2 := (hb4.cell (p := ⟨g', k, none⟩) hg').trans cg'
          clear e cg cg'
          go_wp2
          go_quiet (fail)
          go_wp2
          go_roundg (gk - 1)
          case measure => omega
          case rel => exact ⟨k + 1, by simp, by omega, by go_num, by first | exact hb4 | exact below_of hb4 (drewB _ _)⟩
        · have hlt' : ¬ ((k : Int) < (M : Nat)) := by omega
          have HB4 : Hid (Below w.heap.size w wr) := below_of HB3.out hb4
          have kt := stopped_any s (M : Int) X (by omega) wr ((HB4.out.cell (p := ⟨0, 0, none⟩) (cell_lt HE.out)).trans HE.out) (Utf8Tabs_below HU.out HB4.out) hs HR.out hX.symm
          clear hb4 HP HQ
          go_wp2_with fail
          refine kt.mono ?_
          rintro e w5 ⟨rfl, hb5⟩
          clear kt
          go_wp2
          go_ret
          exact ⟨rfl, below_of HB4.out hb5⟩
  · have hK : A.take M = A := List.take_of_length_le (by omega)
    rw [hK] at HRn HRp e1 e2
    subst e1
    subst e2
    have HKn2 := HKn
    have HKp2 := HKp
    clear HKn HKp hK
    obtain ⟨D, hDA⟩ : ∃ D, D = A := ⟨_, rfl⟩
    subst hDA
    have ks := same_any w2 _ _ (D.map (·.1)) (by simp; omega) HRn.out HKn2.out
    by_cases hn : n < 1
    · rw [if_pos hn] at hM2
      obtain rfl : M = 1 := by omega
      clear hM1 hM2
      have hc' : ¬ ((1 : Int) < D.length) := by omega
      go_wp2_with fail
      refine ks.mono ?_
      rintro e w3 ⟨rfl, hb3⟩
      have HB3 : Hid (Below w.heap.size w w3) := below_of HB2.out hb3
      have HP : Hid (Rv w3 (.slice ua D.length uc) (D.map fun x => ixV x.2)) := HRp.out.keep hb3
      have HQ : Hid (Rv w3 (.slice pa D.length pc) (D.map fun x => ixV x.2)) := HKp2.out.keep hb3
      clear ks hb3 HRn HRp HKn2 HKp2
      go_wp2_with fail
      go_loopg [13, 14] D.length (fun g o i wr => ∃ k : Nat, o = .bool true ∧ g + k = D.length ∧ i = .int .i64 k ∧ Below w3.heap.size w3 wr)
      case atStart => exact ⟨0, rfl, by omega, rfl, Below.refl _ _⟩
      case round =>
        obtain ⟨k, rfl, hgk, rfl, hb4⟩ := hrel
        by_cases hlt : k < D.length
        · have hlt' : (k : Int) < (D.length : Nat) := by omega
          obtain ⟨g, e3, hg, cg⟩ := HP.out.at k (by simpa using hlt)
          obtain ⟨g', e4, hg', cg'⟩ := HQ.out.at k (by simpa using hlt)
          subst e3
          subst e4
          have e : (D.map fun x => ixV x.2)[k]? = some (.int .i64 (D[k].2 : Nat)) := by simp [hlt, ixV]
          rw [e] at cg cg'
          generalize D[k].2 = Z at *
          have d1 := (hb4.cell (p := ⟨g, k, none⟩) hg).trans cg
          have d2 := (hb4.cell (p := ⟨g', k, none⟩) hg').trans cg'
          clear e cg cg'
          go_wp2
          go_quiet (fail)
          go_wp2
          go_roundg (gk - 1)
          case measure => omega
          case rel => exact ⟨k + 1, by simp, by omega, by go_num, by first | exact hb4 | exact below_of hb4 (drewB _ _)⟩
        · have hlt' : ¬ ((k : Int) < (D.length : Nat)) := by omega
          have HB4 : Hid (Below w.heap.size w wr) := below_of HB3.out hb4
          have kt := stopped_any s 1 X (by omega) wr ((HB4.out.cell (p := ⟨0, 0, none⟩) (cell_lt HE.out)).trans HE.out) (Utf8Tabs_below HU.out HB4.out) hs HR.out hX.symm
          clear hb4 HP HQ
          go_wp2_with fail
          refine kt.mono ?_
          rintro e w5 ⟨rfl, hb5⟩
          clear kt
          go_wp2
          go_ret
          exact ⟨rfl, below_of HB4.out hb5⟩
    · rw [if_neg hn] at hM2
      subst hM2
      have hc' : ¬ ((M : Int) < D.length) := by omega
      go_wp2_with fail
      refine ks.mono ?_
      rintro e w3 ⟨rfl, hb3⟩
      have HB3 : Hid (Below w.heap.size w w3) := below_of HB2.out hb3
      have HP : Hid (Rv w3 (.slice ua D.length uc) (D.map fun x => ixV x.2)) := HRp.out.keep hb3
      have HQ : Hid (Rv w3 (.slice pa D.length pc) (D.map fun x => ixV x.2)) := HKp2.out.keep hb3
      clear ks hb3 HRn HRp HKn2 HKp2
      go_wp2_with fail
      go_loopg [13, 14] D.length (fun g o i wr => ∃ k : Nat, o = .bool true ∧ g + k = D.length ∧ i = .int .i64 k ∧ Below w3.heap.size w3 wr)
      case atStart => exact ⟨0, rfl, by omega, rfl, Below.refl _ _⟩
      case round =>
        obtain ⟨k, rfl, hgk, rfl, hb4⟩ := hrel
        by_cases hlt : k < D.length
        · have hlt' : (k : Int) < (D.length : Nat) := by omega
          obtain ⟨g, e3, hg, cg⟩ := HP.out.at k (by simpa using hlt)
          obtain ⟨g', e4, hg', cg'⟩ := HQ.out.at k (by simpa using hlt)
          subst e3
          subst e4
          have e : (D.map fun x => ixV x.2)[k]? = some (.int .i64 (D[k].2 : Nat)) := by simp [hlt, ixV]
          rw [e] at cg cg'
          generalize D[k].2 = Z at *
          have d1 := (hb4.cell (p := ⟨g, k, none⟩) hg).trans cg
          have d2 := (hb4.cell (p := ⟨g', k, none⟩) hg').trans cg'
          clear e cg cg'
          go_wp2
          go_quiet (fail)
          go_wp2
          go_roundg (gk - 1)
          case measure => omega
          case rel => exact ⟨k + 1, by simp, by omega, by go_num, by first | exact hb4 | exact below_of hb4 (drewB _ _)⟩
        · have hlt' : ¬ ((k : Int) < (D.length : Nat)) := by omega
          have HB4 : Hid (Below w.heap.size w wr) := below_of HB3.out hb4
          have kt := stopped_any s (M : Int) X (by omega) wr ((HB4.out.cell (p := ⟨0, 0, none⟩) (cell_lt HE.out)).trans HE.out) (Utf8Tabs_below HU.out HB4.out) hs HR.out hX.symm
          clear hb4 HP HQ
          go_wp2_with fail
          refine kt.mono ?_
          rintro e w5 ⟨rfl, hb5⟩
          clear kt
          go_wp2
          go_ret
          exact ⟨rfl, below_of HB4.out hb5⟩
set_option maxHeartbeats 1600000 in
theorem walks_any (s : Pg.T) (n : Int) (w : World) (hE : w.cell? ⟨0, 0, none⟩ = some (.iface 208 (.agg #[.pointer (some ⟨9, 67, none⟩)]))) (hU : Lib.Utf8Tabs 1 2 w) :
    Calls Tryz.prog 8 #[.string ⟨s.toArray⟩, .int .i64 n] w fun e w' => e = .returned (.bool true) ∧ Below w.heap.size w w' := by
  go_enter Tryz.func8, Tryz.ntmps8
  by_cases h : 65536 < s.length
  · have h' : (65536 : Int) < s.length := by omega
    go_wp2
    go_ret
    exact ⟨rfl, Below.refl _ _⟩
  · have h' : ¬ ((65536 : Int) < s.length) := by omega
    have kc := leach_any s n w hE hU (by omega)
    go_wp2_with fail
    refine kc.mono ?_
    rintro e w1 ⟨rfl, hb1⟩
    clear kc
    go_wp2
    go_ret
    exact ⟨rfl, hb1⟩
end Go.Proofs.YtaepcfidpekflaaGreatDoor
