/-
  Several texts in one (Jt). By the verifier.
-/
import Derived.Test.YtaepcfidpekflaaGreatDoorZ50
import Derived.Test.YtaepcfidpekflaaGreatDoorZ33
import Derived.Test.YtaepcfidpekflaaGreatDoorZ51
import Derived.Test.YtaepcfidpekflaaGreatDoorZ42
namespace Go.Proofs.YtaepcfidpekflaaGreatDoor
open Go.RowKit

theorem info_bool3 : (Tryz.prog.info? 4).map (fun i => (i.zero, i.size, i.bytes)) = some (some (.bool false), 1, 1) := by kernel_rfl
/-- The text joined so far, more behind it, and the rest. -/
def CanRel (L : List Dk.Mark) (R : Pr.T) (n : Nat) (done : Pr.T) (st : List Bool) : Prop := done ++ Dk.canGo st (L.drop n) = R ∧ Dk.Bal st (L.drop n) ∧ done.length ≤ n * 12200 ∧ st.length ≤ n
theorem CanRel.step {L : List Dk.Mark} {R : Pr.T} {n : Nat} {done : Pr.T} {st : List Bool} {m : Dk.Mark} (h : CanRel L R n done st) (hm : L[n]? = some m) (hk : Dk.MOk m) : CanRel L R (n + 1) (done ++ Dk.piece st m) (Dk.stack st m) ∧ (m.kind = 41 → st ≠ []) := by
  obtain ⟨h1, h2, h3, h4⟩ := h
  have hn : n < L.length := by
    rcases Nat.lt_or_ge n L.length with h' | h'
    · exact h'
    · rw [List.getElem?_eq_none h'] at hm; cases hm
  have hd : L.drop n = m :: L.drop (n + 1) := by
    rw [List.drop_eq_getElem_cons hn]
    rw [List.getElem?_eq_getElem hn] at hm
    injection hm with hm
    rw [hm]
  rw [hd] at h1 h2
  refine ⟨⟨?_, h2.2, ?_, ?_⟩, h2.1⟩
  · rw [← h1, Dk.canGo, List.append_assoc]
  · have := Dk.piece_len st hk
    rw [List.length_append]
    omega
  · have := Dk.stack_len st m
    omega
theorem bool_grow {w w1 w2 : World} {B : Nat} {v : Value} {n : Nat} {xs : List Value} {o : Obj} (hb : Below B w w1) (hB : B ≤ w1.heap.size) (hown : w1.ownsRow B 4 1 v n xs) (hg : (w1.alloc o).grownBy w2 v.ownBlock) : Below B w w2 :=
  (hb.alloc hB o).grown hg (by simp; omega) (fun q hq => (hown.lt q hq).1)
/-- What Canon answers. -/
def CanS (r : List Dk.Mark × Nat × Nat) : Pr.T := if r.2.1 = 0 then Dk.canGo [] r.1 else []
set_option maxHeartbeats 6400000 in
set_option maxRecDepth 100000 in
theorem kcanon_any (w : World) (s : Pr.T) (hs : s.length ≤ 1000000) (HO : Hid (Dk.ReadOk s)) (HB : Hid (Dk.Bal [] (Dk.readS s).1)) (HK : Hid (∀ m ∈ (Dk.readS s).1, Dk.MOk m)) (HL : (Dk.readS s).1.length ≤ 3016) :
    Calls Tryz.prog 40 #[.string ⟨s.toArray⟩] w fun e w' => e = .returned (.tuple #[.string ⟨(CanS (Dk.readS s)).toArray⟩, .int .i64 ((Dk.readS s).2.1 : Nat), .int .i64 (if (Dk.readS s).2.1 = 0 then (0 : Nat) else (Dk.readS s).2.2 : Nat)]) ∧ Below w.heap.size w w' := by
  obtain ⟨i0, hi0⟩ := info_parts info_bool3
  have HI0 : Hid (Tryz.prog.info? 4 = some i0 ∧ i0.zero = some (.bool false) ∧ i0.size = 1 ∧ i0.bytes = 1) := ⟨hi0.1, hi0.2.1, hi0.2.2.1, hi0.2.2.2⟩
  clear hi0
  have kr := kread_any w s hs HO
  clear HO
  obtain ⟨⟨L, er, pl⟩, HR⟩ : ∃ R, Hid (Dk.readS s = R) := ⟨_, rfl⟩
  rw [HR.out] at kr HB HK HL ⊢
  clear HR
  obtain ⟨R, HRR⟩ : ∃ R, Hid (CanS (L, er, pl) = R) := ⟨_, rfl⟩
  rw [HRR.out]
  simp only [] at HB HK HL ⊢
  obtain ⟨Q, HQQ⟩ : ∃ Q : Nat, Hid ((if er = 0 then 0 else pl) = Q) := ⟨_, rfl⟩
  rw [HQQ.out]
  go_enter Tryz.func40, Tryz.ntmps40
  go_wp2_with fail
  refine kr.mono ?_
  rintro e w1 ⟨a, c, rfl, hM, hb1⟩
  simp only [] at hM
  have HB1 : Hid (Below w.heap.size w w1) := hb1
  have HM : Hid (MkAt w1 a L) := hM
  clear kr hb1 hM
  by_cases he : er = 0
  · have he' : ((er : Int) == 0) = true := by rw [he]; rfl
    have HR0 : Hid (CanRel L R 0 [] []) := ⟨by rw [← HRR.out, CanS, if_pos he]; rfl, HB.out, by simp, by simp⟩
    have HQ0 : Hid (Q = 0) := by show _ = _; rw [← HQQ.out, if_pos he]
    clear HRR HB HQQ
    subst he
    go_wp2_with fail
    go_loopg [8, 9, 10] L.length (fun g t num i wr => ∃ (n : Nat) (done : Pr.T) (st : List Bool) (na : Option Addr) (nc : Nat), num = .slice na st.length nc ∧ g + n = L.length ∧ i = .int .i64 n ∧ t = .string ⟨done.toArray⟩ ∧ Hid (wr.ownsRow w1.heap.size 4 1 num st.length (st.map .bool)) ∧ Below w1.heap.size w1 wr ∧ Hid (CanRel L R n done st))
    case atStart => exact ⟨0, [], [], none, 0, rfl, by omega, rfl, rfl, World.ownsRow_nil _ _ _ _, Below.refl _ _, HR0⟩
    case round =>
      obtain ⟨n, done, st, na, nc, rfl, hgn, rfl, rfl, HN, hb2, HC⟩ := hrel
      clear HR0
      by_cases hlt : n < L.length
      · have hlt' : (n : Int) < L.length := by omega
        obtain ⟨m, hm⟩ : ∃ m, L[n]? = some m := ⟨L[n], List.getElem?_eq_getElem hlt⟩
        have hmo := HK.out m (List.mem_of_getElem? hm)
        obtain ⟨HC2, hne⟩ := HC.out.step hm hmo
        have HMO : Hid (Dk.MOk m) := hmo
        have HC2 : Hid (CanRel L R (n + 1) (done ++ Dk.piece st m) (Dk.stack st m)) := HC2
        have hdl : done.length ≤ 36795200 := by have := HC.out.2.2.1; omega
        have hsl : st.length ≤ 3016 := by have := HC.out.2.2.2; omega
        obtain ⟨o1, o2, o3, o4⟩ := hmo
        obtain ⟨g, rfl, hg, c0, c1, c2, c3, c4, c5⟩ := (HM.out.keep hb2).six hm
        have HNA : Hid (∀ o, (wr.alloc o).ownsRow w1.heap.size 4 1 (.slice na st.length nc) st.length (st.map .bool)) := fun o => HN.out.alloc o
        have HBA : Hid (∀ o, Below w1.heap.size w1 (wr.alloc o)) := fun o => hb2.alloc hb2.size o
        clear HC hm

        by_cases k116 : m.kind = 116
        · have hk := k116
          have f116 : ((m.kind.toNat : Int) == 116) = true := by rw [hk]; rfl
          have HS : Hid (Dk.stack st m = st) := by show _ = _; unfold Dk.stack; rw [hk]; rfl
          have HP : Hid (Dk.piece st m = Dk.written (st.getLastD false) m.text) := by show _ = _; unfold Dk.piece; rw [hk]; rfl
          obtain ⟨b, HBb⟩ : ∃ b, Hid (st.getLastD false = b) := ⟨_, rfl⟩
          have kw := fun W => kwritten_any W m.text b (by omega)
          have hwl := Dk.written_len b m.text
          rw [HBb.out] at HP
          obtain ⟨W, HW⟩ : ∃ W, Hid (Dk.written b m.text = W) := ⟨_, rfl⟩
          rw [HW.out] at hwl HP
          have HKW : Hid (∀ u, Calls Tryz.prog 65 #[.string ⟨m.text.toArray⟩, .bool b] u fun e w' => e = .returned (.string ⟨W.toArray⟩) ∧ w' = u) := fun u => by have := kw u; rw [HW.out] at this; exact this
          clear hk k116 hne HMO kw HW
          rcases List.eq_nil_or_concat st with hst | ⟨l, c, hst⟩
          · have hs0 : ¬ ((0 : Int) < st.length) := by rw [hst]; simp
            have hs1 : ¬ (0 < st.length) := by rw [hst]; simp
            have hbf : b = false := by rw [← HBb.out, hst]; rfl
            rw [hbf] at HKW
            clear hst HBb hbf
            go_wp2
            go_quiet (first | (go_at_call 65; exact Calls.quiet_of_same (HKW.out _)))
            go_wp2
            go_roundg (gk - 1)
            case measure => omega
            case rel => exact ⟨n + 1, done ++ Dk.piece st m, Dk.stack st m, na, nc, by rw [HS.out], by omega, by go_num, by rw [HP.out]; try (congr 1 <;> (apply ByteArray.ext; simp)), by rw [HS.out]; first | exact HNA.out _ | exact Below.ownsRowN (HNA.out _) _, by first | exact HBA.out _ | exact below_of (HBA.out _) (drewB _ _), HC2⟩
          · simp only [List.concat_eq_append] at hst
            have hsz : st.length = l.length + 1 := by rw [hst]; simp
            have hcl : ∃ g2, na = some ⟨g2, 0, none⟩ ∧ g2 < wr.heap.size ∧ wr.cell? ⟨g2, l.length, none⟩ = some (.bool b) := by
              have hn1 := HN.out
              rcases hn1.2 with ⟨_, hz⟩ | ⟨g2, cap, cur, h1, _⟩
              · omega
              · simp only [Value.slice.injEq] at h1
                refine ⟨g2, h1.1, ?_, ?_⟩
                · rw [h1.1] at hn1; exact (hn1.lt g2 rfl).2
                rw [h1.1] at hn1
                have ck := hn1.cellAt l.length (by omega)
                rw [ck, hst]
                have : b = c := by rw [← HBb.out, hst]; simp
                simp [this]
            obtain ⟨g2, rfl, hg2, hc2⟩ := hcl
            have HSZ : Hid (st.length = l.length + 1) := hsz
            obtain ⟨k, HKK⟩ : ∃ k, Hid (l.length = k) := ⟨_, rfl⟩
            have HSZ2 : Hid (st.length = k + 1) := by show _ = _; rw [HSZ.out, HKK.out]
            rw [HKK.out] at hc2
            rw [HSZ2.out]
            have hkb : k ≤ 3016 := by have := HSZ2.out; omega
            have hw2 : IntKind.i64.wrap ((k : Int) + 1 - 1) = k := by rw [IntKind.wrap_i64]; omega
            have hw3 : IntKind.i64.wrap (k : Int) = k := by rw [IntKind.wrap_i64]; omega
            have hlt3 : (k : Int) < k + 1 := by omega
            clear hst hsz HSZ HKK HBb hsl
            go_wp2
            go_quiet (first | (go_at_call 65; exact Calls.quiet_of_same (HKW.out _)))
            go_wp2
            go_roundg (gk - 1)
            case measure => omega
            case rel => exact ⟨n + 1, done ++ Dk.piece st m, Dk.stack st m, some ⟨g2, 0, none⟩, nc, by rw [HS.out, HSZ2.out], by omega, by go_num, by rw [HP.out]; try (congr 1 <;> (apply ByteArray.ext; simp)), by rw [HS.out, ← HSZ2.out]; first | exact HNA.out _ | exact Below.ownsRowN (HNA.out _) _, by first | exact HBA.out _ | exact below_of (HBA.out _) (drewB _ _), HC2⟩
        by_cases k35 : m.kind = 35
        · have hk := k35
          have f116 : ((m.kind.toNat : Int) == 116) = false := by rw [hk]; rfl
          have f35 : ((m.kind.toNat : Int) == 35) = true := by rw [hk]; rfl
          have HP : Hid (Dk.piece st m = [35]) := by show _ = _; unfold Dk.piece; rw [hk]; rfl
          have HS : Hid (Dk.stack st m = st) := by show _ = _; unfold Dk.stack; rw [hk]; rfl
          clear hk k35 hne HMO
          go_wp2
          go_roundg (gk - 1)
          case measure => omega
          case rel => exact ⟨n + 1, done ++ Dk.piece st m, Dk.stack st m, na, nc, by rw [HS.out], by omega, by go_num, by rw [HP.out]; try (congr 1 <;> (apply ByteArray.ext; simp)), by rw [HS.out]; exact HNA.out _, HBA.out _, HC2⟩
        by_cases k112 : m.kind = 112
        · have hk := k112
          have f116 : ((m.kind.toNat : Int) == 116) = false := by rw [hk]; rfl
          have f35 : ((m.kind.toNat : Int) == 35) = false := by rw [hk]; rfl
          have f112 : ((m.kind.toNat : Int) == 112) = true := by rw [hk]; rfl
          have HP : Hid (Dk.piece st m = 123 :: m.name ++ [125]) := by show _ = _; unfold Dk.piece; rw [hk]; rfl
          have HS : Hid (Dk.stack st m = st) := by show _ = _; unfold Dk.stack; rw [hk]; rfl
          clear hk k112 hne HMO
          go_wp2
          go_roundg (gk - 1)
          case measure => omega
          case rel => exact ⟨n + 1, done ++ Dk.piece st m, Dk.stack st m, na, nc, by rw [HS.out], by omega, by go_num, by rw [HP.out]; try (congr 1 <;> (apply ByteArray.ext; simp)), by rw [HS.out]; exact HNA.out _, HBA.out _, HC2⟩
        by_cases k110 : m.kind = 110
        · have hk := k110
          have f116 : ((m.kind.toNat : Int) == 116) = false := by rw [hk]; rfl
          have f35 : ((m.kind.toNat : Int) == 35) = false := by rw [hk]; rfl
          have f112 : ((m.kind.toNat : Int) == 112) = false := by rw [hk]; rfl
          have f110 : ((m.kind.toNat : Int) == 110) = true := by rw [hk]; rfl
          have HP : Hid (Dk.piece st m = 123 :: m.name ++ [44, 32, 110, 117, 109, 98, 101, 114, 125]) := by show _ = _; unfold Dk.piece; rw [hk]; rfl
          have HS : Hid (Dk.stack st m = st) := by show _ = _; unfold Dk.stack; rw [hk]; rfl
          clear hk k110 hne HMO
          go_wp2
          go_roundg (gk - 1)
          case measure => omega
          case rel => exact ⟨n + 1, done ++ Dk.piece st m, Dk.stack st m, na, nc, by rw [HS.out], by omega, by go_num, by rw [HP.out]; try (congr 1 <;> (apply ByteArray.ext; simp)), by rw [HS.out]; exact HNA.out _, HBA.out _, HC2⟩
        by_cases k40 : m.kind = 40
        · have hk := k40
          have f116 : ((m.kind.toNat : Int) == 116) = false := by rw [hk]; rfl
          have f35 : ((m.kind.toNat : Int) == 35) = false := by rw [hk]; rfl
          have f112 : ((m.kind.toNat : Int) == 112) = false := by rw [hk]; rfl
          have f110 : ((m.kind.toNat : Int) == 110) = false := by rw [hk]; rfl
          have f40 : ((m.kind.toNat : Int) == 40) = true := by rw [hk]; rfl
          obtain ⟨q, HQ⟩ : ∃ q : Bool, Hid (decide (m.how ≠ Pg.selectW) = q) := ⟨_, rfl⟩
          have HS : Hid (Dk.stack st m = st ++ [q]) := by show _ = _; unfold Dk.stack; rw [hk, if_pos rfl, HQ.out]
          have HP : Hid (Dk.piece st m = 123 :: m.name ++ [44, 32] ++ m.how ++ [44] ++ Dk.offT m.offset) := by show _ = _; unfold Dk.piece; rw [hk]; rfl
          have hq1 : (m.how == [115, 101, 108, 101, 99, 116]) = !q := by
            rw [← HQ.out]
            by_cases h : m.how = Pg.selectW
            · rw [h]; rfl
            · rw [show (m.how == [115, 101, 108, 101, 99, 116]) = false from by rw [beq_eq_false_iff_ne]; exact h]; simp [h]
          have hown := HN.out
          by_cases ho : m.offset = [48]
          · have ho' : (m.offset == [48]) = true := by rw [ho]; rfl
            have HF : Hid (Dk.offT m.offset = []) := by show _ = _; unfold Dk.offT; rw [if_pos ho]
            clear hk k40 hne HMO ho HQ
            go_wp2_with (at_builtin; refine wpList_append_own_at _ rfl _ _ 128 rfl w1.heap.size 4 i0 (.bool false) 1 1 Tryz.underlying128 HI0.out.1 HI0.out.2.1 HI0.out.2.2.1 HI0.out.2.2.2 rfl (by decide) _ st.length (st.map .bool) rfl (World.ownsRow.alloc (World.ownsRow.alloc hown _) _) ⟨wr.heap.size + 1, 0, none⟩ 1 1 [.bool q] rfl rfl (by have := cell_one_new (wr.alloc (.cells #[.int .u8 m.kind.toNat, .string ⟨m.text.toArray⟩, .string ⟨m.name.toArray⟩, .string ⟨m.how.toArray⟩, .string ⟨m.offset.toArray⟩, .int .i64 m.at_] 130)) (.bool q) 4; rw [World.size_alloc] at this; exact this) (by intro u hu; simp at hu; subst hu; rfl) (by unfold maxLen; omega) (by omega) (by simp; have := hb2.size; omega) ?_)
            intro v3 w3 hown3 hgrow3 _ hat3
            have HB3 : Hid (Below w1.heap.size w1 w3) := bool_grow (HBA.out _) (HBA.out _).size (HNA.out _) hgrow3
            obtain ⟨va, vn, vc, rfl⟩ := owns_form hown3
            have HVN : Hid (vn = st.length + 1) := by
              rcases hown3.2 with ⟨h1, h2⟩ | ⟨_, _, _, h1, _⟩
              · omega
              · simp only [Value.slice.injEq] at h1; exact h1.2.1
            have HN3 : Hid (w3.ownsRow w1.heap.size 4 1 (.slice va vn vc) (st.length + 1) (st.map .bool ++ [.bool q])) := hown3
            clear hown3 hgrow3 hat3 hown HN HNA HBA
            go_wp2
            go_roundg (gk - 1)
            case measure => omega
            case rel => exact ⟨n + 1, done ++ Dk.piece st m, Dk.stack st m, va, vc, by rw [HS.out, List.length_append]; first | rfl | (rw [HVN.out]; rfl), by omega, by go_num, by rw [HP.out, HF.out]; try (congr 1 <;> (apply ByteArray.ext; simp)), by rw [HS.out]; show World.ownsRow _ _ _ _ _ _ _; rw [List.length_append, List.map_append]; exact HN3.out, HB3.out, HC2⟩
          · have ho' : (m.offset == [48]) = false := by rw [beq_eq_false_iff_ne]; exact ho
            have HF : Hid (Dk.offT m.offset = [32, 111, 102, 102, 115, 101, 116, 58] ++ m.offset) := by show _ = _; unfold Dk.offT; rw [if_neg ho]
            clear hk k40 hne HMO ho HQ
            go_wp2_with (at_builtin; refine wpList_append_own_at _ rfl _ _ 128 rfl w1.heap.size 4 i0 (.bool false) 1 1 Tryz.underlying128 HI0.out.1 HI0.out.2.1 HI0.out.2.2.1 HI0.out.2.2.2 rfl (by decide) _ st.length (st.map .bool) rfl (World.ownsRow.alloc (World.ownsRow.alloc hown _) _) ⟨wr.heap.size + 1, 0, none⟩ 1 1 [.bool q] rfl rfl (by have := cell_one_new (wr.alloc (.cells #[.int .u8 m.kind.toNat, .string ⟨m.text.toArray⟩, .string ⟨m.name.toArray⟩, .string ⟨m.how.toArray⟩, .string ⟨m.offset.toArray⟩, .int .i64 m.at_] 130)) (.bool q) 4; rw [World.size_alloc] at this; exact this) (by intro u hu; simp at hu; subst hu; rfl) (by unfold maxLen; omega) (by omega) (by simp; have := hb2.size; omega) ?_)
            intro v3 w3 hown3 hgrow3 _ hat3
            have HB3 : Hid (Below w1.heap.size w1 w3) := bool_grow (HBA.out _) (HBA.out _).size (HNA.out _) hgrow3
            obtain ⟨va, vn, vc, rfl⟩ := owns_form hown3
            have HVN : Hid (vn = st.length + 1) := by
              rcases hown3.2 with ⟨h1, h2⟩ | ⟨_, _, _, h1, _⟩
              · omega
              · simp only [Value.slice.injEq] at h1; exact h1.2.1
            have HN3 : Hid (w3.ownsRow w1.heap.size 4 1 (.slice va vn vc) (st.length + 1) (st.map .bool ++ [.bool q])) := hown3
            clear hown3 hgrow3 hat3 hown HN HNA HBA
            go_wp2
            go_roundg (gk - 1)
            case measure => omega
            case rel => exact ⟨n + 1, done ++ Dk.piece st m, Dk.stack st m, va, vc, by rw [HS.out, List.length_append]; first | rfl | (rw [HVN.out]; rfl), by omega, by go_num, by rw [HP.out, HF.out]; try (congr 1 <;> (apply ByteArray.ext; simp)), by rw [HS.out]; show World.ownsRow _ _ _ _ _ _ _; rw [List.length_append, List.map_append]; exact HN3.out, HB3.out, HC2⟩
        by_cases k91 : m.kind = 91
        · have hk := k91
          have f116 : ((m.kind.toNat : Int) == 116) = false := by rw [hk]; rfl
          have f35 : ((m.kind.toNat : Int) == 35) = false := by rw [hk]; rfl
          have f112 : ((m.kind.toNat : Int) == 112) = false := by rw [hk]; rfl
          have f110 : ((m.kind.toNat : Int) == 110) = false := by rw [hk]; rfl
          have f40 : ((m.kind.toNat : Int) == 40) = false := by rw [hk]; rfl
          have f91 : ((m.kind.toNat : Int) == 91) = true := by rw [hk]; rfl
          have HP : Hid (Dk.piece st m = 32 :: m.text ++ [32, 123]) := by show _ = _; unfold Dk.piece; rw [hk]; rfl
          have HS : Hid (Dk.stack st m = st) := by show _ = _; unfold Dk.stack; rw [hk]; rfl
          clear hk k91 hne HMO
          go_wp2
          go_roundg (gk - 1)
          case measure => omega
          case rel => exact ⟨n + 1, done ++ Dk.piece st m, Dk.stack st m, na, nc, by rw [HS.out], by omega, by go_num, by rw [HP.out]; try (congr 1 <;> (apply ByteArray.ext; simp)), by rw [HS.out]; exact HNA.out _, HBA.out _, HC2⟩
        by_cases k93 : m.kind = 93
        · have hk := k93
          have f116 : ((m.kind.toNat : Int) == 116) = false := by rw [hk]; rfl
          have f35 : ((m.kind.toNat : Int) == 35) = false := by rw [hk]; rfl
          have f112 : ((m.kind.toNat : Int) == 112) = false := by rw [hk]; rfl
          have f110 : ((m.kind.toNat : Int) == 110) = false := by rw [hk]; rfl
          have f40 : ((m.kind.toNat : Int) == 40) = false := by rw [hk]; rfl
          have f91 : ((m.kind.toNat : Int) == 91) = false := by rw [hk]; rfl
          have f93 : ((m.kind.toNat : Int) == 93) = true := by rw [hk]; rfl
          have HP : Hid (Dk.piece st m = [125]) := by show _ = _; unfold Dk.piece; rw [hk]; rfl
          have HS : Hid (Dk.stack st m = st) := by show _ = _; unfold Dk.stack; rw [hk]; rfl
          clear hk k93 hne HMO
          go_wp2
          go_roundg (gk - 1)
          case measure => omega
          case rel => exact ⟨n + 1, done ++ Dk.piece st m, Dk.stack st m, na, nc, by rw [HS.out], by omega, by go_num, by rw [HP.out]; try (congr 1 <;> (apply ByteArray.ext; simp)), by rw [HS.out]; exact HNA.out _, HBA.out _, HC2⟩
        by_cases k41 : m.kind = 41
        · have hk := k41
          have f116 : ((m.kind.toNat : Int) == 116) = false := by rw [hk]; rfl
          have f35 : ((m.kind.toNat : Int) == 35) = false := by rw [hk]; rfl
          have f112 : ((m.kind.toNat : Int) == 112) = false := by rw [hk]; rfl
          have f110 : ((m.kind.toNat : Int) == 110) = false := by rw [hk]; rfl
          have f40 : ((m.kind.toNat : Int) == 40) = false := by rw [hk]; rfl
          have f91 : ((m.kind.toNat : Int) == 91) = false := by rw [hk]; rfl
          have f93 : ((m.kind.toNat : Int) == 93) = false := by rw [hk]; rfl
          have f41 : ((m.kind.toNat : Int) == 41) = true := by rw [hk]; rfl
          have HP : Hid (Dk.piece st m = [125]) := by show _ = _; unfold Dk.piece; rw [hk]; rfl
          rcases List.eq_nil_or_concat st with hst | ⟨l, c, hst⟩
          · exact absurd hst (hne hk)
          · simp only [List.concat_eq_append] at hst
            have HS : Hid (Dk.stack st m = l) := by show _ = _; unfold Dk.stack; rw [hk, if_neg (by decide), if_pos rfl, hst]; simp
            have hsz : st.length = l.length + 1 := by rw [hst]; simp
            have hcl : ∃ g2, na = some ⟨g2, 0, none⟩ ∧ st.length ≤ nc := by
              rcases HN.out.2 with ⟨_, hz⟩ | ⟨g2, cap, cur, h1, _, _, h3, _⟩
              · omega
              · simp only [Value.slice.injEq] at h1
                exact ⟨g2, h1.1, by omega⟩
            obtain ⟨g2, rfl, hcap⟩ := hcl
            have HN2 : Hid (∀ o, (wr.alloc o).ownsRow w1.heap.size 4 1 (.slice (some ⟨g2, 0, none⟩) l.length nc) l.length (l.map .bool)) := fun o => by
              have h := HNA.out o
              rw [hst, List.length_append, List.map_append] at h
              exact ownsRow_pop h
            have HSZ2 : Hid (st.length = l.length + 1) := hsz
            rw [hsz] at hcap hsl ⊢
            have hw2 : IntKind.i64.wrap ((l.length : Int) + 1 - 1) = l.length := by rw [IntKind.wrap_i64]; omega
            have hw3 : IntKind.i64.wrap (l.length : Int) = l.length := by rw [IntKind.wrap_i64]; omega
            have hlt3 : (l.length : Int) ≤ nc := by omega
            clear hst hsz hk k41 hne HMO HN HNA
            go_wp2
            go_roundg (gk - 1)
            case measure => omega
            case rel => exact ⟨n + 1, done ++ Dk.piece st m, Dk.stack st m, some ⟨g2, 0, none⟩, nc, by rw [HS.out], by omega, by go_num, by rw [HP.out]; try (congr 1 <;> (apply ByteArray.ext; simp)), by rw [HS.out]; exact HN2.out _, HBA.out _, HC2⟩
        have f116 : ((m.kind.toNat : Int) == 116) = false := by rw [beq_eq_false_iff_ne]; intro h; apply k116; apply UInt8.toNat_inj.1; show m.kind.toNat = 116; omega
        have f35 : ((m.kind.toNat : Int) == 35) = false := by rw [beq_eq_false_iff_ne]; intro h; apply k35; apply UInt8.toNat_inj.1; show m.kind.toNat = 35; omega
        have f112 : ((m.kind.toNat : Int) == 112) = false := by rw [beq_eq_false_iff_ne]; intro h; apply k112; apply UInt8.toNat_inj.1; show m.kind.toNat = 112; omega
        have f110 : ((m.kind.toNat : Int) == 110) = false := by rw [beq_eq_false_iff_ne]; intro h; apply k110; apply UInt8.toNat_inj.1; show m.kind.toNat = 110; omega
        have f40 : ((m.kind.toNat : Int) == 40) = false := by rw [beq_eq_false_iff_ne]; intro h; apply k40; apply UInt8.toNat_inj.1; show m.kind.toNat = 40; omega
        have f91 : ((m.kind.toNat : Int) == 91) = false := by rw [beq_eq_false_iff_ne]; intro h; apply k91; apply UInt8.toNat_inj.1; show m.kind.toNat = 91; omega
        have f93 : ((m.kind.toNat : Int) == 93) = false := by rw [beq_eq_false_iff_ne]; intro h; apply k93; apply UInt8.toNat_inj.1; show m.kind.toNat = 93; omega
        have f41 : ((m.kind.toNat : Int) == 41) = false := by rw [beq_eq_false_iff_ne]; intro h; apply k41; apply UInt8.toNat_inj.1; show m.kind.toNat = 41; omega
        have HP : Hid (Dk.piece st m = []) := by show _ = _; unfold Dk.piece; rw [if_neg k116, if_neg k35, if_neg k112, if_neg k110, if_neg k40, if_neg k91, if_neg k93, if_neg k41]
        have HS : Hid (Dk.stack st m = st) := by show _ = _; unfold Dk.stack; rw [if_neg k40, if_neg k41]
        clear k116 k35 k112 k110 k40 k91 k93 k41 hne HMO
        go_wp2
        go_roundg (gk - 1)
        case measure => omega
        case rel => exact ⟨n + 1, done ++ Dk.piece st m, Dk.stack st m, na, nc, by rw [HS.out], by omega, by go_num, by rw [HP.out, List.append_nil], by rw [HS.out]; exact HNA.out _, HBA.out _, HC2⟩
      · have hlt' : ¬ ((n : Int) < L.length) := by omega
        have HF : Hid (done = R) := by
          show _ = _
          have := HC.out.1
          rw [List.drop_eq_nil_of_le (by omega)] at this
          simpa [Dk.canGo] using this
        clear HC
        go_wp2
        refine bodyPost_ret (v := .tuple #[.string ⟨done.toArray⟩, .int .i64 0, .int .i64 0]) (by simp [results, Tryz.results40, go_sem]) rfl ?_
        exact ⟨by rw [HF.out, HQ0.out]; try rfl, below_of HB1.out hb2⟩
  · have he' : ((er : Int) == 0) = false := by rw [beq_eq_false_iff_ne]; omega
    have HF : Hid (R = []) := by show _ = _; rw [← HRR.out, CanS, if_neg he]
    have HQ0 : Hid (Q = pl) := by show _ = _; rw [← HQQ.out, if_neg he]
    clear HRR HB HM HQQ
    go_wp2
    refine bodyPost_ret (v := .tuple #[.string ⟨#[]⟩, .int .i64 er, .int .i64 pl]) (by simp [results, Tryz.results40, go_sem]) rfl ?_
    exact ⟨by rw [HF.out, HQ0.out]; try rfl, HB1.out⟩
end Go.Proofs.YtaepcfidpekflaaGreatDoor
