/-
  split. By the verifier.
-/
import Derived.Test.YtaepcfidpekflaaGreatDoorQn
import Derived.Laws.AppendOwn
import Derived.Laws.OwnMore
import Derived.OwnWalk
namespace Go.Proofs.YtaepcfidpekflaaGreatDoor
open Go.RowKit

theorem info_strQ : (Tryz.prog.info? 9).map (fun i => (i.zero, i.size, i.bytes)) = some (some (.string ⟨#[]⟩), 1, 16) := by kernel_rfl
theorem ex_take (t : Pr.T) (n : Nat) : (⟨t.toArray⟩ : ByteArray).extract 0 n = ⟨(t.take n).toArray⟩ := by
  rw [ByteArray.extract_mk]; simp
theorem ex_drop (t : Pr.T) (n : Nat) : (⟨t.toArray⟩ : ByteArray).extract n t.length = ⟨(t.drop n).toArray⟩ := by
  rw [ByteArray.extract_mk]
  simp
  rw [List.take_of_length_le (by simp)]
theorem part_le (l : Pr.T) : Pr.partLen l ≤ l.length := by
  cases l with
  | nil => simp [Pr.partLen]
  | cons c r =>
    by_cases h1 : Pr.isLet c = true
    · rw [Pr.partLen, if_pos h1]; exact (List.takeWhile_prefix _).length_le
    · by_cases h2 : Pn.isDig c = true
      · rw [Pr.partLen, if_neg h1, if_pos h2]; exact (List.takeWhile_prefix _).length_le
      · rw [Pr.partLen, if_neg h1, if_neg h2]
        split
        · rename_i h
          cases r with
          | nil => rcases h with ⟨_, h⟩ | ⟨_, h⟩ <;> cases h
          | cons d r => simp
        · split <;> simp
def strV (t : Pr.T) : Value := .string ⟨t.toArray⟩
theorem split_nil (k : Nat) : Pr.splitGo k [] = some [] := by cases k <;> rfl
theorem split_bad (k : Nat) (c : UInt8) (r : Pr.T) (h : Pr.partLen (c :: r) = 0) : Pr.splitGo (k + 1) (c :: r) = none := by simp [Pr.splitGo, h]
theorem split_step (k : Nat) (c : UInt8) (r : Pr.T) (h : Pr.partLen (c :: r) ≠ 0) (ps : List Pr.T) : (Pr.splitGo (k + 1) (c :: r)).map (ps ++ ·) =
    (Pr.splitGo k ((c :: r).drop (Pr.partLen (c :: r)))).map ((if c = 32 then ps else ps ++ [(c :: r).take (Pr.partLen (c :: r))]) ++ ·) := by
  simp only [Pr.splitGo, h, if_false]
  cases Pr.splitGo k ((c :: r).drop (Pr.partLen (c :: r))) with
  | none => rfl
  | some l =>
    by_cases hc : c = 32
    · simp [hc]
    · simp [hc]
/-- Texts in a row of the call's own. -/
def Parts (w : World) (B : Nat) (v : Value) (ps : List Pr.T) : Prop := w.ownsRow B 9 1 v ps.length (ps.map strV)

theorem Parts.keep {w w1 : World} {B : Nat} {v : Value} {ps : List Pr.T} (h : Parts w B v ps) (hb : Below w.heap.size w w1) : Parts w1 B v ps := by
  refine World.ownsRow.kept (row := none) h ⟨hb.os, hb.tape, hb.output, hb.size, fun k hk _ => hb.block k hk⟩ ?_
  cases e : v.ownBlock with
  | none => exact .inl rfl
  | some _ => exact .inr (by simp)
/-- What split answers. -/
def SplitSaid (w : World) (x : Option (List Pr.T)) (e : Ending) (w' : World) : Prop := Below w.heap.size w w' ∧ match x with
  | none => e = .returned (.tuple #[.slice none 0 0, errRule])
  | some ts => ∃ v, e = .returned (.tuple #[v, .nilIface]) ∧ Parts w' w.heap.size v ts ∧ ts.length ≤ 1000 ∧ ∀ t ∈ ts, t.length ≤ 1000
theorem parts_grow {w w1 w2 : World} {B : Nat} {v v' : Value} {ps : List Pr.T} {x : Pr.T} {o : Obj} (hown : Parts w1 B v ps) (hb : Below B w w1) (hB : B ≤ w1.heap.size) (hown' : w2.ownsRow B 9 1 v' (ps.length + 1) (ps.map strV ++ [strV x])) (hg : (w1.alloc o).grownBy w2 v.ownBlock) :
    Parts w2 B v' (ps ++ [x]) ∧ Below B w w2 := by
  refine ⟨by unfold Parts; simpa using hown', (hb.alloc hB o).grown hg (by simp; omega) fun k hk => (World.ownsRow.lt hown k hk).1⟩
theorem measure_drop (c : UInt8) (r : Pr.T) (n : Nat) (hn : n ≠ 0) (h : n ≤ r.length + 1) : (⟨((c :: r).drop n).toArray⟩ : ByteArray).size < (⟨(c :: r).toArray⟩ : ByteArray).size := by
  show ((c :: r).drop n).toArray.size < (c :: r).toArray.size
  simp
  omega

set_option maxHeartbeats 1600000 in
theorem split_any (l : Pr.T) (hl : l.length ≤ 1000) (w : World) :
    Calls Tryz.prog 124 #[.string ⟨l.toArray⟩] w fun e w' => SplitSaid w (Pr.toks l) e w' := by
  obtain ⟨i0, hi0, hz0, hz1, hz2⟩ := info_parts info_strQ
  have HI : Hid (Tryz.prog.info? 9 = some i0 ∧ i0.zero = some (.string ⟨#[]⟩) ∧ i0.size = 1 ∧ i0.bytes = 16) := ⟨hi0, hz0, hz1, hz2⟩
  clear hi0 hz0 hz1 hz2
  obtain ⟨S, hS⟩ : ∃ S, Hid (Pr.toks l = S) := ⟨_, rfl⟩
  rw [hS.out]
  go_enter Tryz.func124, Tryz.ntmps124
  go_wp2
  go_loopw [0, 4] (fun x v wr => ∃ (t : Pr.T) (ps : List Pr.T) (k : Nat), x = .string ⟨t.toArray⟩ ∧ t.length ≤ k ∧ ps.length + t.length ≤ l.length ∧ Hid (∀ t ∈ ps, t.length ≤ 1000) ∧ Parts wr w.heap.size v ps ∧ Below w.heap.size w wr ∧ Hid (S = (Pr.splitGo k t).map (ps ++ ·))) (fun x _ _ => match x with | .string s => s.size | _ => 0)
  case atStart => exact ⟨l, [], l.length, rfl, Nat.le_refl _, by simp, fun t ht => (by cases ht), World.ownsRow_nil _ _ _ _, Below.refl _ _, by show _ = _; rw [← hS.out]; simp [Pr.toks]⟩
  case round =>
    obtain ⟨t, ps, k, rfl, hk, hle, hsm, hown, hb, hR⟩ := hrel
    cases t with
    | nil =>
      have hR2 : Hid (S = some ps) := by show _ = _; rw [hR.out, split_nil]; simp
      have hpl : ps.length ≤ 1000 := by simp at hle; omega
      clear hR hle
      go_wp2
      go_ret2
      refine ⟨hb, ?_⟩
      rw [hR2.out]
      exact ⟨_, rfl, hown, hpl, hsm.out⟩
    | cons c r =>
      obtain ⟨k, rfl⟩ : ∃ k', k = k' + 1 := ⟨k - 1, by simp at hk; omega⟩
      simp only [List.length_cons] at hk hle
      have hlp := lengthOfPart_any c r (by omega) wr
      have hpl := part_le (c :: r)
      have h0 : ∀ h, ((⟨(c :: r).toArray⟩ : ByteArray)[0]'h).toNat = c.toNat := fun h => rfl
      have ht := ex_take (c :: r) (Pr.partLen (c :: r))
      have hd := ex_drop (c :: r) (Pr.partLen (c :: r))
      have hm := measure_drop c r (Pr.partLen (c :: r))
      have hs0 := split_bad k c r
      have hs1 := split_step k c r
      simp only [List.length_cons] at hpl hd
      generalize hN : Pr.partLen (c :: r) = N at *
      go_wp2_with fail
      refine hlp.mono ?_
      rintro e w1 ⟨rfl, hb1⟩
      have hown1 := hown.keep hb1
      replace hb := below_of hb hb1
      clear hlp hown hb1
      by_cases hn : N = 0
      · have hn' : ((N : Int) == 0) = true := by rw [hn]; rfl
        have hR2 : Hid (S = none) := by show _ = _; rw [hR.out, hs0 hn]; rfl
        clear hR hs0 hs1 hm
        go_wp2
        go_ret2
        refine ⟨hb, ?_⟩
        rw [hR2.out]
        rfl
      · have hn' : ((N : Int) == 0) = false := by rw [beq_eq_false_iff_ne]; omega
        have hms := hm hn hpl
        by_cases hc : c = 32
        · have hc' : ((c.toNat : Int) == 32) = true := by rw [hc]; rfl
          have hR2 : Hid (S = (Pr.splitGo k ((c :: r).drop N)).map (ps ++ ·)) := by
            show _ = _
            rw [hR.out, hs1 hn ps, if_pos hc]
          have HM : Hid ((⟨((c :: r).drop N).toArray⟩ : ByteArray).size < (⟨(c :: r).toArray⟩ : ByteArray).size) := hms
          clear hR hs0 hs1 hm hms hc ht
          go_wp2
          go_roundw
          case rel => exact ⟨(c :: r).drop N, ps, k, rfl, by simp; omega, by simp; omega, hsm, hown1, hb, hR2⟩
          case measure => exact HM.out
        · have hc' : ((c.toNat : Int) == 32) = false := by
            rw [beq_eq_false_iff_ne]
            intro e
            exact hc (UInt8.toNat_inj.1 (by show c.toNat = 32; omega))
          have hR2 : Hid (S = (Pr.splitGo k ((c :: r).drop N)).map (ps ++ [(c :: r).take N] ++ ·)) := by
            show _ = _
            rw [hR.out, hs1 hn ps, if_neg hc]
          have HM : Hid ((⟨((c :: r).drop N).toArray⟩ : ByteArray).size < (⟨(c :: r).toArray⟩ : ByteArray).size) := hms
          have hsm2 : Hid (∀ t ∈ ps ++ [(c :: r).take N], t.length ≤ 1000) := fun t ht => by
            rcases List.mem_append.1 ht with ht | ht
            · exact hsm.out t ht
            · rw [List.mem_singleton] at ht
              rw [ht]; simp; omega
          clear hR hs0 hs1 hm hms hc hsm
          go_wp2_with (first
            | (at_builtin; refine wpList_append_own _ rfl _ _ 35 rfl w.heap.size 9 i0 (.string ⟨#[]⟩) 1 16 Tryz.underlying35 HI.out.1 HI.out.2.1 HI.out.2.2.1 HI.out.2.2.2 rfl (by decide) _ _ _ rfl (World.ownsRow.alloc hown1 _) ⟨w1.heap.size, 0, none⟩ 1 1 [strV ((c :: r).take N)] rfl rfl ?c1 ?c2 ?c3 ?c4 ?c5 ?_)
            | go_in)
          case c1 =>
            intro j u hj
            match j, hj with
            | 0, hj => simp at hj; subst hj; simp [Addr.add, strV]
          case c2 => intro u hu; simp at hu; subst hu; rfl
          case c3 => unfold maxLen; omega
          case c4 => omega
          case c5 => have := hb.size; simp; omega
          · intro v' w2 hown' hgrow _
            obtain ⟨g1, g2⟩ := parts_grow hown1 hb (by have := hb.size; omega) hown' hgrow
            clear hown' hgrow hown1
            go_wp2
            go_roundw
            case rel => exact ⟨(c :: r).drop N, ps ++ [(c :: r).take N], k, rfl, by simp; omega, by simp; omega, hsm2, g1, g2, hR2⟩
            case measure => exact HM.out
end Go.Proofs.YtaepcfidpekflaaGreatDoor
