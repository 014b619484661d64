/-
  The parts of Grouped: pick, bare, english, and plain.Number in their locales. By the verifier.
-/
import Derived.Test.YtaepcfidpekflaaGreatDoorGn
import Derived.Test.YtaepcfidpekflaaGreatDoorWg
namespace Go.Proofs.YtaepcfidpekflaaGreatDoor
open Go.RowKit

theorem ret_int {k : IntKind} {a b : Int} (h : a = b) : Ending.returned (.int k a) = .returned (.int k b) := by rw [h]
set_option maxHeartbeats 400000 in
theorem pick_any (c : Int) (w : World) (h0 : -9223372036854775808 ≤ c) (h1 : c ≤ 9223372036854775807) :
    Calls Tryz.prog 14 #[.int .i64 c, .int .i64 10] w fun e w' => e = .returned (.int .i64 (Pn.pick10 c : Nat)) ∧ w' = w := by
  by_cases hc : c < 0
  · have HP : Hid (-((c + 1).tmod 10) = ((Pn.pick10 c : Nat) : Int)) := by
      show _ = _
      have e : (c + 1).tmod 10 = -((-(c + 1)) % 10) := by
        rw [← Int.tmod_eq_emod_of_nonneg (show 0 ≤ -(c + 1) by omega), Int.neg_tmod, Int.neg_neg]
      rw [e]
      unfold Pn.pick10; rw [if_pos hc]; omega
    go_enter Tryz.func14, Tryz.ntmps14
    go_wp2
    go_ret
    exact ⟨ret_int HP.out, rfl⟩
  · have HP : Hid (c % 10 = ((Pn.pick10 c : Nat) : Int)) := by
      show _ = _
      unfold Pn.pick10; rw [if_neg hc]; omega
    go_enter Tryz.func14, Tryz.ntmps14
    go_wp2
    go_ret
    exact ⟨ret_int HP.out, rfl⟩

theorem bare_any (w : World) : Calls Tryz.prog 15 #[] w fun e w' => e = .returned (.agg #[.slice none 0 0, .slice none 0 0, .int .i32 45, .int .i32 46, .int .i32 0, .int .u8 0, .int .u8 0, .string ⟨#[]⟩]) ∧ Below w.heap.size w w' := by
  go_enter Tryz.func15, Tryz.ntmps15
  go_wp2
  exact bodyPost_ret (v := .agg #[.slice none 0 0, .slice none 0 0, .int .i32 45, .int .i32 46, .int .i32 0, .int .u8 0, .int .u8 0, .string ⟨#[]⟩]) (by simp [results, Tryz.results15, go_sem]) rfl ⟨rfl, (Below.refl _ _).alloc (Nat.le_refl _) _⟩

/-- The rules of english. -/
def engC : List (Pr.T × Pr.T) := [([111, 110, 101], [105, 32, 61, 32, 49, 32, 97, 110, 100, 32, 118, 32, 61, 32, 48])]
def engO : List (Pr.T × Pr.T) := [([111, 110, 101], [110, 32, 37, 32, 49, 48, 32, 61, 32, 49, 32, 97, 110, 100, 32, 110, 32, 37, 32, 49, 48, 48, 32, 33, 61, 32, 49, 49]), ([116, 119, 111], [110, 32, 37, 32, 49, 48, 32, 61, 32, 50, 32, 97, 110, 100, 32, 110, 32, 37, 32, 49, 48, 48, 32, 33, 61, 32, 49, 50]), ([102, 101, 119], [110, 32, 37, 32, 49, 48, 32, 61, 32, 51, 32, 97, 110, 100, 32, 110, 32, 37, 32, 49, 48, 48, 32, 33, 61, 32, 49, 51])]
theorem engC_ok : (Pr.rulesP [] engC).isSome = true := by decide +kernel
theorem engO_ok : (Pr.rulesP [] engO).isSome = true := by decide +kernel
theorem eng_rules (w : World) (o0 o2 : Obj) (hB : Base w) : RulesOk ((((w.alloc o0).alloc (.cells #[.string ⟨#[111, 110, 101]⟩, .string ⟨#[105, 32, 61, 32, 49, 32, 97, 110, 100, 32, 118, 32, 61, 32, 48]⟩] 44)).alloc o2).alloc (.cells #[.string ⟨#[111, 110, 101]⟩, .string ⟨#[110, 32, 37, 32, 49, 48, 32, 61, 32, 49, 32, 97, 110, 100, 32, 110, 32, 37, 32, 49, 48, 48, 32, 33, 61, 32, 49, 49]⟩, .string ⟨#[116, 119, 111]⟩, .string ⟨#[110, 32, 37, 32, 49, 48, 32, 61, 32, 50, 32, 97, 110, 100, 32, 110, 32, 37, 32, 49, 48, 48, 32, 33, 61, 32, 49, 50]⟩, .string ⟨#[102, 101, 119]⟩, .string ⟨#[110, 32, 37, 32, 49, 48, 32, 61, 32, 51, 32, 97, 110, 100, 32, 110, 32, 37, 32, 49, 48, 48, 32, 33, 61, 32, 49, 51]⟩] 44)) (.agg #[.slice (some ⟨w.heap.size + 1, 0, none⟩) 1 1, .slice (some ⟨w.heap.size + 1 + 1 + 1, 0, none⟩) 3 3, .int .i32 45, .int .i32 46, .int .i32 44, .int .u8 3, .int .u8 0, .string ⟨#[]⟩]) := by
  have r1 : Row ((((w.alloc o0).alloc (.cells #[.string ⟨#[111, 110, 101]⟩, .string ⟨#[105, 32, 61, 32, 49, 32, 97, 110, 100, 32, 118, 32, 61, 32, 48]⟩] 44)).alloc o2).alloc (.cells #[.string ⟨#[111, 110, 101]⟩, .string ⟨#[110, 32, 37, 32, 49, 48, 32, 61, 32, 49, 32, 97, 110, 100, 32, 110, 32, 37, 32, 49, 48, 48, 32, 33, 61, 32, 49, 49]⟩, .string ⟨#[116, 119, 111]⟩, .string ⟨#[110, 32, 37, 32, 49, 48, 32, 61, 32, 50, 32, 97, 110, 100, 32, 110, 32, 37, 32, 49, 48, 48, 32, 33, 61, 32, 49, 50]⟩, .string ⟨#[102, 101, 119]⟩, .string ⟨#[110, 32, 37, 32, 49, 48, 32, 61, 32, 51, 32, 97, 110, 100, 32, 110, 32, 37, 32, 49, 48, 48, 32, 33, 61, 32, 49, 51]⟩] 44)) (w.heap.size + 1) #[.string ⟨#[111, 110, 101]⟩, .string ⟨#[105, 32, 61, 32, 49, 32, 97, 110, 100, 32, 118, 32, 61, 32, 48]⟩] := by
    have := (((row_at (w.alloc o0) #[.string ⟨#[111, 110, 101]⟩, .string ⟨#[105, 32, 61, 32, 49, 32, 97, 110, 100, 32, 118, 32, 61, 32, 48]⟩] 44).alloc o2).alloc (.cells #[.string ⟨#[111, 110, 101]⟩, .string ⟨#[110, 32, 37, 32, 49, 48, 32, 61, 32, 49, 32, 97, 110, 100, 32, 110, 32, 37, 32, 49, 48, 48, 32, 33, 61, 32, 49, 49]⟩, .string ⟨#[116, 119, 111]⟩, .string ⟨#[110, 32, 37, 32, 49, 48, 32, 61, 32, 50, 32, 97, 110, 100, 32, 110, 32, 37, 32, 49, 48, 48, 32, 33, 61, 32, 49, 50]⟩, .string ⟨#[102, 101, 119]⟩, .string ⟨#[110, 32, 37, 32, 49, 48, 32, 61, 32, 51, 32, 97, 110, 100, 32, 110, 32, 37, 32, 49, 48, 48, 32, 33, 61, 32, 49, 51]⟩] 44))
    simpa using this
  have r3 : Row ((((w.alloc o0).alloc (.cells #[.string ⟨#[111, 110, 101]⟩, .string ⟨#[105, 32, 61, 32, 49, 32, 97, 110, 100, 32, 118, 32, 61, 32, 48]⟩] 44)).alloc o2).alloc (.cells #[.string ⟨#[111, 110, 101]⟩, .string ⟨#[110, 32, 37, 32, 49, 48, 32, 61, 32, 49, 32, 97, 110, 100, 32, 110, 32, 37, 32, 49, 48, 48, 32, 33, 61, 32, 49, 49]⟩, .string ⟨#[116, 119, 111]⟩, .string ⟨#[110, 32, 37, 32, 49, 48, 32, 61, 32, 50, 32, 97, 110, 100, 32, 110, 32, 37, 32, 49, 48, 48, 32, 33, 61, 32, 49, 50]⟩, .string ⟨#[102, 101, 119]⟩, .string ⟨#[110, 32, 37, 32, 49, 48, 32, 61, 32, 51, 32, 97, 110, 100, 32, 110, 32, 37, 32, 49, 48, 48, 32, 33, 61, 32, 49, 51]⟩] 44)) (w.heap.size + 1 + 1 + 1) #[.string ⟨#[111, 110, 101]⟩, .string ⟨#[110, 32, 37, 32, 49, 48, 32, 61, 32, 49, 32, 97, 110, 100, 32, 110, 32, 37, 32, 49, 48, 48, 32, 33, 61, 32, 49, 49]⟩, .string ⟨#[116, 119, 111]⟩, .string ⟨#[110, 32, 37, 32, 49, 48, 32, 61, 32, 50, 32, 97, 110, 100, 32, 110, 32, 37, 32, 49, 48, 48, 32, 33, 61, 32, 49, 50]⟩, .string ⟨#[102, 101, 119]⟩, .string ⟨#[110, 32, 37, 32, 49, 48, 32, 61, 32, 51, 32, 97, 110, 100, 32, 110, 32, 37, 32, 49, 48, 48, 32, 33, 61, 32, 49, 51]⟩] := by
    have := row_at (((w.alloc o0).alloc (.cells #[.string ⟨#[111, 110, 101]⟩, .string ⟨#[105, 32, 61, 32, 49, 32, 97, 110, 100, 32, 118, 32, 61, 32, 48]⟩] 44)).alloc o2) #[.string ⟨#[111, 110, 101]⟩, .string ⟨#[110, 32, 37, 32, 49, 48, 32, 61, 32, 49, 32, 97, 110, 100, 32, 110, 32, 37, 32, 49, 48, 48, 32, 33, 61, 32, 49, 49]⟩, .string ⟨#[116, 119, 111]⟩, .string ⟨#[110, 32, 37, 32, 49, 48, 32, 61, 32, 50, 32, 97, 110, 100, 32, 110, 32, 37, 32, 49, 48, 48, 32, 33, 61, 32, 49, 50]⟩, .string ⟨#[102, 101, 119]⟩, .string ⟨#[110, 32, 37, 32, 49, 48, 32, 61, 32, 51, 32, 97, 110, 100, 32, 110, 32, 37, 32, 49, 48, 48, 32, 33, 61, 32, 49, 51]⟩] 44
    simpa using this
  exact rules_in (some ⟨w.heap.size + 1, 0, none⟩) (some ⟨w.heap.size + 1 + 1 + 1, 0, none⟩) 1 3 engC engO 45 46 44 3 0 ⟨#[]⟩ _ ((((hB.alloc _).alloc _).alloc _).alloc _) (by decide) (by decide) (by decide) (by decide)
    (.inr ⟨_, _, rfl, r1.1, fun j hj => by
      match j, hj with
      | 0, _ => exact ⟨r1.2.1 0, r1.2.1 1⟩⟩)
    (.inr ⟨_, _, rfl, r3.1, fun j hj => by
      match j, hj with
      | 0, _ => exact ⟨r3.2.1 0, r3.2.1 1⟩
      | 1, _ => exact ⟨r3.2.1 2, r3.2.1 3⟩
      | 2, _ => exact ⟨r3.2.1 4, r3.2.1 5⟩⟩) engC_ok engO_ok

set_option maxHeartbeats 400000 in
theorem english_any (w : World) (hB : Base w) : Calls Tryz.prog 12 #[] w fun e w' => (∃ a0 a1 n0 c0 n1 c1, e = .returned (.agg #[.slice a0 n0 c0, .slice a1 n1 c1, .int .i32 45, .int .i32 46, .int .i32 44, .int .u8 3, .int .u8 0, .string ⟨#[]⟩]) ∧ Hid (RulesOk w' (.agg #[.slice a0 n0 c0, .slice a1 n1 c1, .int .i32 45, .int .i32 46, .int .i32 44, .int .u8 3, .int .u8 0, .string ⟨#[]⟩]))) ∧ Below w.heap.size w w' := by
  go_enter Tryz.func12, Tryz.ntmps12
  go_wp2
  exact bodyPost_ret (v := .agg #[.slice (some ⟨w.heap.size + 1, 0, none⟩) 1 1, .slice (some ⟨w.heap.size + 1 + 1 + 1, 0, none⟩) 3 3, .int .i32 45, .int .i32 46, .int .i32 44, .int .u8 3, .int .u8 0, .string ⟨#[]⟩]) (by simp [results, Tryz.results12, go_sem]) rfl ⟨⟨_, _, _, _, _, _, rfl, eng_rules w _ _ hB⟩, ((((Below.refl _ _).alloc (Nat.le_refl _) _).alloc (by simp) _).alloc (by simp; omega) _).alloc (by simp; omega) _⟩

theorem digits_hid : Hid (∀ w, Base w → Calls Tryz.prog 73 #[.string ⟨#[]⟩] w fun e w' => e = .returned (.tuple #[.agg #[.int .i32 48, .int .i32 49, .int .i32 50, .int .i32 51, .int .i32 52, .int .i32 53, .int .i32 54, .int .i32 55, .int .i32 56, .int .i32 57], .bool true]) ∧ Below w.heap.size w w') := fun w _ => digitsOf_none w
theorem dig_bd : ∀ x ∈ ([48, 49, 50, 51, 52, 53, 54, 55, 56, 57] : List Int), -2147483648 ≤ x ∧ x ≤ 2147483647 := by decide

theorem known_eng (a0 a1 : Option Addr) (n0 c0 n1 c1 : Nat) (w : World) (hr : Hid (RulesOk w (.agg #[.slice a0 n0 c0, .slice a1 n1 c1, .int .i32 45, .int .i32 46, .int .i32 44, .int .u8 3, .int .u8 0, .string ⟨#[]⟩]))) (hB : Base w) :
    Calls Tryz.prog 13 #[.string ⟨#[45, 49, 50, 51, 52, 53, 54, 55, 46, 53, 48]⟩, .agg #[.slice a0 n0 c0, .slice a1 n1 c1, .int .i32 45, .int .i32 46, .int .i32 44, .int .u8 3, .int .u8 0, .string ⟨#[]⟩]] w fun e w' => e = .returned (.tuple #[.string ⟨#[45, 49, 44, 50, 51, 52, 44, 53, 54, 55, 46, 53, 48]⟩, .int .i64 0]) ∧ Below w.heap.size w w' :=
  plain_yes a0 a1 n0 c0 n1 c1 45 46 44 3 0 ⟨#[]⟩ 48 49 50 51 52 53 54 55 56 57 ⟨#[45, 49, 50, 51, 52, 53, 54, 55, 46, 53, 48]⟩ w digits_hid hr hB (by decide) (by decide) (by decide) dig_bd (by decide) (by decide)

theorem bare_yes (s : ByteArray) (w : World) (hB : Base w) (hsz : s.size < 4294967281) (hN : Pn.isNum s.data.toList = true) :
    Calls Tryz.prog 13 #[.string s, .agg #[.slice none 0 0, .slice none 0 0, .int .i32 45, .int .i32 46, .int .i32 0, .int .u8 0, .int .u8 0, .string ⟨#[]⟩]] w fun e w' => e = .returned (.tuple #[.string s, .int .i64 0]) ∧ Below w.heap.size w w' := by
  have h := plain_yes none none 0 0 0 0 45 46 0 0 0 ⟨#[]⟩ 48 49 50 51 52 53 54 55 56 57 s w digits_hid (show Hid _ from rules_nil 45 46 0 0 0 ⟨#[]⟩ w) hB (by decide) (by decide) (by decide) dig_bd hsz hN
  have e : Pn.plainB (Pn.firstOf 0 0) (Pn.nextOf 0 0 0) s.data.toList = s.data.toList := Pn.plain_bare _ _ hN
  rw [Pn.wAll_plain 0 (Or.inl rfl) 0 0 _ hN, e, Lib.mk_data] at h
  exact h
theorem bare_num (s : ByteArray) (w : World) (hB : Base w) (hsz : s.size < 4294967281) (hN : Pn.isNum s.data.toList = false) :
    Calls Tryz.prog 13 #[.string s, .agg #[.slice none 0 0, .slice none 0 0, .int .i32 45, .int .i32 46, .int .i32 0, .int .u8 0, .int .u8 0, .string ⟨#[]⟩]] w fun e w' => e = .returned (.tuple #[.string ⟨#[]⟩, .int .i64 10]) ∧ Below w.heap.size w w' :=
  plain_num none none 0 0 0 0 45 46 0 0 0 ⟨#[]⟩ 48 49 50 51 52 53 54 55 56 57 s w digits_hid (show Hid _ from rules_nil 45 46 0 0 0 ⟨#[]⟩ w) hB (by decide) (by decide) (by decide) hsz hN
theorem grp_yes (s : ByteArray) (a b : Nat) (w : World) (hB : Base w) (ha : a ≤ 9) (hb : b ≤ 9) (hsz : s.size < 4294967281) (hN : Pn.isNum s.data.toList = true) :
    Calls Tryz.prog 13 #[.string s, .agg #[.slice none 0 0, .slice none 0 0, .int .i32 45, .int .i32 46, .int .i32 44, .int .u8 a, .int .u8 b, .string ⟨#[]⟩]] w fun e w' => e = .returned (.tuple #[.string ⟨(Pn.plainB (Pn.firstOf 44 a) (Pn.nextOf 44 a b) s.data.toList).toArray⟩, .int .i64 0]) ∧ Below w.heap.size w w' := by
  have h := plain_yes none none 0 0 0 0 45 46 44 a b ⟨#[]⟩ 48 49 50 51 52 53 54 55 56 57 s w digits_hid (show Hid _ from rules_nil 45 46 44 a b ⟨#[]⟩ w) hB (by decide) ha hb dig_bd hsz hN
  rw [Pn.wAll_plain 44 (Or.inr rfl) a b _ hN] at h
  exact h
theorem grp_num (s : ByteArray) (a b : Nat) (w : World) (hB : Base w) (ha : a ≤ 9) (hb : b ≤ 9) (hsz : s.size < 4294967281) (hN : Pn.isNum s.data.toList = false) :
    Calls Tryz.prog 13 #[.string s, .agg #[.slice none 0 0, .slice none 0 0, .int .i32 45, .int .i32 46, .int .i32 44, .int .u8 a, .int .u8 b, .string ⟨#[]⟩]] w fun e w' => e = .returned (.tuple #[.string ⟨#[]⟩, .int .i64 10]) ∧ Below w.heap.size w w' :=
  plain_num none none 0 0 0 0 45 46 44 a b ⟨#[]⟩ 48 49 50 51 52 53 54 55 56 57 s w digits_hid (show Hid _ from rules_nil 45 46 44 a b ⟨#[]⟩ w) hB (by decide) ha hb hsz hN
end Go.Proofs.YtaepcfidpekflaaGreatDoor
