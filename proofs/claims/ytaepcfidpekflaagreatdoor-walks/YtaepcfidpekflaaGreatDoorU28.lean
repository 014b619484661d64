/-
  Several texts in one (Mr, Shq, Mt). By the verifier.
-/
import Derived.Test.YtaepcfidpekflaaGreatDoorU27
import Derived.Shelf.Unicode.DecodeAny
import Derived.Shelf.GgClosure.StringsIndexFuncTop
import Derived.Shelf.Strings.Replace
import Derived.Shelf.Strings.BuilderK
import Derived.Test.YtaepcfidpekflaaGreatDoorU11
namespace Go.Proofs.YtaepcfidpekflaaGreatDoor
open Go.RowKit Pg

theorem msg_all : ∀ k d, d + k = 6 → MsgOk d := by
  intro k
  induction k with
  | zero => intro d h; exact pmessage_at d (by omega) (fun h2 => by omega)
  | succ k ih => intro d h; exact pmessage_at d (by omega) (fun _ => ih (d + 1) (by omega))
def Stops (rs : List Pg.T) : Pg.Mode → Res → Prop
  | .msg _ _, .ok _ q => rs[q]? = none ∨ rs[q]? = some [125]
  | _, _ => True
theorem stops_pre {rs : List Pg.T} {d : Nat} {num : Bool} {res : Res} (n : Pg.Tr) (h : Stops rs (.msg d num) res) : Stops rs (.msg d num) (res.pre n) := by
  cases res with
  | ok => exact h
  | okB => trivial
  | bad => trivial
theorem stops_of {rs : List Pg.T} {m : Pg.Mode} {p : Nat} {res : Res} (h : Rd rs m p res) : Stops rs m res := by
  induction h with
  | stop h => exact h
  | argK _ _ _ _ ih => exact stops_pre _ ih
  | sign _ _ ih => exact stops_pre _ ih
  | said _ _ _ ih => exact stops_pre _ ih
  | _ => trivial
/-- What the reading of a whole pattern comes to. -/
inductive Whole (rs : List Pg.T) : Sum (Nat × Nat) Pg.Tr → Prop
  | ok {t} (h : Rd rs (.msg 1 false) 0 (.ok t rs.length)) : Whole rs (.inr t)
  | bad {e a} (h : Rd rs (.msg 1 false) 0 (.bad e a)) : Whole rs (.inl (e, a))
  | brace {t q} (h : Rd rs (.msg 1 false) 0 (.ok t q)) (hq : rs[q]? = some [125]) : Whole rs (.inl (3, q))
def ParseSaid (rs : List Pg.T) (w : World) (e : Ending) (w' : World) : Prop := Below w.heap.size w w' ∧ ∃ r, Whole rs r ∧ match r with
  | .inr t => ∃ v, e = .returned (.tuple #[v, .nilIface]) ∧ RowAt w' (fun g => w.heap.size ≤ g) 1 v t
  | .inl (er, a) => ∃ v, e = .returned (.tuple #[.slice none 0 0, v]) ∧ Flt w.heap.size w' v er a
set_option maxHeartbeats 3200000 in
theorem pparse_any (w : World) (rs : List Pg.T) (a : Option Addr) (c : Nat) (hr : Rns w.heap.size w a c rs) (hc : rs.length ≤ c) (hp : Pts rs) (hl : rs.length ≤ 1000) :
    Calls Tryz.prog 127 #[.slice a rs.length c] w fun e w' => ParseSaid rs w e w' := by
  have hb0 := allocB w (.cells #[.slice a rs.length c, .int .i64 0] 276)
  have hs0 : Scn w.heap.size (w.alloc (.cells #[.slice a rs.length c, .int .i64 0] 276)) rs 0 := ⟨a, c, row_at w _ _, hr.ag (Ag.of hb0 (Nat.le_refl _)), hc, hp, hl, Nat.zero_le _⟩
  have km := msg_all 5 1 rfl w.heap.size _ rs 0 false hs0
  have hz0 : (w.alloc (.cells #[.slice a rs.length c, .int .i64 0] 276)).heap.size = w.heap.size + 1 := by simp
  clear hs0 hr
  go_enter Tryz.func127, Tryz.ntmps127
  go_wp2_with fail
  refine km.mono ?_
  rintro e w1 ⟨ha, res, hrd, hm⟩
  have HB : Hid (Below w.heap.size w w1) := hb0.trans (ha.below (Nat.le_refl _) (by omega))
  have HRD : Hid (Rd rs (.msg 1 false) 0 res) := hrd
  rw [hz0] at hm
  have hst := stops_of hrd
  clear km hrd hb0
  cases res with
  | okB => exact absurd (fine_of HRD.out (Nat.zero_le _)) (fun h => h)
  | bad er x =>
    obtain ⟨u, v, rfl, hv, _⟩ := hm
    have HV : Hid (Flt (w.heap.size + 1) w1 v er x) := hv
    obtain ⟨b, rfl, _⟩ := hv
    go_wp2
    go_ret2
    exact ⟨HB.out, _, .bad HRD.out, _, rfl, HV.out.mono (by omega)⟩
  | ok t q =>
    obtain ⟨v, rfl, hs, hrow⟩ := hm
    have HROW : Hid (RowAt w1 (fun g => w.heap.size + 1 ≤ g) 1 v t) := hrow
    have HS : Hid (Scn w.heap.size w1 rs q) := hs
    have hql := hs.pts.2.2
    obtain ⟨a1, c1, q1, f1⟩ := hs.rows
    have kw := pwrong_any w.heap.size w1 rs q hs
    have hz1 : w.heap.size + 1 ≤ w1.heap.size := by have := ha.size; omega
    obtain ⟨va, vn, vc, rfl⟩ : ∃ va vn vc, v = .slice va vn vc := by
      obtain ⟨us, h1, _⟩ := hrow
      rcases h1 with ⟨_, h1⟩ | ⟨g, n, c, h1, _⟩
      · exact ⟨_, _, _, h1⟩
      · exact ⟨_, _, _, h1⟩
    clear hs hrow ha
    by_cases hlt : q < rs.length
    · have hq : Hid (rs[q]? = some [125]) := by
        rcases hst with h | h
        · rw [List.getElem?_eq_none_iff] at h; omega
        · exact h
      have hlt' : ((q : Int) < rs.length) = True := eq_true (by omega)
      clear hst
      go_wp2_with (go_at_call 161; refine kw.mono ?_; rintro e w2 ⟨⟨v, rfl, hv⟩, hb2⟩)
      go_ret2
      exact ⟨below_of HB.out hb2, _, .brace HRD.out hq.out, _, rfl, hv.mono (by omega)⟩
    · have hq : q = rs.length := by omega
      subst hq
      clear hst
      go_wp2
      go_ret2
      exact ⟨HB.out, _, .ok HRD.out, _, rfl, HROW.out.wide (fun g hg => by omega)⟩
end Go.Proofs.YtaepcfidpekflaaGreatDoor
namespace Go.Proofs
open Go.Shelf
def Tryz.lays197_ren : Go.Shelf.Ren := ⟨fun | 197 => 159 | 260 => 191 | n => n, fun | 9 => 9 | 21 => 21 | 3 => 3 | 4 => 4 | 5 => 5 | 105 => 272 | 119 => 250 | 0 => 0 | 46 => 254 | 139 => 253 | 138 => 252 | n => n, fun | 3 => 1 | 4 => 2 | n => n⟩
theorem Tryz.lays197 : Go.Proofs.Lays.n197 Tryz.prog Tryz.lays197_ren := {
  mixed := by kernel_rfl
  f197 := Tryz.func159.trans (congrArg some (by kernel_rfl))
  f260 := Tryz.func191.trans (congrArg some (by kernel_rfl))
  t0 := Tryz.underlying0
  a0 := Tryz.isAgg0
  z0 := Tryz.sizeOf0
  v0 := Tryz.zeroValue0
  t3 := Tryz.underlying3
  a3 := Tryz.isAgg3
  z3 := Tryz.sizeOf3
  v3 := Tryz.zeroValue3
  t4 := Tryz.underlying4
  a4 := Tryz.isAgg4
  z4 := Tryz.sizeOf4
  v4 := Tryz.zeroValue4
  t5 := Tryz.underlying5
  a5 := Tryz.isAgg5
  z5 := Tryz.sizeOf5
  v5 := Tryz.zeroValue5
  t9 := Tryz.underlying9
  a9 := Tryz.isAgg9
  z9 := Tryz.sizeOf9
  v9 := Tryz.zeroValue9
  t21 := Tryz.underlying21
  a21 := Tryz.isAgg21
  z21 := Tryz.sizeOf21
  v21 := Tryz.zeroValue21
  t46 := Tryz.underlying254
  a46 := Tryz.isAgg254
  z46 := Tryz.sizeOf254
  v46 := Tryz.zeroValue254
  t105 := Tryz.underlying272
  a105 := Tryz.isAgg272
  z105 := Tryz.sizeOf272
  v105 := Tryz.zeroValue272
  t119 := Tryz.underlying250
  a119 := Tryz.isAgg250
  z119 := Tryz.sizeOf250
  t138 := Tryz.underlying252
  a138 := Tryz.isAgg252
  z138 := Tryz.sizeOf252
  v138 := Tryz.zeroValue252
  t139 := Tryz.underlying253
  a139 := Tryz.isAgg253
  z139 := Tryz.sizeOf253
  v139 := Tryz.zeroValue253
  g3 := by kernel_rfl
  g4 := by kernel_rfl }
open Go.RowKit Go.Lib in
theorem Tryz.utf8_DecodeRuneInString (s : ByteArray) (w : World) (hT : Lib.Utf8Tabs 1 2 w) :
    Calls Tryz.prog 159 #[.string s] w fun e w' => e = .returned (.tuple #[.int .i32 (Lib.decodeGo s).1, .int .i64 (Lib.decodeGo s).2]) ∧ Below w.heap.size w w' := Any.utf8_DecodeRuneInString Tryz.lays197 s w hT
def Tryz.laysGw15_ren : Go.Shelf.Ren := ⟨fun | 15 => 225 | 20 => 231 | n => n, fun | 9 => 9 | 23 => 95 | 3 => 3 | 4 => 4 | 0 => 0 | 21 => 21 | n => n, fun | n => n⟩
theorem Tryz.laysGw15 : Go.Proofs.LaysGw.n15 Tryz.prog Tryz.laysGw15_ren := {
  mixed := by kernel_rfl
  f15 := Tryz.func225.trans (congrArg some (by kernel_rfl))
  f20 := Tryz.func231.trans (congrArg some (by kernel_rfl))
  t0 := Tryz.underlying0
  a0 := Tryz.isAgg0
  z0 := Tryz.sizeOf0
  v0 := Tryz.zeroValue0
  i0 := by kernel_rfl
  t3 := Tryz.underlying3
  a3 := Tryz.isAgg3
  z3 := Tryz.sizeOf3
  v3 := Tryz.zeroValue3
  i3 := by kernel_rfl
  t4 := Tryz.underlying4
  a4 := Tryz.isAgg4
  z4 := Tryz.sizeOf4
  v4 := Tryz.zeroValue4
  i4 := by kernel_rfl
  t9 := Tryz.underlying9
  a9 := Tryz.isAgg9
  z9 := Tryz.sizeOf9
  v9 := Tryz.zeroValue9
  i9 := by kernel_rfl
  t21 := Tryz.underlying21
  a21 := Tryz.isAgg21
  z21 := Tryz.sizeOf21
  v21 := Tryz.zeroValue21
  i21 := by kernel_rfl
  t23 := Tryz.underlying95
  a23 := Tryz.isAgg95
  z23 := Tryz.sizeOf95
  v23 := Tryz.zeroValue95
  i23 := by kernel_rfl }
open Go.RowKit Go.Lib in
theorem Tryz.strings_IndexFunc (g : Nat) (lb : Array Value) (eg : ∀ args w, (callFunc g args).run Tryz.prog w = .ok (.enter g args) w) (p : Nat → Bool) (s : ByteArray) (w : World) (hp : PredAt Tryz.prog g lb encR p w) :
    Calls Tryz.prog 225 #[.string s, .func (.func g) #[] lb] w fun e w' => e = .returned (.int .i64 (Lib.idxFunc p true s)) ∧ Below w.heap.size w w' := Any.strings_IndexFunc Tryz.laysGw15 g lb eg p s w hp
def Tryz.lays155_ren : Go.Shelf.Ren := ⟨fun | 155 => 226 | 154 => 244 | 138 => 264 | 165 => 265 | 143 => 266 | 166 => 201 | 197 => 159 | 169 => 83 | 195 => 105 | 218 => 281 | 240 => 110 | 241 => 282 | 219 => 142 | 260 => 191 | 276 => 150 | 277 => 299 | 217 => 176 | 225 => 177 | 224 => 178 | 267 => 179 | 266 => 209 | 314 => 210 | n => n, fun | 9 => 9 | 3 => 3 | 4 => 4 | 72 => 148 | 0 => 0 | 76 => 122 | 105 => 272 | 21 => 21 | 5 => 5 | 70 => 145 | 20 => 20 | 37 => 146 | 75 => 67 | 127 => 206 | 164 => 152 | 46 => 254 | 119 => 250 | 139 => 253 | 138 => 252 | 146 => 354 | 51 => 264 | 80 => 151 | n => n, fun | 1 => 3 | 3 => 1 | 4 => 2 | n => n⟩
theorem Tryz.lays155 : Go.Proofs.Lays.n155 Tryz.prog Tryz.lays155_ren := {
  mixed := by kernel_rfl
  f138 := Tryz.func264.trans (congrArg some (by kernel_rfl))
  f143 := Tryz.func266.trans (congrArg some (by kernel_rfl))
  f154 := Tryz.func244.trans (congrArg some (by kernel_rfl))
  f155 := Tryz.func226.trans (congrArg some (by kernel_rfl))
  f165 := Tryz.func265.trans (congrArg some (by kernel_rfl))
  f166 := Tryz.func201.trans (congrArg some (by kernel_rfl))
  f169 := Tryz.func83.trans (congrArg some (by kernel_rfl))
  f195 := Tryz.func105.trans (congrArg some (by kernel_rfl))
  f197 := Tryz.func159.trans (congrArg some (by kernel_rfl))
  f217 := Tryz.func176.trans (congrArg some (by kernel_rfl))
  f218 := Tryz.func281.trans (congrArg some (by kernel_rfl))
  f219 := Tryz.func142.trans (congrArg some (by kernel_rfl))
  f224 := Tryz.func178.trans (congrArg some (by kernel_rfl))
  f225 := Tryz.func177.trans (congrArg some (by kernel_rfl))
  f240 := Tryz.func110.trans (congrArg some (by kernel_rfl))
  f241 := Tryz.func282.trans (congrArg some (by kernel_rfl))
  f260 := Tryz.func191.trans (congrArg some (by kernel_rfl))
  f266 := Tryz.func209.trans (congrArg some (by kernel_rfl))
  f267 := Tryz.func179.trans (congrArg some (by kernel_rfl))
  f276 := Tryz.func150.trans (congrArg some (by kernel_rfl))
  f277 := Tryz.func299.trans (congrArg some (by kernel_rfl))
  f314 := Tryz.func210.trans (congrArg some (by kernel_rfl))
  t0 := Tryz.underlying0
  a0 := Tryz.isAgg0
  z0 := Tryz.sizeOf0
  v0 := Tryz.zeroValue0
  t3 := Tryz.underlying3
  a3 := Tryz.isAgg3
  z3 := Tryz.sizeOf3
  v3 := Tryz.zeroValue3
  t4 := Tryz.underlying4
  a4 := Tryz.isAgg4
  z4 := Tryz.sizeOf4
  v4 := Tryz.zeroValue4
  t5 := Tryz.underlying5
  a5 := Tryz.isAgg5
  z5 := Tryz.sizeOf5
  v5 := Tryz.zeroValue5
  t9 := Tryz.underlying9
  a9 := Tryz.isAgg9
  z9 := Tryz.sizeOf9
  v9 := Tryz.zeroValue9
  t20 := Tryz.underlying20
  a20 := Tryz.isAgg20
  z20 := Tryz.sizeOf20
  v20 := Tryz.zeroValue20
  t21 := Tryz.underlying21
  a21 := Tryz.isAgg21
  z21 := Tryz.sizeOf21
  v21 := Tryz.zeroValue21
  t37 := Tryz.underlying146
  a37 := Tryz.isAgg146
  z37 := Tryz.sizeOf146
  v37 := Tryz.zeroValue146
  t46 := Tryz.underlying254
  a46 := Tryz.isAgg254
  z46 := Tryz.sizeOf254
  v46 := Tryz.zeroValue254
  t51 := Tryz.underlying264
  a51 := Tryz.isAgg264
  z51 := Tryz.sizeOf264
  v51 := Tryz.zeroValue264
  t70 := Tryz.underlying145
  a70 := Tryz.isAgg145
  z70 := Tryz.sizeOf145
  v70 := Tryz.zeroValue145
  t72 := Tryz.underlying148
  a72 := Tryz.isAgg148
  z72 := Tryz.sizeOf148
  v72 := Tryz.zeroValue148
  t75 := Tryz.underlying67
  a75 := Tryz.isAgg67
  z75 := Tryz.sizeOf67
  v75 := Tryz.zeroValue67
  t76 := Tryz.underlying122
  a76 := Tryz.isAgg122
  z76 := Tryz.sizeOf122
  v76 := Tryz.zeroValue122
  t105 := Tryz.underlying272
  a105 := Tryz.isAgg272
  z105 := Tryz.sizeOf272
  v105 := Tryz.zeroValue272
  t119 := Tryz.underlying250
  a119 := Tryz.isAgg250
  z119 := Tryz.sizeOf250
  t127 := Tryz.underlying206
  a127 := Tryz.isAgg206
  z127 := Tryz.sizeOf206
  v127 := Tryz.zeroValue206
  t138 := Tryz.underlying252
  a138 := Tryz.isAgg252
  z138 := Tryz.sizeOf252
  v138 := Tryz.zeroValue252
  t139 := Tryz.underlying253
  a139 := Tryz.isAgg253
  z139 := Tryz.sizeOf253
  v139 := Tryz.zeroValue253
  t146 := Tryz.underlying354
  a146 := Tryz.isAgg354
  z146 := Tryz.sizeOf354
  v146 := Tryz.zeroValue354
  t164 := Tryz.underlying152
  a164 := Tryz.isAgg152
  z164 := Tryz.sizeOf152
  v164 := Tryz.zeroValue152
  g1 := by kernel_rfl
  g3 := by kernel_rfl
  g4 := by kernel_rfl }
theorem Tryz.Builder_Extra_155 : Builder.Extra Tryz.prog Tryz.lays155_ren := {
  sizeBuilder := by kernel_rfl
  liesBuilder := by kernel_rfl
  t5 := Tryz.underlying5
  a5 := Tryz.isAgg5
  z5 := Tryz.sizeOf5
  v5 := Tryz.zeroValue5
  infoByte := by kernel_rfl
  cellsByte := by kernel_rfl
  sizeByte := by kernel_rfl
  neB5 := by decide }
open Go.RowKit Go.Lib in
theorem Tryz.strings_ReplaceAll (s old new : ByteArray) (m : Int) (w : World) (hs : s.size < 4294967281) (hm : w.cell? ⟨3, 0, none⟩ = some (.int .i64 m)) (h1 : 1 ≤ old.size) (hlen : s.size + Lib.countB s old * new.size ≤ 140737488355328) :
    Calls Tryz.prog 226 #[.string s, .string old, .string new] w fun e w' =>
      e = .returned (.string ⟨(Lib.replaceAll s.data.toList old.data.toList new.data.toList).toArray⟩) ∧ Below w.heap.size w w' := Any.strings_ReplaceAll Tryz.lays155 Tryz.Builder_Extra_155 s old new m w hs hm h1 hlen
def Tryz.lays166_ren : Go.Shelf.Ren := ⟨fun | 166 => 201 | 240 => 110 | 276 => 150 | n => n, fun | 0 => 0 | 3 => 3 | 4 => 4 | 5 => 5 | 9 => 9 | 20 => 20 | 21 => 21 | 37 => 146 | 46 => 254 | 51 => 264 | 70 => 145 | 72 => 148 | 75 => 67 | 80 => 151 | 164 => 152 | 76 => 122 | n => n, fun | n => n⟩
theorem Tryz.lays166 : Go.Proofs.Lays.n166 Tryz.prog Tryz.lays166_ren := {
  mixed := by kernel_rfl
  f166 := Tryz.func201.trans (congrArg some (by kernel_rfl))
  f240 := Tryz.func110.trans (congrArg some (by kernel_rfl))
  f276 := Tryz.func150.trans (congrArg some (by kernel_rfl))
  t0 := Tryz.underlying0
  a0 := Tryz.isAgg0
  z0 := Tryz.sizeOf0
  v0 := Tryz.zeroValue0
  t3 := Tryz.underlying3
  a3 := Tryz.isAgg3
  z3 := Tryz.sizeOf3
  v3 := Tryz.zeroValue3
  t4 := Tryz.underlying4
  a4 := Tryz.isAgg4
  z4 := Tryz.sizeOf4
  v4 := Tryz.zeroValue4
  t9 := Tryz.underlying9
  a9 := Tryz.isAgg9
  z9 := Tryz.sizeOf9
  v9 := Tryz.zeroValue9
  t20 := Tryz.underlying20
  a20 := Tryz.isAgg20
  z20 := Tryz.sizeOf20
  v20 := Tryz.zeroValue20
  t37 := Tryz.underlying146
  a37 := Tryz.isAgg146
  z37 := Tryz.sizeOf146
  v37 := Tryz.zeroValue146
  t70 := Tryz.underlying145
  a70 := Tryz.isAgg145
  z70 := Tryz.sizeOf145
  v70 := Tryz.zeroValue145
  t72 := Tryz.underlying148
  a72 := Tryz.isAgg148
  z72 := Tryz.sizeOf148
  v72 := Tryz.zeroValue148
  t75 := Tryz.underlying67
  a75 := Tryz.isAgg67
  z75 := Tryz.sizeOf67
  v75 := Tryz.zeroValue67
  t164 := Tryz.underlying152
  a164 := Tryz.isAgg152
  z164 := Tryz.sizeOf152
  v164 := Tryz.zeroValue152 }
theorem Tryz.Builder_Extra_166 : Builder.Extra Tryz.prog Tryz.lays166_ren := {
  sizeBuilder := by kernel_rfl
  liesBuilder := by kernel_rfl
  t5 := Tryz.underlying5
  a5 := Tryz.isAgg5
  z5 := Tryz.sizeOf5
  v5 := Tryz.zeroValue5
  infoByte := by kernel_rfl
  cellsByte := by kernel_rfl
  sizeByte := by kernel_rfl
  neB5 := by decide }
open Go.RowKit in
theorem Tryz.Builder_WriteString_k (B b : Nat) (bs : List Value) (s : ByteArray) (w : World) (h : Lib.IsBuilderF 148 5 B b bs w) (hlen : bs.length + s.size ≤ 140737488355328) (hBw : B ≤ w.heap.size) :
    Calls Tryz.prog 201 #[.pointer (some ⟨b, 0, none⟩), .string s] w fun e w' => e = .returned (.tuple #[.int .i64 s.size, .nilIface]) ∧ (Lib.BuilderAtF 148 5 B b (.pointer (some ⟨b, 0, none⟩)) (bs ++ Lib.strCells s) w' ∧ Below B w w' ∧ Lib.OthersKept 5 (some b) w w') := Any.Builder_WriteString_k Tryz.lays166 Tryz.Builder_Extra_166 B b bs s w h hlen hBw
end Go.Proofs
namespace Go.Proofs.YtaepcfidpekflaaGreatDoor.Pg
open Go.Proofs.YtaepcfidpekflaaGreatDoor

/-- A code point's number, whatever stands behind it. -/
theorem rv_app {c : T} (h : Pt c) (r : T) : Lib.decodeL (c ++ r) = Lib.decodeL c := by
  rcases h.1 with ⟨b, rfl, hb⟩ | ⟨h2, _⟩
  · rw [List.singleton_append, Lib.decodeL_ascii b r hb, Lib.decodeL_ascii b [] hb]
  · have hd := h.dec.2
    rw [Lib.decodeL_N] at hd
    have g : ∀ i, i < c.length → (c ++ r).getD i 0 = c.getD i 0 := fun i hi => by
      simp [List.getElem?_append_left hi]
    rw [Lib.decodeL_N, Lib.decodeL_N, g 0 (by omega)]
    exact Lib.decodeN_more c.length (c ++ r).length _ _ _ _ _ _ _ h2 (by simp) hd (fun h => by rw [g 1 h]) (fun h => by rw [g 2 h]) (fun h => by rw [g 3 h])
/-- The code point that stands ahead. -/
theorem head_pt {R : T} (hR : R ≠ []) (hz : Pn.szL R ≠ 0) : Pt (R.take (Pn.szL R)) ∧ (Lib.decodeL R).2 = Pn.szL R ∧ rv (R.take (Pn.szL R)) = (Lib.decodeL R).1 ∧ (R.take (Pn.szL R)).length = Pn.szL R := by
  have hle := Pn.szL_le R hR
  have hl : (R.take (Pn.szL R)).length = Pn.szL R := by rw [List.length_take]; omega
  have hp : Pt (R.take (Pn.szL R)) := ⟨(szL_any R hz hR []).2, fun r => by rw [(szL_any R hz hR r).1, hl]⟩
  have hd := Pn.szL_dec R
  refine ⟨hp, ?_, ?_, hl⟩
  · split at hd
    · omega
    · exact hd.symm
  · have := rv_app hp (R.drop (Pn.szL R))
    rw [List.take_append_drop] at this
    unfold rv
    rw [this]
theorem pts_len_le {rs : List T} (h : Pts rs) : rs.length ≤ rs.flatten.length := by
  induction rs with
  | nil => simp
  | cons c r ih =>
    have h1 := (h c (by simp)).1.ne
    have h2 : 0 < c.length := List.length_pos_iff.2 h1
    have h3 := ih (fun x hx => h x (by simp [hx]))
    simp only [List.length_cons, List.flatten_cons, List.length_append]
    omega
/-- Pieces, and behind them what begins no code point. -/
theorem pts_part : ∀ (rs : List T) (R : T) (n : Nat), Pts rs → R ≠ [] → Pn.szL R = 0 → rs.length ≤ n → Pn.ptsN (n + 1) (rs.flatten ++ R) = rs ∧ Pn.lenN (n + 1) (rs.flatten ++ R) = rs.flatten.length := by
  intro rs
  induction rs with
  | nil =>
    intro R n _ hR hz _
    simp only [List.flatten_nil, List.nil_append]
    rw [Pn.ptsN, Pn.lenN, if_neg hR, if_pos hz, if_neg hR, if_pos hz]
    exact ⟨rfl, rfl⟩
  | cons c r ih =>
    intro R n h hR hz hn
    obtain ⟨m, rfl⟩ : ∃ m, n = m + 1 := ⟨n - 1, by simp at hn; omega⟩
    have hc := h c (by simp)
    have hne : c ++ (r.flatten ++ R) ≠ [] := by simp [hc.1.ne]
    have hsz := hc.2 (r.flatten ++ R)
    have hl : c.length ≠ 0 := fun e => hc.1.ne (List.length_eq_zero_iff.1 e)
    obtain ⟨i1, i2⟩ := ih R m (fun x hx => h x (by simp [hx])) hR hz (by simp at hn; omega)
    rw [List.flatten_cons, List.append_assoc, Pn.ptsN, Pn.lenN, if_neg hne, if_neg (by rw [hsz]; exact hl), if_neg hne, if_neg (by rw [hsz]; exact hl), hsz]
    simp only [List.take_left, List.drop_left]
    rw [i1, i2]
    exact ⟨rfl, by simp⟩
end Go.Proofs.YtaepcfidpekflaaGreatDoor.Pg
namespace Go.Proofs.YtaepcfidpekflaaGreatDoor
open Go.RowKit Pg

theorem info_i32 : (Tryz.prog.info? 21).map (fun i => (i.zero, i.size, i.bytes)) = some (some (.int .i32 0), 1, 4) := by kernel_rfl
theorem owns_len {w : World} {B : Nat} {T : TypeId} {k : Nat} {v : Value} {n : Nat} {vs : List Value} (h : w.ownsRow B T k v n vs) : ∃ a c, v = .slice a n c := by
  rcases h.2 with ⟨rfl, hz⟩ | ⟨g, cap, cur, rfl, _⟩
  · exact ⟨none, 0, by rw [hz]⟩
  · exact ⟨_, _, rfl⟩
def rnV (c : Pg.T) : Value := .int .i32 (rv c)
/-- What the taking apart of a text answers. -/
def RunesSaid (s : Pg.T) (w : World) (e : Ending) (w' : World) : Prop := Below w.heap.size w w' ∧
  ((1000 < s.length ∧ ∃ v, e = .returned (.tuple #[.slice none 0 0, v]) ∧ Flt w.heap.size w' v 1 0) ∨
   (s.length ≤ 1000 ∧ Pn.ptsLen s < s.length ∧ ∃ v, e = .returned (.tuple #[.slice none 0 0, v]) ∧ Flt w.heap.size w' v 2 (Pn.pts s).length) ∨
   (s.length ≤ 1000 ∧ Pn.ptsLen s = s.length ∧ ∃ a c, e = .returned (.tuple #[.slice a (Pn.pts s).length c, .nilIface]) ∧ Rns w'.heap.size w' a c (Pn.pts s) ∧ (Pn.pts s).length ≤ c))
set_option maxHeartbeats 6400000 in
theorem prunesOf_any (s : Pg.T) (w : World) (hU : Lib.Utf8Tabs 1 2 w) (hs : s.length ≤ 1000000) :
    Calls Tryz.prog 126 #[.string ⟨s.toArray⟩] w fun e w' => RunesSaid s w e w' := by
  have kf := pfault_any w 1 0
  by_cases hl : 1000 < s.length
  · have hl' : (1000 : Int) < s.length := by omega
    have HL : Hid (1000 < s.length) := hl
    clear hl
    go_enter Tryz.func126, Tryz.ntmps126
    go_wp2_with (go_at_call 158; refine kf.mono ?_; rintro e w1 ⟨⟨v, rfl, hv⟩, hb1⟩)
    go_ret2
    exact ⟨hb1, .inl ⟨HL.out, _, rfl, hv⟩⟩
  · have hl' : ¬ (1000 : Int) < s.length := by omega
    clear kf
    obtain ⟨i0, hi0, hz0, hz1', hz2'⟩ := info_parts info_i32
    have HI : Hid (Tryz.prog.info? 21 = some i0 ∧ i0.zero = some (.int .i32 0) ∧ i0.size = 1 ∧ i0.bytes = 4) := ⟨hi0, hz0, hz1', hz2'⟩
    clear hi0 hz0 hz1' hz2'
    go_enter Tryz.func126, Tryz.ntmps126
    go_wp2_with fail
    go_loopw [0, 4] (fun x y wr => ∃ (R : Pg.T) (rs : List Pg.T) (lv : Value), x = .string ⟨R.toArray⟩ ∧ y = lv ∧ Hid (Pts rs) ∧ Hid (s = rs.flatten ++ R) ∧ Hid (wr.ownsRow w.heap.size 21 1 lv rs.length (rs.map rnV)) ∧ Hid (Below w.heap.size w wr)) (fun x _ _ => match x with | .string q => q.size | _ => 0)
    case atStart => exact ⟨s, [], .slice none 0 0, rfl, rfl, fun c h => by simp at h, rfl, World.ownsRow_nil _ _ _ _, Below.refl _ _⟩
    case round =>
      obtain ⟨R, rs, lv, rfl, rfl, HP, HE, HO, HW⟩ := hrel
      have hrl : rs.length + R.length ≤ s.length := by
        have := pts_len_le HP.out
        rw [HE.out, List.length_append]
        omega
      obtain ⟨la, lc, rfl⟩ := owns_len HO.out
      by_cases hR : R = []
      · have hR' : (R == ([] : Pg.T)) = true := by rw [hR]; rfl
        have hs2 : s = rs.flatten := by have := HE.out; rw [hR, List.append_nil] at this; exact this
        have HPS : Hid (Pn.pts s = rs ∧ Pn.ptsLen s = s.length) := by
          rw [hs2]
          exact pts_flat rs rs.flatten.length HP.out (Nat.le_refl _)
        have HRN : Hid (Rns wr.heap.size wr la lc rs ∧ rs.length ≤ lc) := by
          rcases HO.out.2 with ⟨hv, hz⟩ | ⟨g, cap, cur, hv, hb, hg, hnc, hcm, hcs, htake⟩
          · simp only [Value.slice.injEq] at hv
            exact ⟨.inl ⟨List.length_eq_zero_iff.1 hz, hv.1, hv.2.2⟩, by omega⟩
          · simp only [Value.slice.injEq, true_and] at hv
            obtain ⟨rfl, rfl⟩ := hv
            refine ⟨.inr ⟨g, rfl, (World.ownsRow.lt HO.out g rfl).2, (World.ownsRow.lt HO.out g rfl).2, fun j hj => ?_⟩, hnc⟩
            rw [HO.out.cellAt j (by omega)]
            simp [hj, rnV]
        clear hR hs2
        go_wp2
        go_ret2
        refine ⟨HW.out, .inr (.inr ⟨by omega, HPS.out.2, la, lc, ?_, ?_, ?_⟩)⟩
        · rw [HPS.out.1]; rfl
        · rw [HPS.out.1]; exact HRN.out.1
        · rw [HPS.out.1]; exact HRN.out.2
      · have hR' : (R == ([] : Pg.T)) = false := by rw [beq_eq_false_iff_ne]; exact hR
        have hne : (⟨R.toArray⟩ : ByteArray).size ≠ 0 := by
          show R.toArray.size ≠ 0
          simp [hR]
        have kd := Tryz.utf8_DecodeRuneInString ⟨R.toArray⟩ wr (Utf8Tabs_below hU HW.out)
        rw [show Lib.decodeGo ⟨R.toArray⟩ = Lib.decodeL R from by unfold Lib.decodeGo; rw [if_neg hne]; rfl] at kd
        have hd1 := Lib.decodeL_rune R
        have hd2 := Lib.decodeL_width R
        have hd3 := Lib.decodeL_le R hR
        have hsz := Pn.szL_dec R
        by_cases hbad : (Lib.decodeL R).1 = 65533 ∧ (Lib.decodeL R).2 = 1
        · rw [if_pos hbad] at hsz
          rw [hbad.1, hbad.2] at kd
          have HPS : Hid (Pn.pts s = rs ∧ Pn.ptsLen s < s.length) := by
            have h1 := pts_part rs R (s.length - 1) HP.out hR hsz (by have : 0 < R.length := List.length_pos_iff.2 hR; omega)
            have hsl : s.length - 1 + 1 = s.length := by have : 0 < R.length := List.length_pos_iff.2 hR; omega
            rw [hsl, ← HE.out] at h1
            refine ⟨h1.1, ?_⟩
            show Pn.lenN s.length s < s.length
            rw [h1.2]
            have := congrArg List.length HE.out
            rw [List.length_append] at this
            have : 0 < R.length := List.length_pos_iff.2 hR
            omega
          clear hR hbad hsz hd1 hd2 hd3 hne
          go_wp2_with fail
          refine kd.mono ?_
          rintro e w1 ⟨rfl, hb1⟩
          have kf := pfault_any w1 2 rs.length
          have HW1 : Hid (Below w.heap.size w w1) := below_of HW.out hb1
          clear kd hb1
          go_wp2_with (go_at_call 158; refine kf.mono ?_; rintro e w2 ⟨⟨v, rfl, hv⟩, hb2⟩)
          go_ret2
          refine ⟨below_of HW1.out hb2, .inr (.inl ⟨by omega, HPS.out.2, v, rfl, ?_⟩)⟩
          rw [HPS.out.1]
          exact hv.mono HW1.out.size
        · rw [if_neg hbad] at hsz
          obtain ⟨g1, g2, g3, g4⟩ := head_pt hR (by omega)
          have hbad' : ((((Lib.decodeL R).1 : Int) == 65533) && (((Lib.decodeL R).2 : Int) == 1)) = false := by
            rw [Bool.and_eq_false_iff, beq_eq_false_iff_ne, beq_eq_false_iff_ne]
            omega
          have HNX : Hid (Pts (rs ++ [R.take (Lib.decodeL R).2]) ∧ s = (rs ++ [R.take (Lib.decodeL R).2]).flatten ++ R.drop (Lib.decodeL R).2 ∧ rnV (R.take (Lib.decodeL R).2) = .int .i32 (Lib.decodeL R).1) := by
            rw [← hsz]
            refine ⟨fun c hc => ?_, ?_, ?_⟩
            · rcases List.mem_append.1 hc with hc | hc
              · exact HP.out c hc
              · rw [List.mem_singleton.1 hc]; exact g1
            · rw [List.flatten_append, List.append_assoc]
              simp only [List.flatten_cons, List.flatten_nil, List.append_nil, List.take_append_drop]
              exact HE.out
            · unfold rnV; rw [g3]
          have ex := ex_drop R (Lib.decodeL R).2
          generalize (Lib.decodeL R).1 = D1 at *
          generalize (Lib.decodeL R).2 = D2 at *
          clear hR hbad hsz hne g1 g2 g3 g4
          have hD2 : (D2 : Int) ≤ R.length := by omega
          go_wp2_with fail
          refine kd.mono ?_
          rintro e w1 ⟨rfl, hb1⟩
          have HW1 : Hid (Below w.heap.size w w1) := below_of HW.out hb1
          have HO1 : Hid (w1.ownsRow w.heap.size 21 1 (.slice la rs.length lc) rs.length (rs.map rnV)) := World.ownsRow.kept (row := none) HO.out ⟨hb1.os, hb1.tape, hb1.output, hb1.size, fun k hk _ => hb1.block k hk⟩ (by
            cases e : (Value.slice la rs.length lc).ownBlock with
            | none => exact .inl rfl
            | some _ => exact .inr (by simp))
          have HO2 : Hid ((w1.alloc (.cells #[.int .i32 D1] 21)).ownsRow w.heap.size 21 1 (.slice la rs.length lc) rs.length (rs.map rnV)) := World.ownsRow.alloc HO1.out _
          have hBz := HW1.out.size
          clear kd hb1
          by_cases t1 : (D1 : Int) = 65533
          · have t1' : ((D1 : Int) == 65533) = true := by rw [beq_iff_eq]; exact t1
            have t2' : ((D2 : Int) == 1) = false := by rw [t1'] at hbad'; simpa using hbad'
            clear hbad' t1
            go_wp2_with (at_builtin; refine wpList_append_own_at _ rfl _ _ 232 rfl w.heap.size 21 i0 (.int .i32 0) 1 4 Tryz.underlying232 HI.out.1 HI.out.2.1 HI.out.2.2.1 HI.out.2.2.2 rfl (by decide) (.slice la rs.length lc) rs.length (rs.map rnV) rfl HO2.out ⟨w1.heap.size, 0, none⟩ 1 1 [.int .i32 D1] rfl rfl ?c1 ?c2 ?c3 ?c4 ?c5 ?_)
            case c1 => exact cells_new w1 _ [.int .i32 D1] 21 rfl
            case c2 => intro u hu; rw [List.mem_singleton.1 hu]; rfl
            case c3 => unfold maxLen; omega
            case c4 => omega
            case c5 => simp; omega
            intro v8 w8 hown8 hgrow8 _ hat8
            have HO8 : Hid (w8.ownsRow w.heap.size 21 1 v8 (rs ++ [R.take D2]).length ((rs ++ [R.take D2]).map rnV)) := by
              show World.ownsRow _ _ _ _ _ _ _
              rw [List.map_append, List.length_append]
              simp only [List.map_cons, List.map_nil, List.length_singleton, HNX.out.2.2]
              exact hown8
            have HW8 : Hid (Below w.heap.size w w8) := (below_of HW1.out (allocB w1 _)).grown hgrow8 (by simp; omega) (fun k e => (World.ownsRow.lt HO1.out k e).1)
            obtain ⟨va8, vc8, rfl⟩ := owns_len hown8
            clear hown8 hgrow8 hat8 HO2 HO1 HO
            go_wp2
            refine ⟨⟨R.drop D2, rs ++ [R.take D2], _, rfl, rfl, HNX.out.1, HNX.out.2.1, HO8, HW8⟩, ?_⟩
            show (R.drop D2).toArray.size < R.toArray.size
            simp
            omega
          · have t1' : ((D1 : Int) == 65533) = false := by rw [beq_eq_false_iff_ne]; exact t1
            clear hbad' t1
            go_wp2_with (at_builtin; refine wpList_append_own_at _ rfl _ _ 232 rfl w.heap.size 21 i0 (.int .i32 0) 1 4 Tryz.underlying232 HI.out.1 HI.out.2.1 HI.out.2.2.1 HI.out.2.2.2 rfl (by decide) (.slice la rs.length lc) rs.length (rs.map rnV) rfl HO2.out ⟨w1.heap.size, 0, none⟩ 1 1 [.int .i32 D1] rfl rfl ?c1 ?c2 ?c3 ?c4 ?c5 ?_)
            case c1 => exact cells_new w1 _ [.int .i32 D1] 21 rfl
            case c2 => intro u hu; rw [List.mem_singleton.1 hu]; rfl
            case c3 => unfold maxLen; omega
            case c4 => omega
            case c5 => simp; omega
            intro v8 w8 hown8 hgrow8 _ hat8
            have HO8 : Hid (w8.ownsRow w.heap.size 21 1 v8 (rs ++ [R.take D2]).length ((rs ++ [R.take D2]).map rnV)) := by
              show World.ownsRow _ _ _ _ _ _ _
              rw [List.map_append, List.length_append]
              simp only [List.map_cons, List.map_nil, List.length_singleton, HNX.out.2.2]
              exact hown8
            have HW8 : Hid (Below w.heap.size w w8) := (below_of HW1.out (allocB w1 _)).grown hgrow8 (by simp; omega) (fun k e => (World.ownsRow.lt HO1.out k e).1)
            obtain ⟨va8, vc8, rfl⟩ := owns_len hown8
            clear hown8 hgrow8 hat8 HO2 HO1 HO
            go_wp2
            refine ⟨⟨R.drop D2, rs ++ [R.take D2], _, rfl, rfl, HNX.out.1, HNX.out.2.1, HO8, HW8⟩, ?_⟩
            show (R.drop D2).toArray.size < R.toArray.size
            simp
            omega
end Go.Proofs.YtaepcfidpekflaaGreatDoor
