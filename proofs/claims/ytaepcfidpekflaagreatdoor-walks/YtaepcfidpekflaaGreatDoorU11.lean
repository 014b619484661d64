/-
  Several texts in one (Sw, Qy, Mi, Mj). By the verifier.
-/
import Derived.Shelf.Strings.Trim
import Derived.Shelf.Strings.Prefix
import Derived.Shelf.GgClosure.StringsTrimFunc
import Derived.Shelf.Strconv.Itoa3
import Derived.Shelf.Pu.ParseUintPublic10
import Derived.Shelf.Slices.Turned
import Derived.Test.YtaepcfidpekflaaGreatDoorU10
import Derived.Test.YtaepcfidpekflaaGreatDoorU01
import Derived.Test.YtaepcfidpekflaaGreatDoorU04
namespace Go.Proofs
open Go.Shelf
def Tryz.lays162_ren : Go.Shelf.Ren := ⟨fun | 162 => 271 | 232 => 144 | 227 => 145 | 234 => 147 | 236 => 149 | 228 => 180 | 271 => 182 | 151 => 181 | 120 => 212 | 197 => 159 | 152 => 211 | 260 => 191 | 137 => 230 | 119 => 106 | 224 => 178 | 225 => 177 | 217 => 176 | 266 => 209 | n => n, fun | 9 => 9 | 4 => 4 | 3 => 3 | 5 => 5 | 117 => 259 | 116 => 258 | 0 => 0 | 124 => 262 | 21 => 21 | 105 => 272 | 46 => 254 | 119 => 250 | 139 => 253 | 138 => 252 | n => n, fun | 3 => 1 | 4 => 2 | n => n⟩
theorem Tryz.lays162 : Go.Proofs.Lays.n162 Tryz.prog Tryz.lays162_ren := {
  mixed := by kernel_rfl
  f119 := Tryz.func106.trans (congrArg some (by kernel_rfl))
  f120 := Tryz.func212.trans (congrArg some (by kernel_rfl))
  f137 := Tryz.func230.trans (congrArg some (by kernel_rfl))
  f151 := Tryz.func181.trans (congrArg some (by kernel_rfl))
  f152 := Tryz.func211.trans (congrArg some (by kernel_rfl))
  f162 := Tryz.func271.trans (congrArg some (by kernel_rfl))
  f197 := Tryz.func159.trans (congrArg some (by kernel_rfl))
  f217 := Tryz.func176.trans (congrArg some (by kernel_rfl))
  f224 := Tryz.func178.trans (congrArg some (by kernel_rfl))
  f225 := Tryz.func177.trans (congrArg some (by kernel_rfl))
  f227 := Tryz.func145.trans (congrArg some (by kernel_rfl))
  f228 := Tryz.func180.trans (congrArg some (by kernel_rfl))
  f232 := Tryz.func144.trans (congrArg some (by kernel_rfl))
  f234 := Tryz.func147.trans (congrArg some (by kernel_rfl))
  f236 := Tryz.func149.trans (congrArg some (by kernel_rfl))
  f260 := Tryz.func191.trans (congrArg some (by kernel_rfl))
  f266 := Tryz.func209.trans (congrArg some (by kernel_rfl))
  f271 := Tryz.func182.trans (congrArg some (by kernel_rfl))
  t0 := Tryz.underlying0
  a0 := Tryz.isAgg0
  z0 := Tryz.sizeOf0
  v0 := Tryz.zeroValue0
  t3 := Tryz.underlying3
  a3 := Tryz.isAgg3
  z3 := Tryz.sizeOf3
  v3 := Tryz.zeroValue3
  t4 := Tryz.underlying4
  a4 := Tryz.isAgg4
  z4 := Tryz.sizeOf4
  v4 := Tryz.zeroValue4
  t5 := Tryz.underlying5
  a5 := Tryz.isAgg5
  z5 := Tryz.sizeOf5
  v5 := Tryz.zeroValue5
  t9 := Tryz.underlying9
  a9 := Tryz.isAgg9
  z9 := Tryz.sizeOf9
  v9 := Tryz.zeroValue9
  t21 := Tryz.underlying21
  a21 := Tryz.isAgg21
  z21 := Tryz.sizeOf21
  v21 := Tryz.zeroValue21
  t46 := Tryz.underlying254
  a46 := Tryz.isAgg254
  z46 := Tryz.sizeOf254
  v46 := Tryz.zeroValue254
  t105 := Tryz.underlying272
  a105 := Tryz.isAgg272
  z105 := Tryz.sizeOf272
  v105 := Tryz.zeroValue272
  t116 := Tryz.underlying258
  a116 := Tryz.isAgg258
  z116 := Tryz.sizeOf258
  t117 := Tryz.underlying259
  a117 := Tryz.isAgg259
  z117 := Tryz.sizeOf259
  v117 := Tryz.zeroValue259
  t119 := Tryz.underlying250
  a119 := Tryz.isAgg250
  z119 := Tryz.sizeOf250
  t124 := Tryz.underlying262
  a124 := Tryz.isAgg262
  z124 := Tryz.sizeOf262
  v124 := Tryz.zeroValue262
  t138 := Tryz.underlying252
  a138 := Tryz.isAgg252
  z138 := Tryz.sizeOf252
  v138 := Tryz.zeroValue252
  t139 := Tryz.underlying253
  a139 := Tryz.isAgg253
  z139 := Tryz.sizeOf253
  v139 := Tryz.zeroValue253
  g3 := by kernel_rfl
  g4 := by kernel_rfl }
open Go.RowKit in
theorem Tryz.strings_TrimRight_one (s : ByteArray) (c : UInt8) (hc : c.toNat < 128) (w : World) (hs : s.size ≤ 9223372036854775807) :
    Calls Tryz.prog 271 #[.string s, .string ⟨#[c]⟩] w fun e w' => e = .returned (.string ⟨(Lib.trimRightB s.data.toList c).toArray⟩) ∧ w' = w := Any.strings_TrimRight_one Tryz.lays162 s c hc w hs
def Tryz.lays161_ren : Go.Shelf.Ren := ⟨fun | 161 => 306 | 231 => 143 | 227 => 145 | 233 => 146 | 235 => 148 | 228 => 180 | 197 => 159 | 151 => 181 | 260 => 191 | 152 => 211 | 137 => 230 | 119 => 106 | 224 => 178 | 225 => 177 | 217 => 176 | 266 => 209 | n => n, fun | 9 => 9 | 4 => 4 | 3 => 3 | 5 => 5 | 117 => 259 | 116 => 258 | 0 => 0 | 124 => 262 | 105 => 272 | 21 => 21 | 119 => 250 | 46 => 254 | 139 => 253 | 138 => 252 | n => n, fun | 3 => 1 | 4 => 2 | n => n⟩
theorem Tryz.lays161 : Go.Proofs.Lays.n161 Tryz.prog Tryz.lays161_ren := {
  mixed := by kernel_rfl
  f119 := Tryz.func106.trans (congrArg some (by kernel_rfl))
  f137 := Tryz.func230.trans (congrArg some (by kernel_rfl))
  f151 := Tryz.func181.trans (congrArg some (by kernel_rfl))
  f152 := Tryz.func211.trans (congrArg some (by kernel_rfl))
  f161 := Tryz.func306.trans (congrArg some (by kernel_rfl))
  f197 := Tryz.func159.trans (congrArg some (by kernel_rfl))
  f217 := Tryz.func176.trans (congrArg some (by kernel_rfl))
  f224 := Tryz.func178.trans (congrArg some (by kernel_rfl))
  f225 := Tryz.func177.trans (congrArg some (by kernel_rfl))
  f227 := Tryz.func145.trans (congrArg some (by kernel_rfl))
  f228 := Tryz.func180.trans (congrArg some (by kernel_rfl))
  f231 := Tryz.func143.trans (congrArg some (by kernel_rfl))
  f233 := Tryz.func146.trans (congrArg some (by kernel_rfl))
  f235 := Tryz.func148.trans (congrArg some (by kernel_rfl))
  f260 := Tryz.func191.trans (congrArg some (by kernel_rfl))
  f266 := Tryz.func209.trans (congrArg some (by kernel_rfl))
  t0 := Tryz.underlying0
  a0 := Tryz.isAgg0
  z0 := Tryz.sizeOf0
  v0 := Tryz.zeroValue0
  t3 := Tryz.underlying3
  a3 := Tryz.isAgg3
  z3 := Tryz.sizeOf3
  v3 := Tryz.zeroValue3
  t4 := Tryz.underlying4
  a4 := Tryz.isAgg4
  z4 := Tryz.sizeOf4
  v4 := Tryz.zeroValue4
  t5 := Tryz.underlying5
  a5 := Tryz.isAgg5
  z5 := Tryz.sizeOf5
  v5 := Tryz.zeroValue5
  t9 := Tryz.underlying9
  a9 := Tryz.isAgg9
  z9 := Tryz.sizeOf9
  v9 := Tryz.zeroValue9
  t21 := Tryz.underlying21
  a21 := Tryz.isAgg21
  z21 := Tryz.sizeOf21
  v21 := Tryz.zeroValue21
  t46 := Tryz.underlying254
  a46 := Tryz.isAgg254
  z46 := Tryz.sizeOf254
  v46 := Tryz.zeroValue254
  t105 := Tryz.underlying272
  a105 := Tryz.isAgg272
  z105 := Tryz.sizeOf272
  v105 := Tryz.zeroValue272
  t116 := Tryz.underlying258
  a116 := Tryz.isAgg258
  z116 := Tryz.sizeOf258
  t117 := Tryz.underlying259
  a117 := Tryz.isAgg259
  z117 := Tryz.sizeOf259
  v117 := Tryz.zeroValue259
  t119 := Tryz.underlying250
  a119 := Tryz.isAgg250
  z119 := Tryz.sizeOf250
  t124 := Tryz.underlying262
  a124 := Tryz.isAgg262
  z124 := Tryz.sizeOf262
  v124 := Tryz.zeroValue262
  t138 := Tryz.underlying252
  a138 := Tryz.isAgg252
  z138 := Tryz.sizeOf252
  v138 := Tryz.zeroValue252
  t139 := Tryz.underlying253
  a139 := Tryz.isAgg253
  z139 := Tryz.sizeOf253
  v139 := Tryz.zeroValue253
  g3 := by kernel_rfl
  g4 := by kernel_rfl }
open Go.RowKit in
theorem Tryz.strings_TrimLeft_one (s : ByteArray) (c : UInt8) (hc : c.toNat < 128) (w : World) :
    Calls Tryz.prog 306 #[.string s, .string ⟨#[c]⟩] w fun e w' => e = .returned (.string ⟨(Lib.trimLeftB s.data.toList c).toArray⟩) ∧ w' = w := Any.strings_TrimLeft_one Tryz.lays161 s c hc w
def Tryz.lays99_ren : Go.Shelf.Ren := ⟨fun | 99 => 187 | 206 => 141 | n => n, fun | 9 => 9 | 4 => 4 | 3 => 3 | n => n, fun | n => n⟩
theorem Tryz.lays99 : Go.Proofs.Lays.n99 Tryz.prog Tryz.lays99_ren := {
  mixed := by kernel_rfl
  f99 := Tryz.func187.trans (congrArg some (by kernel_rfl))
  f206 := Tryz.func141.trans (congrArg some (by kernel_rfl))
  t3 := Tryz.underlying3
  a3 := Tryz.isAgg3
  z3 := Tryz.sizeOf3
  v3 := Tryz.zeroValue3
  t4 := Tryz.underlying4
  a4 := Tryz.isAgg4
  z4 := Tryz.sizeOf4
  v4 := Tryz.zeroValue4
  t9 := Tryz.underlying9
  a9 := Tryz.isAgg9
  z9 := Tryz.sizeOf9
  v9 := Tryz.zeroValue9 }
open Go.RowKit Go.Lib in
theorem Tryz.strings_HasPrefix (s p : ByteArray) (w : World) :
    Calls Tryz.prog 187 #[.string s, .string p] w fun e w' => e = .returned (.bool (Lib.hasPrefix s.data.toList p.data.toList)) ∧ w' = w := Any.strings_HasPrefix Tryz.lays99 s p w
def Tryz.lays272_ren : Go.Shelf.Ren := ⟨fun | 272 => 213 | 315 => 231 | n => n, fun | 9 => 9 | 40 => 95 | 4 => 4 | 3 => 3 | 0 => 0 | 21 => 21 | n => n, fun | n => n⟩
theorem Tryz.lays272 : Go.Proofs.Lays.n272 Tryz.prog Tryz.lays272_ren := {
  mixed := by kernel_rfl
  f272 := Tryz.func213.trans (congrArg some (by kernel_rfl))
  f315 := Tryz.func231.trans (congrArg some (by kernel_rfl))
  t0 := Tryz.underlying0
  a0 := Tryz.isAgg0
  z0 := Tryz.sizeOf0
  v0 := Tryz.zeroValue0
  t3 := Tryz.underlying3
  a3 := Tryz.isAgg3
  z3 := Tryz.sizeOf3
  v3 := Tryz.zeroValue3
  t4 := Tryz.underlying4
  a4 := Tryz.isAgg4
  z4 := Tryz.sizeOf4
  v4 := Tryz.zeroValue4
  t9 := Tryz.underlying9
  a9 := Tryz.isAgg9
  z9 := Tryz.sizeOf9
  v9 := Tryz.zeroValue9
  t21 := Tryz.underlying21
  a21 := Tryz.isAgg21
  z21 := Tryz.sizeOf21
  v21 := Tryz.zeroValue21
  t40 := Tryz.underlying95
  a40 := Tryz.isAgg95
  z40 := Tryz.sizeOf95
  v40 := Tryz.zeroValue95 }
open Go.RowKit Go.Lib in
theorem Tryz.strings_TrimLeftFunc (g : Nat) (lb : Array Value) (eg : ∀ args w, (callFunc g args).run Tryz.prog w = .ok (.enter g args) w) (p : Nat → Bool) (s : ByteArray) (w : World) (hp : PredAt Tryz.prog g lb encR p w) :
    Calls Tryz.prog 213 #[.string s, .func (.func g) #[] lb] w fun e w' => e = .returned (.string (Lib.trimLeftF p s)) ∧ Below w.heap.size w w' := Any.strings_TrimLeftFunc Tryz.lays272 g lb eg p s w hp
def Tryz.lays171_ren : Go.Shelf.Ren := ⟨fun | 171 => 272 | 243 => 288 | 246 => 302 | 283 => 267 | 284 => 268 | 285 => 269 | 286 => 270 | 129 => 284 | 317 => 283 | 318 => 285 | 319 => 286 | 320 => 287 | 337 => 300 | 338 => 301 | n => n, fun | 3 => 3 | 9 => 9 | 2 => 2 | 4 => 4 | 171 => 394 | 0 => 0 | 53 => 314 | 37 => 146 | 5 => 5 | 173 => 397 | 212 => 406 | 51 => 264 | 20 => 20 | 213 => 407 | 46 => 254 | 232 => 422 | 233 => 423 | n => n, fun | 17 => 4 | 18 => 7 | 19 => 8 | n => n⟩
theorem Tryz.lays171 : Go.Proofs.Lays.n171 Tryz.prog Tryz.lays171_ren := {
  mixed := by kernel_rfl
  f129 := Tryz.func284.trans (congrArg some (by kernel_rfl))
  f171 := Tryz.func272.trans (congrArg some (by kernel_rfl))
  f243 := Tryz.func288.trans (congrArg some (by kernel_rfl))
  f246 := Tryz.func302.trans (congrArg some (by kernel_rfl))
  f283 := Tryz.func267.trans (congrArg some (by kernel_rfl))
  f284 := Tryz.func268.trans (congrArg some (by kernel_rfl))
  f285 := Tryz.func269.trans (congrArg some (by kernel_rfl))
  f286 := Tryz.func270.trans (congrArg some (by kernel_rfl))
  f317 := Tryz.func283.trans (congrArg some (by kernel_rfl))
  f318 := Tryz.func285.trans (congrArg some (by kernel_rfl))
  f319 := Tryz.func286.trans (congrArg some (by kernel_rfl))
  f320 := Tryz.func287.trans (congrArg some (by kernel_rfl))
  f337 := Tryz.func300.trans (congrArg some (by kernel_rfl))
  f338 := Tryz.func301.trans (congrArg some (by kernel_rfl))
  t0 := Tryz.underlying0
  a0 := Tryz.isAgg0
  z0 := Tryz.sizeOf0
  v0 := Tryz.zeroValue0
  t2 := Tryz.underlying2
  a2 := Tryz.isAgg2
  z2 := Tryz.sizeOf2
  v2 := Tryz.zeroValue2
  t3 := Tryz.underlying3
  a3 := Tryz.isAgg3
  z3 := Tryz.sizeOf3
  v3 := Tryz.zeroValue3
  t4 := Tryz.underlying4
  a4 := Tryz.isAgg4
  z4 := Tryz.sizeOf4
  v4 := Tryz.zeroValue4
  t5 := Tryz.underlying5
  a5 := Tryz.isAgg5
  z5 := Tryz.sizeOf5
  v5 := Tryz.zeroValue5
  t9 := Tryz.underlying9
  a9 := Tryz.isAgg9
  z9 := Tryz.sizeOf9
  v9 := Tryz.zeroValue9
  t20 := Tryz.underlying20
  a20 := Tryz.isAgg20
  z20 := Tryz.sizeOf20
  v20 := Tryz.zeroValue20
  t37 := Tryz.underlying146
  a37 := Tryz.isAgg146
  z37 := Tryz.sizeOf146
  v37 := Tryz.zeroValue146
  t46 := Tryz.underlying254
  a46 := Tryz.isAgg254
  z46 := Tryz.sizeOf254
  v46 := Tryz.zeroValue254
  t51 := Tryz.underlying264
  a51 := Tryz.isAgg264
  z51 := Tryz.sizeOf264
  v51 := Tryz.zeroValue264
  t53 := Tryz.underlying314
  a53 := Tryz.isAgg314
  z53 := Tryz.sizeOf314
  v53 := Tryz.zeroValue314
  t171 := Tryz.underlying394
  a171 := Tryz.isAgg394
  z171 := Tryz.sizeOf394
  v171 := Tryz.zeroValue394
  t173 := Tryz.underlying397
  a173 := Tryz.isAgg397
  z173 := Tryz.sizeOf397
  v173 := Tryz.zeroValue397
  t212 := Tryz.underlying406
  a212 := Tryz.isAgg406
  z212 := Tryz.sizeOf406
  v212 := Tryz.zeroValue406
  t213 := Tryz.underlying407
  a213 := Tryz.isAgg407
  z213 := Tryz.sizeOf407
  t232 := Tryz.underlying422
  a232 := Tryz.isAgg422
  z232 := Tryz.sizeOf422
  v232 := Tryz.zeroValue422
  t233 := Tryz.underlying423
  a233 := Tryz.isAgg423
  z233 := Tryz.sizeOf423
  v233 := Tryz.zeroValue423
  g17 := by kernel_rfl
  g18 := by kernel_rfl
  g19 := by kernel_rfl }
open Go.RowKit Go.Sort Go.Lib in
theorem Tryz.strconv_Itoa_small (i : Nat) (hi : i < 100) (w : World) :
    Calls Tryz.prog 272 #[.int .i64 i] w fun e w' => e = .returned (.string ⟨(Lib.decDigits i).toArray⟩) ∧ w' = w := Any.strconv_Itoa_small Tryz.lays171 i hi w
def Tryz.lays283_ren : Go.Shelf.Ren := ⟨fun | 283 => 267 | n => n, fun | 3 => 3 | 9 => 9 | 4 => 4 | n => n, fun | n => n⟩
theorem Tryz.lays283 : Go.Proofs.Lays.n283 Tryz.prog Tryz.lays283_ren := {
  mixed := by kernel_rfl
  f283 := Tryz.func267.trans (congrArg some (by kernel_rfl))
  t3 := Tryz.underlying3
  a3 := Tryz.isAgg3
  z3 := Tryz.sizeOf3
  v3 := Tryz.zeroValue3
  t4 := Tryz.underlying4
  a4 := Tryz.isAgg4
  z4 := Tryz.sizeOf4
  v4 := Tryz.zeroValue4
  t9 := Tryz.underlying9
  a9 := Tryz.isAgg9
  z9 := Tryz.sizeOf9
  v9 := Tryz.zeroValue9 }
open Go.Lib in
theorem Tryz.internal_strconv_small (i : Nat) (h : i < 100) (w : World) :
    Calls Tryz.prog 267 #[.int .i64 i] w fun e w' => e = .returned (.string ⟨(Lib.decDigits i).toArray⟩) ∧ w' = w := Any.internal_strconv_small Tryz.lays283 i h w
def Tryz.laysM284_ren : Go.Shelf.Ren := ⟨fun | 284 => 268 | 129 => 284 | 317 => 283 | 318 => 285 | n => n, fun | 53 => 314 | 3 => 3 | 212 => 406 | 0 => 0 | 4 => 4 | 46 => 254 | 5 => 5 | 9 => 9 | n => n, fun | 17 => 4 | n => n⟩
theorem Tryz.laysM284 : Go.Proofs.LaysM.n284 Tryz.prog Tryz.laysM284_ren := {
  mixed := by kernel_rfl
  f129 := Tryz.func284.trans (congrArg some (by kernel_rfl))
  f284 := Tryz.func268.trans (congrArg some (by kernel_rfl))
  f317 := Tryz.func283.trans (congrArg some (by kernel_rfl))
  f318 := Tryz.func285.trans (congrArg some (by kernel_rfl))
  t0 := Tryz.underlying0
  a0 := Tryz.isAgg0
  z0 := Tryz.sizeOf0
  v0 := Tryz.zeroValue0
  t3 := Tryz.underlying3
  a3 := Tryz.isAgg3
  z3 := Tryz.sizeOf3
  v3 := Tryz.zeroValue3
  t4 := Tryz.underlying4
  a4 := Tryz.isAgg4
  z4 := Tryz.sizeOf4
  v4 := Tryz.zeroValue4
  t5 := Tryz.underlying5
  a5 := Tryz.isAgg5
  z5 := Tryz.sizeOf5
  v5 := Tryz.zeroValue5
  t9 := Tryz.underlying9
  a9 := Tryz.isAgg9
  z9 := Tryz.sizeOf9
  v9 := Tryz.zeroValue9
  t46 := Tryz.underlying254
  a46 := Tryz.isAgg254
  z46 := Tryz.sizeOf254
  v46 := Tryz.zeroValue254
  t53 := Tryz.underlying314
  a53 := Tryz.isAgg314
  z53 := Tryz.sizeOf314
  v53 := Tryz.zeroValue314
  t212 := Tryz.underlying406
  a212 := Tryz.isAgg406
  z212 := Tryz.sizeOf406
  v212 := Tryz.zeroValue406
  g17 := by kernel_rfl
  i0 := by kernel_rfl
  i3 := by kernel_rfl
  i4 := by kernel_rfl
  i5 := by kernel_rfl
  i9 := by kernel_rfl
  i46 := by kernel_rfl
  i53 := by kernel_rfl
  i212 := by kernel_rfl
  m17 := by kernel_rfl }
open Go.Lib in
theorem Tryz.internal_strconv_numDigits (u : Nat) (h1 : 1 ≤ u) (h2 : u < 18446744073709551616) (w : World) (htab : Lib.TabIs Tryz.prog w "internal/strconv.uint64pow10" .u64 Lib.pow10Tab) :
    Calls Tryz.prog 268 #[.int .u64 u] w fun e w' => e = .returned (.int .i64 (Lib.nDigits u)) ∧ w' = w := Any.internal_strconv_numDigits Tryz.laysM284 u h1 h2 w htab
def Tryz.lays285_ren : Go.Shelf.Ren := ⟨fun | 285 => 269 | n => n, fun | 37 => 146 | 53 => 314 | 3 => 3 | 4 => 4 | 51 => 264 | 9 => 9 | 5 => 5 | 0 => 0 | n => n, fun | n => n⟩
theorem Tryz.lays285 : Go.Proofs.Lays.n285 Tryz.prog Tryz.lays285_ren := {
  mixed := by kernel_rfl
  f285 := Tryz.func269.trans (congrArg some (by kernel_rfl))
  t0 := Tryz.underlying0
  a0 := Tryz.isAgg0
  z0 := Tryz.sizeOf0
  v0 := Tryz.zeroValue0
  t3 := Tryz.underlying3
  a3 := Tryz.isAgg3
  z3 := Tryz.sizeOf3
  v3 := Tryz.zeroValue3
  t4 := Tryz.underlying4
  a4 := Tryz.isAgg4
  z4 := Tryz.sizeOf4
  v4 := Tryz.zeroValue4
  t5 := Tryz.underlying5
  a5 := Tryz.isAgg5
  z5 := Tryz.sizeOf5
  v5 := Tryz.zeroValue5
  t9 := Tryz.underlying9
  a9 := Tryz.isAgg9
  z9 := Tryz.sizeOf9
  v9 := Tryz.zeroValue9
  t37 := Tryz.underlying146
  a37 := Tryz.isAgg146
  z37 := Tryz.sizeOf146
  v37 := Tryz.zeroValue146
  t51 := Tryz.underlying264
  a51 := Tryz.isAgg264
  z51 := Tryz.sizeOf264
  v51 := Tryz.zeroValue264
  t53 := Tryz.underlying314
  a53 := Tryz.isAgg314
  z53 := Tryz.sizeOf314
  v53 := Tryz.zeroValue314 }
open Go.RowKit Go.Sort Go.Lib in
theorem Tryz.internal_strconv_formatBase10 (blk off cap : Nat) (u : Nat) (d : Array UInt8) (w : World) (hH : Holds (fun (b : UInt8) => Value.int .u8 (b.toNat : Int)) w blk off d) (hu : u < 10 ^ d.size) (hu64 : u < 18446744073709551616) (hsz : d.size < 4611686018427387904) :
    Calls Tryz.prog 269 #[.slice (some ⟨blk, off, none⟩) d.size cap, .int .u64 u] w fun e w' =>
      e = .returned (.tuple #[]) ∧ ∃ (n v' : Nat) (dk : Array UInt8), w' = (putRow (fun (b : UInt8) => Value.int .u8 (b.toNat : Int)) w blk off dk).drewN n ∧ FmtInv d.size u 0 v' dk := Any.internal_strconv_formatBase10 Tryz.lays285 blk off cap u d w hH hu hu64 hsz
def Tryz.laysPu14_ren : Go.Shelf.Ren := ⟨fun | 14 => 254 | 16 => 273 | 17 => 274 | 19 => 289 | 20 => 290 | 21 => 291 | 22 => 292 | 23 => 293 | 24 => 294 | 25 => 303 | 27 => 272 | 26 => 304 | 28 => 288 | 29 => 302 | 30 => 267 | 31 => 268 | 32 => 269 | 33 => 270 | 35 => 284 | 34 => 283 | 36 => 285 | 37 => 286 | 38 => 287 | 39 => 300 | 40 => 301 | n => n, fun | 9 => 9 | 3 => 3 | 22 => 314 | 24 => 67 | 25 => 374 | 4 => 4 | 34 => 409 | 5 => 5 | 36 => 254 | 37 => 146 | 0 => 0 | 39 => 411 | 21 => 21 | 44 => 420 | 47 => 206 | 50 => 426 | 48 => 424 | 2 => 2 | 52 => 394 | 55 => 397 | 59 => 406 | 60 => 264 | 20 => 20 | 61 => 407 | 65 => 422 | 66 => 423 | 67 => 151 | n => n, fun | 0 => 5 | 1 => 6 | 2 => 4 | 3 => 7 | 4 => 8 | n => n⟩
theorem Tryz.laysPu14 : Go.Proofs.LaysPu.n14 Tryz.prog Tryz.laysPu14_ren := {
  mixed := by kernel_rfl
  f14 := Tryz.func254.trans (congrArg some (by kernel_rfl))
  f16 := Tryz.func273.trans (congrArg some (by kernel_rfl))
  f17 := Tryz.func274.trans (congrArg some (by kernel_rfl))
  f19 := Tryz.func289.trans (congrArg some (by kernel_rfl))
  f20 := Tryz.func290.trans (congrArg some (by kernel_rfl))
  f21 := Tryz.func291.trans (congrArg some (by kernel_rfl))
  f22 := Tryz.func292.trans (congrArg some (by kernel_rfl))
  f23 := Tryz.func293.trans (congrArg some (by kernel_rfl))
  f24 := Tryz.func294.trans (congrArg some (by kernel_rfl))
  f25 := Tryz.func303.trans (congrArg some (by kernel_rfl))
  f26 := Tryz.func304.trans (congrArg some (by kernel_rfl))
  f27 := Tryz.func272.trans (congrArg some (by kernel_rfl))
  f28 := Tryz.func288.trans (congrArg some (by kernel_rfl))
  f29 := Tryz.func302.trans (congrArg some (by kernel_rfl))
  f30 := Tryz.func267.trans (congrArg some (by kernel_rfl))
  f31 := Tryz.func268.trans (congrArg some (by kernel_rfl))
  f32 := Tryz.func269.trans (congrArg some (by kernel_rfl))
  f33 := Tryz.func270.trans (congrArg some (by kernel_rfl))
  f34 := Tryz.func283.trans (congrArg some (by kernel_rfl))
  f35 := Tryz.func284.trans (congrArg some (by kernel_rfl))
  f36 := Tryz.func285.trans (congrArg some (by kernel_rfl))
  f37 := Tryz.func286.trans (congrArg some (by kernel_rfl))
  f38 := Tryz.func287.trans (congrArg some (by kernel_rfl))
  f39 := Tryz.func300.trans (congrArg some (by kernel_rfl))
  f40 := Tryz.func301.trans (congrArg some (by kernel_rfl))
  t0 := Tryz.underlying0
  a0 := Tryz.isAgg0
  z0 := Tryz.sizeOf0
  v0 := Tryz.zeroValue0
  i0 := by kernel_rfl
  t2 := Tryz.underlying2
  a2 := Tryz.isAgg2
  z2 := Tryz.sizeOf2
  v2 := Tryz.zeroValue2
  i2 := by kernel_rfl
  t3 := Tryz.underlying3
  a3 := Tryz.isAgg3
  z3 := Tryz.sizeOf3
  v3 := Tryz.zeroValue3
  i3 := by kernel_rfl
  t4 := Tryz.underlying4
  a4 := Tryz.isAgg4
  z4 := Tryz.sizeOf4
  v4 := Tryz.zeroValue4
  i4 := by kernel_rfl
  t5 := Tryz.underlying5
  a5 := Tryz.isAgg5
  z5 := Tryz.sizeOf5
  v5 := Tryz.zeroValue5
  i5 := by kernel_rfl
  t9 := Tryz.underlying9
  a9 := Tryz.isAgg9
  z9 := Tryz.sizeOf9
  v9 := Tryz.zeroValue9
  i9 := by kernel_rfl
  t20 := Tryz.underlying20
  a20 := Tryz.isAgg20
  z20 := Tryz.sizeOf20
  v20 := Tryz.zeroValue20
  i20 := by kernel_rfl
  t21 := Tryz.underlying21
  a21 := Tryz.isAgg21
  z21 := Tryz.sizeOf21
  v21 := Tryz.zeroValue21
  i21 := by kernel_rfl
  t22 := Tryz.underlying314
  a22 := Tryz.isAgg314
  z22 := Tryz.sizeOf314
  v22 := Tryz.zeroValue314
  i22 := by kernel_rfl
  t24 := Tryz.underlying67
  a24 := Tryz.isAgg67
  z24 := Tryz.sizeOf67
  v24 := Tryz.zeroValue67
  i24 := by kernel_rfl
  t25 := Tryz.underlying374
  a25 := Tryz.isAgg374
  z25 := Tryz.sizeOf374
  v25 := Tryz.zeroValue374
  i25 := by kernel_rfl
  t34 := Tryz.underlying409
  a34 := Tryz.isAgg409
  z34 := Tryz.sizeOf409
  v34 := Tryz.zeroValue409
  i34 := by kernel_rfl
  c34 := by kernel_rfl
  t36 := Tryz.underlying254
  a36 := Tryz.isAgg254
  z36 := Tryz.sizeOf254
  v36 := Tryz.zeroValue254
  i36 := by kernel_rfl
  t37 := Tryz.underlying146
  a37 := Tryz.isAgg146
  z37 := Tryz.sizeOf146
  v37 := Tryz.zeroValue146
  i37 := by kernel_rfl
  t39 := Tryz.underlying411
  a39 := Tryz.isAgg411
  z39 := Tryz.sizeOf411
  v39 := Tryz.zeroValue411
  i39 := by kernel_rfl
  t44 := Tryz.underlying420
  a44 := Tryz.isAgg420
  z44 := Tryz.sizeOf420
  v44 := Tryz.zeroValue420
  i44 := by kernel_rfl
  t47 := Tryz.underlying206
  a47 := Tryz.isAgg206
  z47 := Tryz.sizeOf206
  v47 := Tryz.zeroValue206
  i47 := by kernel_rfl
  t48 := Tryz.underlying424
  a48 := Tryz.isAgg424
  z48 := Tryz.sizeOf424
  v48 := Tryz.zeroValue424
  i48 := by kernel_rfl
  t50 := Tryz.underlying426
  a50 := Tryz.isAgg426
  z50 := Tryz.sizeOf426
  v50 := Tryz.zeroValue426
  i50 := by kernel_rfl
  t52 := Tryz.underlying394
  a52 := Tryz.isAgg394
  z52 := Tryz.sizeOf394
  v52 := Tryz.zeroValue394
  i52 := by kernel_rfl
  t55 := Tryz.underlying397
  a55 := Tryz.isAgg397
  z55 := Tryz.sizeOf397
  v55 := Tryz.zeroValue397
  i55 := by kernel_rfl
  t59 := Tryz.underlying406
  a59 := Tryz.isAgg406
  z59 := Tryz.sizeOf406
  v59 := Tryz.zeroValue406
  i59 := by kernel_rfl
  t60 := Tryz.underlying264
  a60 := Tryz.isAgg264
  z60 := Tryz.sizeOf264
  v60 := Tryz.zeroValue264
  i60 := by kernel_rfl
  t61 := Tryz.underlying407
  a61 := Tryz.isAgg407
  z61 := Tryz.sizeOf407
  t65 := Tryz.underlying422
  a65 := Tryz.isAgg422
  z65 := Tryz.sizeOf422
  v65 := Tryz.zeroValue422
  i65 := by kernel_rfl
  t66 := Tryz.underlying423
  a66 := Tryz.isAgg423
  z66 := Tryz.sizeOf423
  v66 := Tryz.zeroValue423
  i66 := by kernel_rfl
  t67 := Tryz.underlying151
  a67 := Tryz.isAgg151
  z67 := Tryz.sizeOf151
  v67 := Tryz.zeroValue151
  i67 := by kernel_rfl
  g0 := by kernel_rfl
  m0 := by kernel_rfl
  g1 := by kernel_rfl
  m1 := by kernel_rfl
  g2 := by kernel_rfl
  m2 := by kernel_rfl
  g3 := by kernel_rfl
  m3 := by kernel_rfl
  g4 := by kernel_rfl
  m4 := by kernel_rfl }
open Go.RowKit in
theorem Tryz.strconv_ParseUint_10_at64_ok (s : ByteArray) (hmax : s.size ≤ 9223372036854775806) (u : Nat) (h : Lib.parseUintB 64 s.data.toList = .ok u) (w : World) :
    Calls Tryz.prog 254 #[.string s, .int .i64 10, .int .i64 64] w fun e w' => e = .returned (.tuple #[.int .u64 u, .nilIface]) ∧ (w' = w ∨ w' = Lib.bytesWorld w 5 s) := Any.strconv_ParseUint_10_at64_ok Tryz.laysPu14 s hmax u h w
open Go.RowKit in
theorem Tryz.strconv_ParseUint_10_at64_none (s : ByteArray) (hlim : s.size ≤ 281474976710656) (h : ∀ n, Lib.parseUintB 64 s.data.toList ≠ .ok n) (h2 : Lib.parseUintB 64 s.data.toList ≠ .range) (ev : Value) (w : World) (hv : w.cell? ⟨5, 0, none⟩ = some ev) (hev : ev = .nilIface ∨ ∃ te pe, ev = .iface te pe) :
    Calls Tryz.prog 254 #[.string s, .int .i64 10, .int .i64 64] w fun e w' => ∃ N, e = .returned (.tuple #[.int .u64 0, .iface 411 (.pointer (some ⟨N, 0, none⟩))]) ∧ w.heap.size ≤ N ∧ w'.heap[N]? = some (.cells #[.string ⟨#[80, 97, 114, 115, 101, 85, 105, 110, 116]⟩, .string s, ev] 420 (0, 0)) ∧ Below w.heap.size w w' := by
  cases e : Lib.parseUintB 64 s.data.toList with
  | ok n => exact absurd e (h n)
  | range => exact absurd e h2
  | _ => exact Any.strconv_ParseUint_10_at64_syntax Tryz.laysPu14 s hlim e ev w hv hev
open Go.RowKit in
theorem Tryz.strconv_ParseUint_10_at64_range (s : ByteArray) (hlim : s.size ≤ 281474976710656) (h : Lib.parseUintB 64 s.data.toList = .range) (ev : Value) (w : World) (hv : w.cell? ⟨6, 0, none⟩ = some ev) (hev : ev = .nilIface ∨ ∃ te pe, ev = .iface te pe) :
    Calls Tryz.prog 254 #[.string s, .int .i64 10, .int .i64 64] w fun e w' => ∃ N, e = .returned (.tuple #[.int .u64 18446744073709551615, .iface 411 (.pointer (some ⟨N, 0, none⟩))]) ∧ w.heap.size ≤ N ∧ w'.heap[N]? = some (.cells #[.string ⟨#[80, 97, 114, 115, 101, 85, 105, 110, 116]⟩, .string s, ev] 420 (0, 0)) ∧ Below w.heap.size w w' := Any.strconv_ParseUint_10_at64_range Tryz.laysPu14 s hlim h ev w hv hev
def Tryz.lays110_ren : Go.Shelf.Ren := ⟨fun | 110 => 154 | 109 => 183 | n => n, fun | 31 => 35 | 9 => 9 | 4 => 4 | 3 => 3 | 0 => 0 | n => n, fun | n => n⟩
theorem Tryz.lays110 : Go.Proofs.Lays.n110 Tryz.prog Tryz.lays110_ren := {
  mixed := by kernel_rfl
  f109 := Tryz.func183.trans (congrArg some (by kernel_rfl))
  f110 := Tryz.func154.trans (congrArg some (by kernel_rfl))
  t0 := Tryz.underlying0
  a0 := Tryz.isAgg0
  z0 := Tryz.sizeOf0
  v0 := Tryz.zeroValue0
  t3 := Tryz.underlying3
  a3 := Tryz.isAgg3
  z3 := Tryz.sizeOf3
  v3 := Tryz.zeroValue3
  t4 := Tryz.underlying4
  a4 := Tryz.isAgg4
  z4 := Tryz.sizeOf4
  v4 := Tryz.zeroValue4
  t9 := Tryz.underlying9
  a9 := Tryz.isAgg9
  z9 := Tryz.sizeOf9
  v9 := Tryz.zeroValue9
  t31 := Tryz.underlying35
  a31 := Tryz.isAgg35
  z31 := Tryz.sizeOf35
  v31 := Tryz.zeroValue35 }
open Go.Lib in
theorem Tryz.slices_Contains_string (b off n c : Nat) (zs : List ByteArray) (x : ByteArray) (w : World) (hz : n ≤ zs.length) (hbig : n ≤ 9223372036854775807) (hc : ∀ j, j < zs.length → w.cell? ⟨b, off + j, none⟩ = some (.string (zs.getD j ByteArray.empty))) :
    Calls Tryz.prog 154 #[.slice (some ⟨b, off, none⟩) n c, .string x] w fun e w' => e = .returned (.bool (Lib.containsS (zs.take n) x)) ∧ w' = w := Any.slices_Contains_string Tryz.lays110 b off n c zs x w hz hbig hc
end Go.Proofs
namespace Go.Proofs.YtaepcfidpekflaaGreatDoor
open Go.RowKit

/-- The six categories, in the program's order. -/
def sixT : List Pr.T := [[122, 101, 114, 111], [111, 110, 101], [116, 119, 111], [102, 101, 119], [109, 97, 110, 121], [111, 116, 104, 101, 114]]
def sixV : Array Value := #[.string ⟨#[122, 101, 114, 111]⟩, .string ⟨#[111, 110, 101]⟩, .string ⟨#[116, 119, 111]⟩, .string ⟨#[102, 101, 119]⟩, .string ⟨#[109, 97, 110, 121]⟩, .string ⟨#[111, 116, 104, 101, 114]⟩]
set_option maxHeartbeats 400000 in
theorem categories6_any (w : World) : Calls Tryz.prog 155 #[] w fun e w' => e = .returned (.slice (some ⟨w.heap.size, 0, none⟩) 6 6) ∧ Row w' w.heap.size sixV ∧ Below w.heap.size w w' := by
  go_enter Tryz.func155, Tryz.ntmps155
  go_wp2
  go_ret
  exact ⟨rfl, row_at w sixV _, (Below.refl _ _).alloc (Nat.le_refl _) _⟩
set_option maxHeartbeats 400000 in
theorem isCategory_any (n : Pr.T) (w : World) : Calls Tryz.prog 123 #[.string ⟨n.toArray⟩] w fun e w' => e = .returned (.bool (decide (n ∈ sixT))) ∧ Below w.heap.size w w' := by
  have hin : Hid (Lib.containsS ((sixT.map fun t => (⟨t.toArray⟩ : ByteArray)).take 6) ⟨n.toArray⟩ = decide (n ∈ sixT)) := by
    show _ = _
    rw [Bool.eq_iff_iff, Lib.containsS_iff, decide_eq_true_eq]
    simp [sixT]
  go_enter Tryz.func123, Tryz.ntmps123
  go_wp2_with fail
  refine (categories6_any w).mono ?_
  rintro e w1 ⟨rfl, hr, hb⟩
  have hc : ∀ j, j < (sixT.map fun t => (⟨t.toArray⟩ : ByteArray)).length → w1.cell? ⟨w.heap.size, 0 + j, none⟩ = some (.string ((sixT.map fun t => (⟨t.toArray⟩ : ByteArray)).getD j ByteArray.empty)) := by
    intro j hj
    rw [Nat.zero_add, hr.2.1 j]
    match j, hj with
    | 0, _ => rfl
    | 1, _ => rfl
    | 2, _ => rfl
    | 3, _ => rfl
    | 4, _ => rfl
    | 5, _ => rfl
  have cc := Tryz.slices_Contains_string w.heap.size 0 6 6 (sixT.map fun t => (⟨t.toArray⟩ : ByteArray)) ⟨n.toArray⟩ w1 (by simp [sixT]) (by decide) hc
  go_wp2_with fail
  refine cc.mono ?_
  rintro e w2 ⟨rfl, rfl⟩
  go_wp2
  go_ret
  exact ⟨by rw [hin.out]; rfl, hb⟩
theorem six_cat (n : Pr.T) (h : n ≠ [111, 116, 104, 101, 114]) : decide (n ∈ sixT) = Pr.catB n := by
  unfold sixT Pr.catB
  simp [h]
set_option maxHeartbeats 400000 in
theorem mayHaveRule_any (n : Pr.T) (w : World) : Calls Tryz.prog 91 #[.string ⟨n.toArray⟩] w fun e w' => e = .returned (.bool (Pr.catB n)) ∧ Below w.heap.size w w' := by
  by_cases h : n = [111, 116, 104, 101, 114]
  · subst h
    go_enter Tryz.func91, Tryz.ntmps91
    go_wp2
    go_ret
    exact ⟨rfl, Below.refl _ _⟩
  · have hc := isCategory_any n w
    rw [six_cat n h] at hc
    have h' : (n == [111, 116, 104, 101, 114]) = false := by simpa using h
    clear h
    generalize Pr.catB n = R at *
    go_enter Tryz.func91, Tryz.ntmps91
    go_wp2_with fail
    refine hc.mono ?_
    rintro e w1 ⟨rfl, hb⟩
    go_wp2
    go_ret
    exact ⟨rfl, hb⟩
end Go.Proofs.YtaepcfidpekflaaGreatDoor
namespace Go.Proofs.YtaepcfidpekflaaGreatDoor
open Go.RowKit Pg

theorem selV_ne {t : Pg.T} (h : t.head? ≠ some 61) : selV t = (t, 0) := by
  unfold selV
  split
  · simp at h
  · rfl
theorem word_61 (rs : List Pg.T) (p : Nat) : (word rs p).flatten.head? ≠ some 61 := by
  intro h
  have h1 := word_head p 61 h
  have h2 : 0 < (word rs p).length := by
    rw [← word_len]
    cases e : (word rs p).flatten with
    | nil => rw [e] at h; cases h
    | cons _ _ => simp
  have h3 := at_tw isN p 0 h2
  rw [Nat.add_zero] at h3
  unfold at1 at h3
  rw [h1] at h3
  exact absurd h3 (by decide)
theorem six_isCat (t : Pg.T) : decide (t ∈ sixT) = Dk.isCat t := by
  rw [Bool.eq_iff_iff, decide_eq_true_eq]
  unfold sixT Dk.isCat Pr.catB
  simp [or_assoc]
/-- A selector that stands next. -/
def SelSaid (P : Nat) (rs : List Pg.T) (num : Bool) (p : Nat) (w : World) (e : Ending) (w' : World) : Prop := Ag P w w' ∧ match selR num rs p with
  | .inl a => ∃ v, e = .returned (.tuple #[.agg #[.string ⟨#[]⟩, .int .u32 0], v]) ∧ Flt w.heap.size w' v 3 a
  | .inr (t, q) => e = .returned (.tuple #[.agg #[.string ⟨(selV t).1.toArray⟩, .int .u32 ((selV t).2 : Nat)], .nilIface]) ∧ Scn P w' rs q
theorem SelSaid.bad {P : Nat} {rs : List Pg.T} {num : Bool} {p a : Nat} {w w' : World} {v : Value} (h : selR num rs p = .inl a) (ha : Ag P w w') (hv : Flt w.heap.size w' v 3 a) : SelSaid P rs num p w (.returned (.tuple #[.agg #[.string ⟨#[]⟩, .int .u32 0], v])) w' := by
  refine ⟨ha, ?_⟩
  rw [h]
  exact ⟨v, rfl, hv⟩
theorem SelSaid.ok {P : Nat} {rs : List Pg.T} {num : Bool} {p q : Nat} {t n : Pg.T} {k : Nat} {w w' : World} (h : selR num rs p = .inr (t, q)) (hk : selV t = (n, k)) (ha : Ag P w w') (hs : Scn P w' rs q) : SelSaid P rs num p w (.returned (.tuple #[.agg #[.string ⟨n.toArray⟩, .int .u32 k], .nilIface])) w' := by
  refine ⟨ha, ?_⟩
  rw [h]
  simp only [hk]
  exact ⟨trivial, hs⟩
set_option maxHeartbeats 1600000 in
theorem pbyName_any (P Bx : Nat) (w : World) (rs : List Pg.T) (p : Nat) (h : Scn P w rs p) (hc : w.cell? ⟨Bx, 0, none⟩ = some (.pointer (some ⟨P, 0, none⟩))) :
    Calls Tryz.prog 260 #[.pointer (some ⟨Bx, 0, none⟩)] w fun e w' => SelSaid P rs false p w e w' := by
  have hb0 := (Below.refl w.heap.size w).alloc (Nat.le_refl _) (.cells #[.string ⟨#[]⟩, .int .u32 0] 330)
  have r0 := row_at w #[.string ⟨#[]⟩, .int .u32 0] 330
  have hc0 := (World.cell?_alloc_lt w (.cells #[.string ⟨#[]⟩, .int .u32 0] 330) ⟨Bx, 0, none⟩ (cell_lt hc)).trans hc
  have hz0 : (w.alloc (.cells #[.string ⟨#[]⟩, .int .u32 0] 330)).heap.size = w.heap.size + 1 := by simp
  have kn := pname_any P _ rs p (h.then hb0)
  have hPl := h.lt
  have HN : Hid (selR false rs p = nameR rs p) := rfl
  clear h hc
  go_enter Tryz.func260, Tryz.ntmps260
  go_wp2_with fail
  refine kn.mono ?_
  rintro e w1 ⟨ha, hn⟩
  have HR0 : Hid (Row w1 w.heap.size #[.string ⟨#[]⟩, .int .u32 0]) := r0.ag ha (by omega)
  have ha0 : Ag P w w1 := (Ag.of hb0 (Nat.le_refl _)).trans ha
  have hz1 : w.heap.size < w1.heap.size := by have := ha.size; omega
  rw [hz0] at hn
  clear kn r0 hc0 hb0 hz0 ha
  have q1 := HR0.out.2.1
  have f1 := HR0.out.2.2
  cases hr : nameR rs p with
  | inl a =>
    rw [hr] at hn HN
    obtain ⟨v, rfl, hv⟩ := hn
    have HV : Hid (Flt (w.heap.size + 1) w1 v 3 a) := hv
    clear hv hr
    go_wp2
    refine bodyPost_ret (v := .tuple #[.agg #[.string ⟨#[]⟩, .int .u32 0], v]) (by simp [results, Tryz.results260, go_sem, q1]) rfl ?_
    exact SelSaid.bad HN.out ((ha0.setNew (Nat.le_refl _) 0 _).setNew (Nat.le_refl _) 1 _) (((HV.out.set (by omega) _).set (by omega) _).mono (by omega))
  | inr x =>
    obtain ⟨n, q⟩ := x
    have hsv : Hid (selV n = (n, 0)) := by
      show _ = _
      rw [(nameR_inr hr).1]
      exact selV_ne (word_61 rs p)
    rw [hr] at hn HN
    obtain ⟨rfl, hs⟩ := hn
    have HS : Hid (Scn P w1 rs q) := hs
    clear hr hs
    go_wp2
    refine bodyPost_ret (v := .tuple #[.agg #[.string ⟨n.toArray⟩, .int .u32 0], .nilIface]) (by simp [results, Tryz.results260, go_sem, q1]) rfl ?_
    exact SelSaid.ok HN.out hsv.out ((ha0.setNew (Nat.le_refl _) 0 _).setNew (Nat.le_refl _) 1 _) ((HS.out.set hPl _).set hPl _)
set_option maxHeartbeats 3200000 in
theorem pnumeral_any (P : Nat) (w : World) (rs : List Pg.T) (p : Nat) (h : Scn P w rs p) :
    Calls Tryz.prog 263 #[.pointer (some ⟨P, 0, none⟩)] w fun e w' => SelSaid P rs true p w e w' := by
  have hb0 := (Below.refl w.heap.size w).alloc (Nat.le_refl _) (.cells #[.string ⟨#[]⟩, .int .u32 0] 330)
  have r0 := row_at w #[.string ⟨#[]⟩, .int .u32 0] 330
  have hz0 : (w.alloc (.cells #[.string ⟨#[]⟩, .int .u32 0] 330)).heap.size = w.heap.size + 1 := by simp
  have h0 := h.then hb0
  have kt := ptake_any P _ rs p 61 (by decide) h0
  have hPl := h.lt
  have HE : Hid (selR true rs p = if rs[p]? = some [61] then (match valR rs (p + 1) with | .inl a => .inl a | .inr (t, q) => .inr (61 :: t, q)) else if Dk.isCat (word rs p).flatten = true then .inr ((word rs p).flatten, p + (word rs p).length) else .inl p) := rfl
  generalize hS : selR true rs p = SR at *
  have HSR : Hid (selR true rs p = SR) := hS
  clear hS
  by_cases hc : rs[p]? = some [61]
  · rw [decide_eq_true hc, if_pos hc] at kt
    have HE2 : Hid (SR = match valR rs (p + 1) with | .inl a => .inl a | .inr (t, q) => .inr (61 :: t, q)) := by
      have := HE.out
      rw [if_pos hc] at this
      exact this
    clear h h0 HE hc
    go_enter Tryz.func263, Tryz.ntmps263
    go_wp2_with fail
    refine kt.mono ?_
    rintro e w1 ⟨rfl, hs1, ha⟩
    have HR0 : Hid (Row w1 w.heap.size #[.string ⟨#[]⟩, .int .u32 0]) := r0.ag ha (by omega)
    have ha0 : Ag P w w1 := (Ag.of hb0 (Nat.le_refl _)).trans ha
    have hz1 : w.heap.size < w1.heap.size := by have := ha.size; omega
    have kv := pvalue_any P w1 rs (p + 1) hs1
    clear kt r0 hb0 hz0 ha hs1
    go_wp2_with fail
    refine kv.mono ?_
    rintro e w2 ⟨ha2, hn⟩
    have HR1 : Hid (Row w2 w.heap.size #[.string ⟨#[]⟩, .int .u32 0]) := HR0.out.ag ha2 (by omega)
    have ha3 := ha0.trans ha2
    have q1 := HR1.out.2.1
    have f1 := HR1.out.2.2
    clear kv HR0
    cases hr : valR rs (p + 1) with
    | inl a =>
      rw [hr] at hn
      obtain ⟨v, rfl, hv⟩ := hn
      have HV : Hid (Flt (w.heap.size + 1) w2 v 3 a) := hv.mono (by omega)
      have HN : Hid (selR true rs p = .inl a) := by
        show _ = _
        rw [HSR.out, HE2.out, hr]
      clear hv hr HE2
      go_wp2
      refine bodyPost_ret (v := .tuple #[.agg #[.string ⟨#[]⟩, .int .u32 0], v]) (by simp [results, Tryz.results263, go_sem, q1]) rfl ?_
      exact SelSaid.bad HN.out ((ha3.setNew (Nat.le_refl _) 0 _).setNew (Nat.le_refl _) 1 _) (((HV.out.set (by omega) _).set (by omega) _).mono (by omega))
    | inr x =>
      obtain ⟨t, q⟩ := x
      rw [hr] at hn
      obtain ⟨rfl, hs⟩ := hn
      have HS : Hid (Scn P w2 rs q) := hs
      have HN : Hid (selR true rs p = .inr (61 :: t, q)) := by
        show _ = _
        rw [HSR.out, HE2.out, hr]
      clear hr hs HE2
      obtain ⟨V, hV⟩ : ∃ V, Hid (Pr.val t = V) := ⟨_, rfl⟩
      have hsv : Hid (selV (61 :: t) = ([], V)) := by show _ = _; rw [← hV.out]; rfl
      rw [hV.out]
      go_wp2
      refine bodyPost_ret (v := .tuple #[.agg #[.string ⟨#[]⟩, .int .u32 V], .nilIface]) (by simp [results, Tryz.results263, go_sem, q1]) rfl ?_
      exact SelSaid.ok HN.out hsv.out ((ha3.setNew (Nat.le_refl _) 0 _).setNew (Nat.le_refl _) 1 _) ((HS.out.set hPl _).set hPl _)
  · rw [decide_eq_false hc, if_neg hc] at kt
    have HE2 : Hid (SR = if Dk.isCat (word rs p).flatten = true then .inr ((word rs p).flatten, p + (word rs p).length) else .inl p) := by
      have := HE.out
      rw [if_neg hc] at this
      exact this
    clear h h0 HE hc
    go_enter Tryz.func263, Tryz.ntmps263
    go_wp2_with fail
    refine kt.mono ?_
    rintro e w1 ⟨rfl, hs1, ha⟩
    have HR0 : Hid (Row w1 w.heap.size #[.string ⟨#[]⟩, .int .u32 0]) := r0.ag ha (by omega)
    have ha0 : Ag P w w1 := (Ag.of hb0 (Nat.le_refl _)).trans ha
    have hz1 : w.heap.size < w1.heap.size := by have := ha.size; omega
    have kv := pword_any P w1 rs p hs1
    obtain ⟨a, c, q0, _⟩ := hs1.rows
    clear kt r0 hb0 hz0 ha hs1
    go_wp2_with fail
    refine kv.mono ?_
    rintro e w2 ⟨rfl, hs2, ha2⟩
    have kc := isCategory_any (word rs p).flatten w2
    rw [six_isCat] at kc
    have HSV : Hid (selV (word rs p).flatten = ((word rs p).flatten, 0)) := selV_ne (word_61 rs p)
    have HS2 : Hid (Scn P w2 rs (p + (word rs p).length)) := hs2
    have ha3 := ha0.trans ha2
    have hz2 : w.heap.size < w2.heap.size := by have := ha2.size; omega
    have HR1 : Hid (Row w2 w.heap.size #[.string ⟨#[]⟩, .int .u32 0]) := HR0.out.ag ha2 (by omega)
    clear kv hs2 HR0 q0
    generalize p + (word rs p).length = q at *
    generalize (word rs p).flatten = F at *
    go_wp2_with fail
    refine kc.mono ?_
    rintro e w3 ⟨rfl, hb3⟩
    have HR3 : Hid (Row w3 w.heap.size #[.string ⟨#[]⟩, .int .u32 0]) := HR1.out.keep hb3
    have HS3 : Hid (Scn P w3 rs q) := HS2.out.then hb3
    have ha4 := ha3.then hb3
    have hz3 : w.heap.size < w3.heap.size := by have := hb3.size; omega
    have q1 := HR3.out.2.1
    have f1 := HR3.out.2.2
    clear kc HR1 HS2 ha3 hb3
    cases hcat : Dk.isCat F with
    | true =>
      have HN : Hid (selR true rs p = .inr (F, q)) := by
        show _ = _
        rw [HSR.out, HE2.out, if_pos hcat]
      clear HE2 hcat
      go_wp2
      refine bodyPost_ret (v := .tuple #[.agg #[.string ⟨F.toArray⟩, .int .u32 0], .nilIface]) (by simp [results, Tryz.results263, go_sem, q1]) rfl ?_
      exact SelSaid.ok HN.out HSV.out ((ha4.setNew (Nat.le_refl _) 0 _).setNew (Nat.le_refl _) 1 _) ((HS3.out.set hPl _).set hPl _)
    | false =>
      have HN : Hid (selR true rs p = .inl p) := by
        show _ = _
        rw [HSR.out, HE2.out, if_neg (by rw [hcat]; simp)]
      have kf := pfault_any w3 3 p
      clear HE2 hcat
      go_wp2_with (go_at_call 158; refine kf.mono ?_; rintro e w4 ⟨⟨v, rfl, hv⟩, hb4⟩; have HR4 := HR3.out.keep hb4; have q4 := HR4.2.1; have f4 := HR4.2.2)
      refine bodyPost_ret (v := .tuple #[.agg #[.string ⟨#[]⟩, .int .u32 0], v]) (by simp [results, Tryz.results263, go_sem, q4]) rfl ?_
      exact SelSaid.bad HN.out (((ha4.then hb4).setNew (Nat.le_refl _) 0 _).setNew (Nat.le_refl _) 1 _) (((hv.set (by omega) _).set (by omega) _).mono (by omega))
/-- An offset that stands next, or none. -/
def OffSaid (P : Nat) (rs : List Pg.T) (p : Nat) (w : World) (e : Ending) (w' : World) : Prop := Ag P w w' ∧ match offR rs p with
  | .inl a => ∃ v, e = .returned (.tuple #[.int .u32 0, v]) ∧ Flt w.heap.size w' v 3 a
  | .inr (t, q) => e = .returned (.tuple #[.int .u32 (Pr.val t : Nat), .nilIface]) ∧ Scn P w' rs q
theorem OffSaid.none {P : Nat} {rs : List Pg.T} {p : Nat} {w w' : World} (h : offR rs p = .inr ([48], p)) (ha : Ag P w w') (hs : Scn P w' rs p) : OffSaid P rs p w (.returned (.tuple #[.int .u32 0, .nilIface])) w' := by
  refine ⟨ha, ?_⟩
  rw [h]
  exact ⟨rfl, hs⟩
theorem OffSaid.val {P : Nat} {rs : List Pg.T} {p k : Nat} {w w1 w' : World} {e : Ending} (h : offR rs p = valR rs k) (ha : Ag P w w1) (hv : ValSaid P rs k w1 e w') : OffSaid P rs p w e w' := by
  obtain ⟨h1, h2⟩ := hv
  refine ⟨ha.trans h1, ?_⟩
  rw [h]
  cases e : valR rs k with
  | inl a =>
    rw [e] at h2
    obtain ⟨v, h3, h4⟩ := h2
    exact ⟨v, h3, h4.mono ha.size⟩
  | inr x =>
    rw [e] at h2
    exact h2
set_option maxHeartbeats 3200000 in
theorem poffset_any (P : Nat) (w : World) (rs : List Pg.T) (p : Nat) (h : Scn P w rs p) :
    Calls Tryz.prog 262 #[.pointer (some ⟨P, 0, none⟩)] w fun e w' => OffSaid P rs p w e w' := by
  have kw := pword_any P w rs p h
  obtain ⟨a, c, q0, f0⟩ := h.rows
  have hp := h.pts.2.2
  by_cases hw : (word rs p).flatten = offW
  · have hne : ((word rs p).flatten == ([111, 102, 102, 115, 101, 116] : Pg.T)) = true := by rw [hw]; rfl
    by_cases h58 : rs[p + (word rs p).length]? = some [58]
    · have HO : Hid (offR rs p = valR rs (bl rs (p + (word rs p).length + 1))) := by
        show _ = _
        unfold offR
        rw [if_pos ⟨hw, h58⟩]
      have H58 : Hid (rs[p + (word rs p).length]? = some [58]) := h58
      clear h hw h58
      generalize p + (word rs p).length = q at *
      generalize (word rs p).flatten = F at *
      go_enter Tryz.func262, Tryz.ntmps262
      go_wp2_with fail
      refine kw.mono ?_
      rintro e w1 ⟨rfl, hs1, ha1⟩
      have kt := ptake_any P w1 rs q 58 (by decide) hs1
      rw [decide_eq_true H58.out, if_pos H58.out] at kt
      clear kw hs1 q0 f0
      go_wp2_with fail
      refine kt.mono ?_
      rintro e w2 ⟨rfl, hs2, ha2⟩
      have kb := pblanks_any P w2 rs (q + 1) hs2
      clear kt hs2
      go_wp2_with fail
      refine kb.mono ?_
      rintro e w3 ⟨rfl, hs3, ha3⟩
      have kv := pvalue_any P w3 rs _ hs3
      have ha4 := (ha1.trans ha2).trans ha3
      clear kb hs3
      go_wp2_with fail
      refine kv.mono ?_
      intro e w4 hv
      have HV : Hid (ValSaid P rs (bl rs (q + 1)) w3 e w4) := hv
      obtain ⟨ha5, hm⟩ := hv
      have : ∃ x y, e = .returned (.tuple #[x, y]) := by
        cases er : valR rs (bl rs (q + 1)) with
        | inl a => rw [er] at hm; obtain ⟨v, h3, _⟩ := hm; exact ⟨_, _, h3⟩
        | inr x => rw [er] at hm; exact ⟨_, _, hm.1⟩
      obtain ⟨x, y, rfl⟩ := this
      clear hm kv
      go_wp2
      go_ret2
      exact OffSaid.val HO.out ha4 HV.out
    · have HO : Hid (offR rs p = .inr ([48], p)) := by
        show _ = _
        unfold offR
        rw [if_neg (fun e => h58 e.2)]
      have H58 : Hid (¬ rs[p + (word rs p).length]? = some [58]) := h58
      clear h hw h58
      generalize p + (word rs p).length = q at *
      generalize (word rs p).flatten = F at *
      go_enter Tryz.func262, Tryz.ntmps262
      go_wp2_with fail
      refine kw.mono ?_
      rintro e w1 ⟨rfl, hs1, ha1⟩
      have kt := ptake_any P w1 rs q 58 (by decide) hs1
      rw [decide_eq_false H58.out, if_neg H58.out] at kt
      clear kw hs1 q0 f0
      go_wp2_with fail
      refine kt.mono ?_
      rintro e w2 ⟨rfl, hs2, ha2⟩
      have hs3 := hs2.go p hp
      have HS3 : Hid (Scn P (w2.setCell ⟨P, 1, none⟩ (.int .i64 p)) rs p) := hs3
      obtain ⟨a2, c2, q2, f2⟩ := hs2.rows
      have ha3 := (ha1.trans ha2).setCell (P := P) 1 (.int .i64 p)
      clear kt hs2 hs3
      go_wp2
      go_ret2
      exact OffSaid.none HO.out ha3 HS3.out
  · have hne : ((word rs p).flatten == ([111, 102, 102, 115, 101, 116] : Pg.T)) = false := by rw [beq_eq_false_iff_ne]; exact hw
    have HO : Hid (offR rs p = .inr ([48], p)) := by
      show _ = _
      unfold offR
      rw [if_neg (fun e => hw e.1)]
    clear h hw
    generalize p + (word rs p).length = q at *
    generalize (word rs p).flatten = F at *
    go_enter Tryz.func262, Tryz.ntmps262
    go_wp2_with fail
    refine kw.mono ?_
    rintro e w2 ⟨rfl, hs2, ha1⟩
    have hs3 := hs2.go p hp
    have HS3 : Hid (Scn P (w2.setCell ⟨P, 1, none⟩ (.int .i64 p)) rs p) := hs3
    obtain ⟨a2, c2, q2, f2⟩ := hs2.rows
    have ha3 := ha1.setCell (P := P) 1 (.int .i64 p)
    clear kw hs2 hs3 q0 f0
    go_wp2
    go_ret2
    exact OffSaid.none HO.out ha3 HS3.out
end Go.Proofs.YtaepcfidpekflaaGreatDoor
namespace Go.Proofs.YtaepcfidpekflaaGreatDoor
open Go.RowKit Pg

theorem bld_ag {T e : TypeId} {B b P : Nat} {bs : List Value} {W W' : World} (h : Lib.IsBuilderF T e B b bs W) (ha : Ag P W W') (hP : P < B) : Lib.IsBuilderF T e B b bs W' := by
  have one : ∀ p, Lib.BuilderAtF T e B b p bs W → Lib.BuilderAtF T e B b p bs W' := by
    intro p h
    have hlt := h.lt
    obtain ⟨hB, v, hv, hown, hne⟩ := h
    refine ⟨hB, v, (ha.block b hlt (by omega)).trans hv, hown.kept (row := some P) ⟨ha.os, ha.tape, ha.output, ha.size, fun k hk hkP => ha.block k hk (fun e => hkP (by rw [e]))⟩ ?_, hne⟩
    by_cases hn : v.ownBlock = none
    · exact .inl hn
    · refine .inr fun e => ?_
      have := (hown.lt P e).1
      omega
  exact h.elim (fun x => .inl (one _ x)) (fun x => .inr (one _ x))
theorem Ag.low {P B : Nat} {w w1 w2 : World} (h : Ag P w w1) (hb : Below B w1 w2) (hB : w.heap.size ≤ B) : Ag P w w2 :=
  ⟨hb.os.trans h.os, hb.tape.trans h.tape, hb.output.trans h.output, Nat.le_trans h.size hb.size, fun k hk hP => (hb.block k (by omega)).trans (h.block k hk hP)⟩
theorem Scn.low {P B : Nat} {w w' : World} {rs : List Pg.T} {p : Nat} (h : Scn P w rs p) (hb : Below B w w') (hP : P < B) : Scn P w' rs p := by
  obtain ⟨a, c, h1, h2, h3⟩ := h
  refine ⟨a, c, h1.below hb hP, ?_, h3⟩
  rcases h2 with h2 | ⟨blk, k1, k2, k3, k4⟩
  · exact .inl h2
  · refine .inr ⟨blk, k1, k2, Nat.lt_of_lt_of_le k3 hb.size, fun j hj => ?_⟩
    exact (hb.cell (p := ⟨blk, j, none⟩) (by show blk < B; omega)).trans (k4 j hj)
theorem piece_le {c : Pg.T} (h : Pt c) : c.length ≤ 4 := by
  rw [← h.enc]
  have := Lib.runeCells_le (rv c)
  rw [Lib.runeCells_length] at this
  exact this.2
/-- How far what stands for itself has been read. -/
structure Sd (num : Bool) (rs : List Pg.T) (p q : Nat) (quoted : Bool) (acc : Pg.T) : Prop where
  said : acc ++ (saidGo num quoted (rs.drop q)).1 = (saidGo num false (rs.drop p)).1
  place : q + (saidGo num quoted (rs.drop q)).2 = p + (saidGo num false (rs.drop p)).2
  small : acc.length ≤ 4 * q
theorem Sd.start (num : Bool) (rs : List Pg.T) (p : Nat) : Sd num rs p p false [] := ⟨rfl, rfl, by simp⟩
theorem drop_at {rs : List Pg.T} {q : Nat} {c : Pg.T} (h : rs[q]? = some c) : rs.drop q = c :: rs.drop (q + 1) := by
  have hl := lt_of_some h
  rw [List.drop_eq_getElem_cons hl]
  rw [List.getElem?_eq_getElem hl] at h
  injection h with h
  rw [h]
theorem Sd.stop {num : Bool} {rs : List Pg.T} {p q : Nat} {quoted : Bool} {acc : Pg.T} (h : Sd num rs p q quoted acc) (he : rs[q]? = none ∨ quoted = false ∧ ∃ c, rs[q]? = some c ∧ spec num c = true) : acc = (saidGo num false (rs.drop p)).1 ∧ q = p + (saidGo num false (rs.drop p)).2 := by
  have : saidGo num quoted (rs.drop q) = ([], 0) := by
    rcases he with he | ⟨rfl, c, he, hs⟩
    · rw [List.drop_eq_nil_of_le (List.getElem?_eq_none_iff.1 he)]
      unfold saidGo
      rfl
    · rw [drop_at he, saidGo_stop num c _ hs]
  have h1 := h.said
  have h2 := h.place
  rw [this] at h1 h2
  exact ⟨by simpa using h1, h2⟩
theorem Sd.plain {num : Bool} {rs : List Pg.T} (hp : Pts rs) {p q : Nat} {quoted : Bool} {acc : Pg.T} (h : Sd num rs p q quoted acc) {c : Pg.T} (hc : rs[q]? = some c) (hs : ¬ (quoted = false ∧ spec num c = true)) (h39 : c ≠ [39]) : Sd num rs p (q + 1) quoted (acc ++ c) := by
  have e := saidGo_ne num quoted c (rs.drop (q + 1)) hs h39
  rw [← drop_at hc] at e
  have h1 := h.said
  have h2 := h.place
  rw [e] at h1 h2
  have := piece_le (hp.pt hc)
  have := h.small
  exact ⟨by rw [List.append_assoc]; exact h1, by simp only at h2; omega, by rw [List.length_append]; omega⟩
theorem Sd.two {num : Bool} {rs : List Pg.T} {p q : Nat} {quoted : Bool} {acc : Pg.T} (h : Sd num rs p q quoted acc) (hc : rs[q]? = some [39]) (hd : rs[q + 1]? = some [39]) : Sd num rs p (q + 2) quoted (acc ++ [39]) := by
  have e := saidGo_two num quoted (rs.drop (q + 2))
  rw [← drop_at hd, ← drop_at hc] at e
  have h1 := h.said
  have h2 := h.place
  rw [e] at h1 h2
  have := h.small
  exact ⟨by rw [List.append_assoc]; exact h1, by simp only at h2; omega, by rw [List.length_append, List.length_singleton]; omega⟩
theorem Sd.quote {num : Bool} {rs : List Pg.T} {p q : Nat} {quoted : Bool} {acc : Pg.T} (h : Sd num rs p q quoted acc) (hc : rs[q]? = some [39]) (hd : rs[q + 1]? ≠ some [39]) (hq : quoted = true ∨ ∃ d, rs[q + 1]? = some d ∧ spec num d = true) : Sd num rs p (q + 1) (!quoted) acc := by
  have e : saidGo num quoted (rs.drop q) = ((saidGo num (!quoted) (rs.drop (q + 1))).1, (saidGo num (!quoted) (rs.drop (q + 1))).2 + 1) := by
    cases hn : rs[q + 1]? with
    | none =>
      rw [hn] at hq
      have hqt : quoted = true := by rcases hq with h | ⟨d, h, _⟩; exact h; cases h
      rw [drop_at hc, List.drop_eq_nil_of_le (List.getElem?_eq_none_iff.1 hn), hqt]
      unfold saidGo
      simp
    | some d =>
      rw [hn] at hq hd
      rw [drop_at hc, drop_at hn]
      refine saidGo_quote num quoted d _ (fun e => hd (by rw [e])) ?_
      rcases hq with h | ⟨d', h, hs⟩
      · exact .inl h
      · injection h with h; rw [h]; exact .inr hs
  have h1 := h.said
  have h2 := h.place
  rw [e] at h1 h2
  have := h.small
  exact ⟨h1, by simp only at h2; omega, by omega⟩
theorem Sd.one {num : Bool} {rs : List Pg.T} {p q : Nat} {acc : Pg.T} (h : Sd num rs p q false acc) (hc : rs[q]? = some [39]) (hd : rs[q + 1]? ≠ some [39]) (hq : ¬ ∃ d, rs[q + 1]? = some d ∧ spec num d = true) : Sd num rs p (q + 1) false (acc ++ [39]) := by
  have e : saidGo num false (rs.drop q) = (39 :: (saidGo num false (rs.drop (q + 1))).1, (saidGo num false (rs.drop (q + 1))).2 + 1) := by
    cases hn : rs[q + 1]? with
    | none =>
      rw [drop_at hc, List.drop_eq_nil_of_le (List.getElem?_eq_none_iff.1 hn)]
      unfold saidGo
      simp [spec]
    | some d =>
      rw [hn] at hq hd
      rw [drop_at hc, drop_at hn]
      refine saidGo_one num d _ (fun e => hd (by rw [e])) ?_
      cases hs : spec num d with
      | false => rfl
      | true => exact absurd ⟨d, rfl, hs⟩ hq
  have h1 := h.said
  have h2 := h.place
  rw [e] at h1 h2
  have := h.small
  exact ⟨by rw [List.append_assoc]; exact h1, by simp only at h2; omega, by rw [List.length_append, List.length_singleton]; omega⟩
end Go.Proofs.YtaepcfidpekflaaGreatDoor
