/-
  Several texts in one (Sw, Qe, Qf). By the verifier.
-/
import Derived.Shelf.Strings.Trim
import Derived.Shelf.Strings.Prefix
import Derived.Shelf.GgClosure.StringsTrimFunc
import Derived.Shelf.Strconv.Itoa3
import Derived.Shelf.Pu.ParseUintPublic10
import Derived.Shelf.Slices.Turned
import Derived.Test.YtaepcfidpekflaaGreatDoorZ03
import Derived.Lib.AppendIntMem
import Derived.Lib.OthersKept
import Derived.WalkSpells
import Derived.WalkLawsBesides
import Derived.Deep.DeepCutAuto
import Derived.Deep.CutBlock
import Derived.Deep.RegionWith
import Derived.Outline
namespace Go.Proofs
open Go.Shelf
def Tryz.lays162_ren:Go.Shelf.Ren:=⟨fun | 162=>271 | 232=>144 | 227=>145 | 234=>147 | 236=>149 | 228=>180 | 271=>182 | 151=>181 | 120=>212 | 197=>159 | 152=>211 | 260=>191 | 137=>230 | 119=>106 | 224=>178 | 225=>177 | 217=>176 | 266=>209 | n=>n,fun | 9=>9 | 4=>4 | 3=>3 | 5=>5 | 117=>259 | 116=>258 | 0=>0 | 124=>262 | 21=>21 | 105=>272 | 46=>254 | 119=>250 | 139=>253 | 138=>252 | n=>n,fun | 3=>1 | 4=>2 | n=>n⟩
theorem Tryz.lays162:Go.Proofs.Lays.n162 Tryz.prog Tryz.lays162_ren:={
 mixed:=by kernel_rfl
 f119:=Tryz.func106.trans (congrArg some (by kernel_rfl))
 f120:=Tryz.func212.trans (congrArg some (by kernel_rfl))
 f137:=Tryz.func230.trans (congrArg some (by kernel_rfl))
 f151:=Tryz.func181.trans (congrArg some (by kernel_rfl))
 f152:=Tryz.func211.trans (congrArg some (by kernel_rfl))
 f162:=Tryz.func271.trans (congrArg some (by kernel_rfl))
 f197:=Tryz.func159.trans (congrArg some (by kernel_rfl))
 f217:=Tryz.func176.trans (congrArg some (by kernel_rfl))
 f224:=Tryz.func178.trans (congrArg some (by kernel_rfl))
 f225:=Tryz.func177.trans (congrArg some (by kernel_rfl))
 f227:=Tryz.func145.trans (congrArg some (by kernel_rfl))
 f228:=Tryz.func180.trans (congrArg some (by kernel_rfl))
 f232:=Tryz.func144.trans (congrArg some (by kernel_rfl))
 f234:=Tryz.func147.trans (congrArg some (by kernel_rfl))
 f236:=Tryz.func149.trans (congrArg some (by kernel_rfl))
 f260:=Tryz.func191.trans (congrArg some (by kernel_rfl))
 f266:=Tryz.func209.trans (congrArg some (by kernel_rfl))
 f271:=Tryz.func182.trans (congrArg some (by kernel_rfl))
 t0:=Tryz.underlying0
 a0:=Tryz.isAgg0
 z0:=Tryz.sizeOf0
 v0:=Tryz.zeroValue0
 t3:=Tryz.underlying3
 a3:=Tryz.isAgg3
 z3:=Tryz.sizeOf3
 v3:=Tryz.zeroValue3
 t4:=Tryz.underlying4
 a4:=Tryz.isAgg4
 z4:=Tryz.sizeOf4
 v4:=Tryz.zeroValue4
 t5:=Tryz.underlying5
 a5:=Tryz.isAgg5
 z5:=Tryz.sizeOf5
 v5:=Tryz.zeroValue5
 t9:=Tryz.underlying9
 a9:=Tryz.isAgg9
 z9:=Tryz.sizeOf9
 v9:=Tryz.zeroValue9
 t21:=Tryz.underlying21
 a21:=Tryz.isAgg21
 z21:=Tryz.sizeOf21
 v21:=Tryz.zeroValue21
 t46:=Tryz.underlying254
 a46:=Tryz.isAgg254
 z46:=Tryz.sizeOf254
 v46:=Tryz.zeroValue254
 t105:=Tryz.underlying272
 a105:=Tryz.isAgg272
 z105:=Tryz.sizeOf272
 v105:=Tryz.zeroValue272
 t116:=Tryz.underlying258
 a116:=Tryz.isAgg258
 z116:=Tryz.sizeOf258
 t117:=Tryz.underlying259
 a117:=Tryz.isAgg259
 z117:=Tryz.sizeOf259
 v117:=Tryz.zeroValue259
 t119:=Tryz.underlying250
 a119:=Tryz.isAgg250
 z119:=Tryz.sizeOf250
 t124:=Tryz.underlying262
 a124:=Tryz.isAgg262
 z124:=Tryz.sizeOf262
 v124:=Tryz.zeroValue262
 t138:=Tryz.underlying252
 a138:=Tryz.isAgg252
 z138:=Tryz.sizeOf252
 v138:=Tryz.zeroValue252
 t139:=Tryz.underlying253
 a139:=Tryz.isAgg253
 z139:=Tryz.sizeOf253
 v139:=Tryz.zeroValue253
 g3:=by kernel_rfl
 g4:=by kernel_rfl }
open Go.RowKit in
theorem Tryz.strings_TrimRight_one (s:ByteArray) (c:UInt8) (hc:c.toNat < 128) (w:World) (hs:s.size ≤ 9223372036854775807):
  Calls Tryz.prog 271 #[.string s,.string ⟨#[c]⟩] w fun e w'=>e = .returned (.string ⟨(Lib.trimRightB s.data.toList c).toArray⟩) ∧ w' = w:=Any.strings_TrimRight_one Tryz.lays162 s c hc w hs
def Tryz.lays161_ren:Go.Shelf.Ren:=⟨fun | 161=>306 | 231=>143 | 227=>145 | 233=>146 | 235=>148 | 228=>180 | 197=>159 | 151=>181 | 260=>191 | 152=>211 | 137=>230 | 119=>106 | 224=>178 | 225=>177 | 217=>176 | 266=>209 | n=>n,fun | 9=>9 | 4=>4 | 3=>3 | 5=>5 | 117=>259 | 116=>258 | 0=>0 | 124=>262 | 105=>272 | 21=>21 | 119=>250 | 46=>254 | 139=>253 | 138=>252 | n=>n,fun | 3=>1 | 4=>2 | n=>n⟩
theorem Tryz.lays161:Go.Proofs.Lays.n161 Tryz.prog Tryz.lays161_ren:={
 mixed:=by kernel_rfl
 f119:=Tryz.func106.trans (congrArg some (by kernel_rfl))
 f137:=Tryz.func230.trans (congrArg some (by kernel_rfl))
 f151:=Tryz.func181.trans (congrArg some (by kernel_rfl))
 f152:=Tryz.func211.trans (congrArg some (by kernel_rfl))
 f161:=Tryz.func306.trans (congrArg some (by kernel_rfl))
 f197:=Tryz.func159.trans (congrArg some (by kernel_rfl))
 f217:=Tryz.func176.trans (congrArg some (by kernel_rfl))
 f224:=Tryz.func178.trans (congrArg some (by kernel_rfl))
 f225:=Tryz.func177.trans (congrArg some (by kernel_rfl))
 f227:=Tryz.func145.trans (congrArg some (by kernel_rfl))
 f228:=Tryz.func180.trans (congrArg some (by kernel_rfl))
 f231:=Tryz.func143.trans (congrArg some (by kernel_rfl))
 f233:=Tryz.func146.trans (congrArg some (by kernel_rfl))
 f235:=Tryz.func148.trans (congrArg some (by kernel_rfl))
 f260:=Tryz.func191.trans (congrArg some (by kernel_rfl))
 f266:=Tryz.func209.trans (congrArg some (by kernel_rfl))
 t0:=Tryz.underlying0
 a0:=Tryz.isAgg0
 z0:=Tryz.sizeOf0
 v0:=Tryz.zeroValue0
 t3:=Tryz.underlying3
 a3:=Tryz.isAgg3
 z3:=Tryz.sizeOf3
 v3:=Tryz.zeroValue3
 t4:=Tryz.underlying4
 a4:=Tryz.isAgg4
 z4:=Tryz.sizeOf4
 v4:=Tryz.zeroValue4
 t5:=Tryz.underlying5
 a5:=Tryz.isAgg5
 z5:=Tryz.sizeOf5
 v5:=Tryz.zeroValue5
 t9:=Tryz.underlying9
 a9:=Tryz.isAgg9
 z9:=Tryz.sizeOf9
 v9:=Tryz.zeroValue9
 t21:=Tryz.underlying21
 a21:=Tryz.isAgg21
 z21:=Tryz.sizeOf21
 v21:=Tryz.zeroValue21
 t46:=Tryz.underlying254
 a46:=Tryz.isAgg254
 z46:=Tryz.sizeOf254
 v46:=Tryz.zeroValue254
 t105:=Tryz.underlying272
 a105:=Tryz.isAgg272
 z105:=Tryz.sizeOf272
 v105:=Tryz.zeroValue272
 t116:=Tryz.underlying258
 a116:=Tryz.isAgg258
 z116:=Tryz.sizeOf258
 t117:=Tryz.underlying259
 a117:=Tryz.isAgg259
 z117:=Tryz.sizeOf259
 v117:=Tryz.zeroValue259
 t119:=Tryz.underlying250
 a119:=Tryz.isAgg250
 z119:=Tryz.sizeOf250
 t124:=Tryz.underlying262
 a124:=Tryz.isAgg262
 z124:=Tryz.sizeOf262
 v124:=Tryz.zeroValue262
 t138:=Tryz.underlying252
 a138:=Tryz.isAgg252
 z138:=Tryz.sizeOf252
 v138:=Tryz.zeroValue252
 t139:=Tryz.underlying253
 a139:=Tryz.isAgg253
 z139:=Tryz.sizeOf253
 v139:=Tryz.zeroValue253
 g3:=by kernel_rfl
 g4:=by kernel_rfl }
open Go.RowKit in
theorem Tryz.strings_TrimLeft_one (s:ByteArray) (c:UInt8) (hc:c.toNat < 128) (w:World):
  Calls Tryz.prog 306 #[.string s,.string ⟨#[c]⟩] w fun e w'=>e = .returned (.string ⟨(Lib.trimLeftB s.data.toList c).toArray⟩) ∧ w' = w:=Any.strings_TrimLeft_one Tryz.lays161 s c hc w
def Tryz.lays99_ren:Go.Shelf.Ren:=⟨fun | 99=>187 | 206=>141 | n=>n,fun | 9=>9 | 4=>4 | 3=>3 | n=>n,fun | n=>n⟩
theorem Tryz.lays99:Go.Proofs.Lays.n99 Tryz.prog Tryz.lays99_ren:={
 mixed:=by kernel_rfl
 f99:=Tryz.func187.trans (congrArg some (by kernel_rfl))
 f206:=Tryz.func141.trans (congrArg some (by kernel_rfl))
 t3:=Tryz.underlying3
 a3:=Tryz.isAgg3
 z3:=Tryz.sizeOf3
 v3:=Tryz.zeroValue3
 t4:=Tryz.underlying4
 a4:=Tryz.isAgg4
 z4:=Tryz.sizeOf4
 v4:=Tryz.zeroValue4
 t9:=Tryz.underlying9
 a9:=Tryz.isAgg9
 z9:=Tryz.sizeOf9
 v9:=Tryz.zeroValue9 }
open Go.RowKit Go.Lib in
theorem Tryz.strings_HasPrefix (s p:ByteArray) (w:World):
  Calls Tryz.prog 187 #[.string s,.string p] w fun e w'=>e = .returned (.bool (Lib.hasPrefix s.data.toList p.data.toList)) ∧ w' = w:=Any.strings_HasPrefix Tryz.lays99 s p w
def Tryz.lays272_ren:Go.Shelf.Ren:=⟨fun | 272=>213 | 315=>231 | n=>n,fun | 9=>9 | 40=>95 | 4=>4 | 3=>3 | 0=>0 | 21=>21 | n=>n,fun | n=>n⟩
theorem Tryz.lays272:Go.Proofs.Lays.n272 Tryz.prog Tryz.lays272_ren:={
 mixed:=by kernel_rfl
 f272:=Tryz.func213.trans (congrArg some (by kernel_rfl))
 f315:=Tryz.func231.trans (congrArg some (by kernel_rfl))
 t0:=Tryz.underlying0
 a0:=Tryz.isAgg0
 z0:=Tryz.sizeOf0
 v0:=Tryz.zeroValue0
 t3:=Tryz.underlying3
 a3:=Tryz.isAgg3
 z3:=Tryz.sizeOf3
 v3:=Tryz.zeroValue3
 t4:=Tryz.underlying4
 a4:=Tryz.isAgg4
 z4:=Tryz.sizeOf4
 v4:=Tryz.zeroValue4
 t9:=Tryz.underlying9
 a9:=Tryz.isAgg9
 z9:=Tryz.sizeOf9
 v9:=Tryz.zeroValue9
 t21:=Tryz.underlying21
 a21:=Tryz.isAgg21
 z21:=Tryz.sizeOf21
 v21:=Tryz.zeroValue21
 t40:=Tryz.underlying95
 a40:=Tryz.isAgg95
 z40:=Tryz.sizeOf95
 v40:=Tryz.zeroValue95 }
open Go.RowKit Go.Lib in
theorem Tryz.strings_TrimLeftFunc (g:Nat) (lb:Array Value) (eg:∀ args w,(callFunc g args).run Tryz.prog w = .ok (.enter g args) w) (p:Nat → Bool) (s:ByteArray) (w:World) (hp:PredAt Tryz.prog g lb encR p w):
  Calls Tryz.prog 213 #[.string s,.func (.func g) #[] lb] w fun e w'=>e = .returned (.string (Lib.trimLeftF p s)) ∧ Below w.heap.size w w':=Any.strings_TrimLeftFunc Tryz.lays272 g lb eg p s w hp
def Tryz.lays171_ren:Go.Shelf.Ren:=⟨fun | 171=>272 | 243=>288 | 246=>302 | 283=>267 | 284=>268 | 285=>269 | 286=>270 | 129=>284 | 317=>283 | 318=>285 | 319=>286 | 320=>287 | 337=>300 | 338=>301 | n=>n,fun | 3=>3 | 9=>9 | 2=>2 | 4=>4 | 171=>394 | 0=>0 | 53=>314 | 37=>146 | 5=>5 | 173=>397 | 212=>406 | 51=>264 | 20=>20 | 213=>407 | 46=>254 | 232=>422 | 233=>423 | n=>n,fun | 17=>4 | 18=>7 | 19=>8 | n=>n⟩
theorem Tryz.lays171:Go.Proofs.Lays.n171 Tryz.prog Tryz.lays171_ren:={
 mixed:=by kernel_rfl
 f129:=Tryz.func284.trans (congrArg some (by kernel_rfl))
 f171:=Tryz.func272.trans (congrArg some (by kernel_rfl))
 f243:=Tryz.func288.trans (congrArg some (by kernel_rfl))
 f246:=Tryz.func302.trans (congrArg some (by kernel_rfl))
 f283:=Tryz.func267.trans (congrArg some (by kernel_rfl))
 f284:=Tryz.func268.trans (congrArg some (by kernel_rfl))
 f285:=Tryz.func269.trans (congrArg some (by kernel_rfl))
 f286:=Tryz.func270.trans (congrArg some (by kernel_rfl))
 f317:=Tryz.func283.trans (congrArg some (by kernel_rfl))
 f318:=Tryz.func285.trans (congrArg some (by kernel_rfl))
 f319:=Tryz.func286.trans (congrArg some (by kernel_rfl))
 f320:=Tryz.func287.trans (congrArg some (by kernel_rfl))
 f337:=Tryz.func300.trans (congrArg some (by kernel_rfl))
 f338:=Tryz.func301.trans (congrArg some (by kernel_rfl))
 t0:=Tryz.underlying0
 a0:=Tryz.isAgg0
 z0:=Tryz.sizeOf0
 v0:=Tryz.zeroValue0
 t2:=Tryz.underlying2
 a2:=Tryz.isAgg2
 z2:=Tryz.sizeOf2
 v2:=Tryz.zeroValue2
 t3:=Tryz.underlying3
 a3:=Tryz.isAgg3
 z3:=Tryz.sizeOf3
 v3:=Tryz.zeroValue3
 t4:=Tryz.underlying4
 a4:=Tryz.isAgg4
 z4:=Tryz.sizeOf4
 v4:=Tryz.zeroValue4
 t5:=Tryz.underlying5
 a5:=Tryz.isAgg5
 z5:=Tryz.sizeOf5
 v5:=Tryz.zeroValue5
 t9:=Tryz.underlying9
 a9:=Tryz.isAgg9
 z9:=Tryz.sizeOf9
 v9:=Tryz.zeroValue9
 t20:=Tryz.underlying20
 a20:=Tryz.isAgg20
 z20:=Tryz.sizeOf20
 v20:=Tryz.zeroValue20
 t37:=Tryz.underlying146
 a37:=Tryz.isAgg146
 z37:=Tryz.sizeOf146
 v37:=Tryz.zeroValue146
 t46:=Tryz.underlying254
 a46:=Tryz.isAgg254
 z46:=Tryz.sizeOf254
 v46:=Tryz.zeroValue254
 t51:=Tryz.underlying264
 a51:=Tryz.isAgg264
 z51:=Tryz.sizeOf264
 v51:=Tryz.zeroValue264
 t53:=Tryz.underlying314
 a53:=Tryz.isAgg314
 z53:=Tryz.sizeOf314
 v53:=Tryz.zeroValue314
 t171:=Tryz.underlying394
 a171:=Tryz.isAgg394
 z171:=Tryz.sizeOf394
 v171:=Tryz.zeroValue394
 t173:=Tryz.underlying397
 a173:=Tryz.isAgg397
 z173:=Tryz.sizeOf397
 v173:=Tryz.zeroValue397
 t212:=Tryz.underlying406
 a212:=Tryz.isAgg406
 z212:=Tryz.sizeOf406
 v212:=Tryz.zeroValue406
 t213:=Tryz.underlying407
 a213:=Tryz.isAgg407
 z213:=Tryz.sizeOf407
 t232:=Tryz.underlying422
 a232:=Tryz.isAgg422
 z232:=Tryz.sizeOf422
 v232:=Tryz.zeroValue422
 t233:=Tryz.underlying423
 a233:=Tryz.isAgg423
 z233:=Tryz.sizeOf423
 v233:=Tryz.zeroValue423
 g17:=by kernel_rfl
 g18:=by kernel_rfl
 g19:=by kernel_rfl }
open Go.RowKit Go.Sort Go.Lib in
theorem Tryz.strconv_Itoa_small (i:Nat) (hi:i < 100) (w:World):
  Calls Tryz.prog 272 #[.int .i64 i] w fun e w'=>e = .returned (.string ⟨(Lib.decDigits i).toArray⟩) ∧ w' = w:=Any.strconv_Itoa_small Tryz.lays171 i hi w
def Tryz.lays283_ren:Go.Shelf.Ren:=⟨fun | 283=>267 | n=>n,fun | 3=>3 | 9=>9 | 4=>4 | n=>n,fun | n=>n⟩
theorem Tryz.lays283:Go.Proofs.Lays.n283 Tryz.prog Tryz.lays283_ren:={
 mixed:=by kernel_rfl
 f283:=Tryz.func267.trans (congrArg some (by kernel_rfl))
 t3:=Tryz.underlying3
 a3:=Tryz.isAgg3
 z3:=Tryz.sizeOf3
 v3:=Tryz.zeroValue3
 t4:=Tryz.underlying4
 a4:=Tryz.isAgg4
 z4:=Tryz.sizeOf4
 v4:=Tryz.zeroValue4
 t9:=Tryz.underlying9
 a9:=Tryz.isAgg9
 z9:=Tryz.sizeOf9
 v9:=Tryz.zeroValue9 }
open Go.Lib in
theorem Tryz.internal_strconv_small (i:Nat) (h:i < 100) (w:World):
  Calls Tryz.prog 267 #[.int .i64 i] w fun e w'=>e = .returned (.string ⟨(Lib.decDigits i).toArray⟩) ∧ w' = w:=Any.internal_strconv_small Tryz.lays283 i h w
def Tryz.laysM284_ren:Go.Shelf.Ren:=⟨fun | 284=>268 | 129=>284 | 317=>283 | 318=>285 | n=>n,fun | 53=>314 | 3=>3 | 212=>406 | 0=>0 | 4=>4 | 46=>254 | 5=>5 | 9=>9 | n=>n,fun | 17=>4 | n=>n⟩
theorem Tryz.laysM284:Go.Proofs.LaysM.n284 Tryz.prog Tryz.laysM284_ren:={
 mixed:=by kernel_rfl
 f129:=Tryz.func284.trans (congrArg some (by kernel_rfl))
 f284:=Tryz.func268.trans (congrArg some (by kernel_rfl))
 f317:=Tryz.func283.trans (congrArg some (by kernel_rfl))
 f318:=Tryz.func285.trans (congrArg some (by kernel_rfl))
 t0:=Tryz.underlying0
 a0:=Tryz.isAgg0
 z0:=Tryz.sizeOf0
 v0:=Tryz.zeroValue0
 t3:=Tryz.underlying3
 a3:=Tryz.isAgg3
 z3:=Tryz.sizeOf3
 v3:=Tryz.zeroValue3
 t4:=Tryz.underlying4
 a4:=Tryz.isAgg4
 z4:=Tryz.sizeOf4
 v4:=Tryz.zeroValue4
 t5:=Tryz.underlying5
 a5:=Tryz.isAgg5
 z5:=Tryz.sizeOf5
 v5:=Tryz.zeroValue5
 t9:=Tryz.underlying9
 a9:=Tryz.isAgg9
 z9:=Tryz.sizeOf9
 v9:=Tryz.zeroValue9
 t46:=Tryz.underlying254
 a46:=Tryz.isAgg254
 z46:=Tryz.sizeOf254
 v46:=Tryz.zeroValue254
 t53:=Tryz.underlying314
 a53:=Tryz.isAgg314
 z53:=Tryz.sizeOf314
 v53:=Tryz.zeroValue314
 t212:=Tryz.underlying406
 a212:=Tryz.isAgg406
 z212:=Tryz.sizeOf406
 v212:=Tryz.zeroValue406
 g17:=by kernel_rfl
 i0:=by kernel_rfl
 i3:=by kernel_rfl
 i4:=by kernel_rfl
 i5:=by kernel_rfl
 i9:=by kernel_rfl
 i46:=by kernel_rfl
 i53:=by kernel_rfl
 i212:=by kernel_rfl
 m17:=by kernel_rfl }
open Go.Lib in
theorem Tryz.internal_strconv_numDigits (u : Nat) (h1 : 1 ≤ u) (h2 : u < 18446744073709551616) (w : World) (htab : Lib.TabIs Tryz.prog w "internal/strconv.uint64pow10" .u64 Lib.pow10Tab) :
  Calls Tryz.prog 268 #[.int .u64 u] w fun e w'=>e = .returned (.int .i64 (Lib.nDigits u)) ∧ w' = w:=Any.internal_strconv_numDigits Tryz.laysM284 u h1 h2 w htab
def Tryz.lays285_ren:Go.Shelf.Ren:=⟨fun | 285=>269 | n=>n,fun | 37=>146 | 53=>314 | 3=>3 | 4=>4 | 51=>264 | 9=>9 | 5=>5 | 0=>0 | n=>n,fun | n=>n⟩
theorem Tryz.lays285:Go.Proofs.Lays.n285 Tryz.prog Tryz.lays285_ren:={
 mixed:=by kernel_rfl
 f285:=Tryz.func269.trans (congrArg some (by kernel_rfl))
 t0:=Tryz.underlying0
 a0:=Tryz.isAgg0
 z0:=Tryz.sizeOf0
 v0:=Tryz.zeroValue0
 t3:=Tryz.underlying3
 a3:=Tryz.isAgg3
 z3:=Tryz.sizeOf3
 v3:=Tryz.zeroValue3
 t4:=Tryz.underlying4
 a4:=Tryz.isAgg4
 z4:=Tryz.sizeOf4
 v4:=Tryz.zeroValue4
 t5:=Tryz.underlying5
 a5:=Tryz.isAgg5
 z5:=Tryz.sizeOf5
 v5:=Tryz.zeroValue5
 t9:=Tryz.underlying9
 a9:=Tryz.isAgg9
 z9:=Tryz.sizeOf9
 v9:=Tryz.zeroValue9
 t37:=Tryz.underlying146
 a37:=Tryz.isAgg146
 z37:=Tryz.sizeOf146
 v37:=Tryz.zeroValue146
 t51:=Tryz.underlying264
 a51:=Tryz.isAgg264
 z51:=Tryz.sizeOf264
 v51:=Tryz.zeroValue264
 t53:=Tryz.underlying314
 a53:=Tryz.isAgg314
 z53:=Tryz.sizeOf314
 v53:=Tryz.zeroValue314 }
open Go.RowKit Go.Sort Go.Lib in
theorem Tryz.internal_strconv_formatBase10 (blk off cap:Nat) (u:Nat) (d:Array UInt8) (w:World) (hH:Holds (fun (b:UInt8)=>Value.int .u8 (b.toNat:Int)) w blk off d) (hu:u < 10 ^ d.size) (hu64:u < 18446744073709551616) (hsz:d.size < 4611686018427387904):
  Calls Tryz.prog 269 #[.slice (some ⟨blk,off,none⟩) d.size cap,.int .u64 u] w fun e w'=>
   e = .returned (.tuple #[]) ∧ ∃ (n v':Nat) (dk:Array UInt8),w' = (putRow (fun (b:UInt8)=>Value.int .u8 (b.toNat:Int)) w blk off dk).drewN n ∧ FmtInv d.size u 0 v' dk:=Any.internal_strconv_formatBase10 Tryz.lays285 blk off cap u d w hH hu hu64 hsz
def Tryz.laysPu14_ren:Go.Shelf.Ren:=⟨fun | 14=>254 | 16=>273 | 17=>274 | 19=>289 | 20=>290 | 21=>291 | 22=>292 | 23=>293 | 24=>294 | 25=>303 | 27=>272 | 26=>304 | 28=>288 | 29=>302 | 30=>267 | 31=>268 | 32=>269 | 33=>270 | 35=>284 | 34=>283 | 36=>285 | 37=>286 | 38=>287 | 39=>300 | 40=>301 | n=>n,fun | 9=>9 | 3=>3 | 22=>314 | 24=>67 | 25=>374 | 4=>4 | 34=>409 | 5=>5 | 36=>254 | 37=>146 | 0=>0 | 39=>411 | 21=>21 | 44=>420 | 47=>206 | 50=>426 | 48=>424 | 2=>2 | 52=>394 | 55=>397 | 59=>406 | 60=>264 | 20=>20 | 61=>407 | 65=>422 | 66=>423 | 67=>151 | n=>n,fun | 0=>5 | 1=>6 | 2=>4 | 3=>7 | 4=>8 | n=>n⟩
theorem Tryz.laysPu14:Go.Proofs.LaysPu.n14 Tryz.prog Tryz.laysPu14_ren:={
 mixed:=by kernel_rfl
 f14:=Tryz.func254.trans (congrArg some (by kernel_rfl))
 f16:=Tryz.func273.trans (congrArg some (by kernel_rfl))
 f17:=Tryz.func274.trans (congrArg some (by kernel_rfl))
 f19:=Tryz.func289.trans (congrArg some (by kernel_rfl))
 f20:=Tryz.func290.trans (congrArg some (by kernel_rfl))
 f21:=Tryz.func291.trans (congrArg some (by kernel_rfl))
 f22:=Tryz.func292.trans (congrArg some (by kernel_rfl))
 f23:=Tryz.func293.trans (congrArg some (by kernel_rfl))
 f24:=Tryz.func294.trans (congrArg some (by kernel_rfl))
 f25:=Tryz.func303.trans (congrArg some (by kernel_rfl))
 f26:=Tryz.func304.trans (congrArg some (by kernel_rfl))
 f27:=Tryz.func272.trans (congrArg some (by kernel_rfl))
 f28:=Tryz.func288.trans (congrArg some (by kernel_rfl))
 f29:=Tryz.func302.trans (congrArg some (by kernel_rfl))
 f30:=Tryz.func267.trans (congrArg some (by kernel_rfl))
 f31:=Tryz.func268.trans (congrArg some (by kernel_rfl))
 f32:=Tryz.func269.trans (congrArg some (by kernel_rfl))
 f33:=Tryz.func270.trans (congrArg some (by kernel_rfl))
 f34:=Tryz.func283.trans (congrArg some (by kernel_rfl))
 f35:=Tryz.func284.trans (congrArg some (by kernel_rfl))
 f36:=Tryz.func285.trans (congrArg some (by kernel_rfl))
 f37:=Tryz.func286.trans (congrArg some (by kernel_rfl))
 f38:=Tryz.func287.trans (congrArg some (by kernel_rfl))
 f39:=Tryz.func300.trans (congrArg some (by kernel_rfl))
 f40:=Tryz.func301.trans (congrArg some (by kernel_rfl))
 t0:=Tryz.underlying0
 a0:=Tryz.isAgg0
 z0:=Tryz.sizeOf0
 v0:=Tryz.zeroValue0
 i0:=by kernel_rfl
 t2:=Tryz.underlying2
 a2:=Tryz.isAgg2
 z2:=Tryz.sizeOf2
 v2:=Tryz.zeroValue2
 i2:=by kernel_rfl
 t3:=Tryz.underlying3
 a3:=Tryz.isAgg3
 z3:=Tryz.sizeOf3
 v3:=Tryz.zeroValue3
 i3:=by kernel_rfl
 t4:=Tryz.underlying4
 a4:=Tryz.isAgg4
 z4:=Tryz.sizeOf4
 v4:=Tryz.zeroValue4
 i4:=by kernel_rfl
 t5:=Tryz.underlying5
 a5:=Tryz.isAgg5
 z5:=Tryz.sizeOf5
 v5:=Tryz.zeroValue5
 i5:=by kernel_rfl
 t9:=Tryz.underlying9
 a9:=Tryz.isAgg9
 z9:=Tryz.sizeOf9
 v9:=Tryz.zeroValue9
 i9:=by kernel_rfl
 t20:=Tryz.underlying20
 a20:=Tryz.isAgg20
 z20:=Tryz.sizeOf20
 v20:=Tryz.zeroValue20
 i20:=by kernel_rfl
 t21:=Tryz.underlying21
 a21:=Tryz.isAgg21
 z21:=Tryz.sizeOf21
 v21:=Tryz.zeroValue21
 i21:=by kernel_rfl
 t22:=Tryz.underlying314
 a22:=Tryz.isAgg314
 z22:=Tryz.sizeOf314
 v22:=Tryz.zeroValue314
 i22:=by kernel_rfl
 t24:=Tryz.underlying67
 a24:=Tryz.isAgg67
 z24:=Tryz.sizeOf67
 v24:=Tryz.zeroValue67
 i24:=by kernel_rfl
 t25:=Tryz.underlying374
 a25:=Tryz.isAgg374
 z25:=Tryz.sizeOf374
 v25:=Tryz.zeroValue374
 i25:=by kernel_rfl
 t34:=Tryz.underlying409
 a34:=Tryz.isAgg409
 z34:=Tryz.sizeOf409
 v34:=Tryz.zeroValue409
 i34:=by kernel_rfl
 c34:=by kernel_rfl
 t36:=Tryz.underlying254
 a36:=Tryz.isAgg254
 z36:=Tryz.sizeOf254
 v36:=Tryz.zeroValue254
 i36:=by kernel_rfl
 t37:=Tryz.underlying146
 a37:=Tryz.isAgg146
 z37:=Tryz.sizeOf146
 v37:=Tryz.zeroValue146
 i37:=by kernel_rfl
 t39:=Tryz.underlying411
 a39:=Tryz.isAgg411
 z39:=Tryz.sizeOf411
 v39:=Tryz.zeroValue411
 i39:=by kernel_rfl
 t44:=Tryz.underlying420
 a44:=Tryz.isAgg420
 z44:=Tryz.sizeOf420
 v44:=Tryz.zeroValue420
 i44:=by kernel_rfl
 t47:=Tryz.underlying206
 a47:=Tryz.isAgg206
 z47:=Tryz.sizeOf206
 v47:=Tryz.zeroValue206
 i47:=by kernel_rfl
 t48:=Tryz.underlying424
 a48:=Tryz.isAgg424
 z48:=Tryz.sizeOf424
 v48:=Tryz.zeroValue424
 i48:=by kernel_rfl
 t50:=Tryz.underlying426
 a50:=Tryz.isAgg426
 z50:=Tryz.sizeOf426
 v50:=Tryz.zeroValue426
 i50:=by kernel_rfl
 t52:=Tryz.underlying394
 a52:=Tryz.isAgg394
 z52:=Tryz.sizeOf394
 v52:=Tryz.zeroValue394
 i52:=by kernel_rfl
 t55:=Tryz.underlying397
 a55:=Tryz.isAgg397
 z55:=Tryz.sizeOf397
 v55:=Tryz.zeroValue397
 i55:=by kernel_rfl
 t59:=Tryz.underlying406
 a59:=Tryz.isAgg406
 z59:=Tryz.sizeOf406
 v59:=Tryz.zeroValue406
 i59:=by kernel_rfl
 t60:=Tryz.underlying264
 a60:=Tryz.isAgg264
 z60:=Tryz.sizeOf264
 v60:=Tryz.zeroValue264
 i60:=by kernel_rfl
 t61:=Tryz.underlying407
 a61:=Tryz.isAgg407
 z61:=Tryz.sizeOf407
 t65:=Tryz.underlying422
 a65:=Tryz.isAgg422
 z65:=Tryz.sizeOf422
 v65:=Tryz.zeroValue422
 i65:=by kernel_rfl
 t66:=Tryz.underlying423
 a66:=Tryz.isAgg423
 z66:=Tryz.sizeOf423
 v66:=Tryz.zeroValue423
 i66:=by kernel_rfl
 t67:=Tryz.underlying151
 a67:=Tryz.isAgg151
 z67:=Tryz.sizeOf151
 v67:=Tryz.zeroValue151
 i67:=by kernel_rfl
 g0:=by kernel_rfl
 m0:=by kernel_rfl
 g1:=by kernel_rfl
 m1:=by kernel_rfl
 g2:=by kernel_rfl
 m2:=by kernel_rfl
 g3:=by kernel_rfl
 m3:=by kernel_rfl
 g4:=by kernel_rfl
 m4:=by kernel_rfl }
open Go.RowKit in
theorem Tryz.strconv_ParseUint_10_at64_ok (s:ByteArray) (hmax:s.size ≤ 9223372036854775806) (u:Nat) (h:Lib.parseUintB 64 s.data.toList = .ok u) (w:World):
  Calls Tryz.prog 254 #[.string s,.int .i64 10,.int .i64 64] w fun e w'=>e = .returned (.tuple #[.int .u64 u,.nilIface]) ∧ (w' = w ∨ w' = Lib.bytesWorld w 5 s):=Any.strconv_ParseUint_10_at64_ok Tryz.laysPu14 s hmax u h w
open Go.RowKit in
theorem Tryz.strconv_ParseUint_10_at64_none (s:ByteArray) (hlim:s.size ≤ 281474976710656) (h : ∀ n, Lib.parseUintB 64 s.data.toList ≠ .ok n) (h2 : Lib.parseUintB 64 s.data.toList ≠ .range) (ev:Value) (w:World) (hv:w.cell? ⟨5,0,none⟩ = some ev) (hev:ev = .nilIface ∨ ∃ te pe,ev = .iface te pe):
  Calls Tryz.prog 254 #[.string s,.int .i64 10,.int .i64 64] w fun e w'=>∃ N,e = .returned (.tuple #[.int .u64 0,.iface 411 (.pointer (some ⟨N,0,none⟩))]) ∧ w.heap.size ≤ N ∧ w'.heap[N]? = some (.cells #[.string ⟨#[80,97,114,115,101,85,105,110,116]⟩,.string s,ev] 420 (0,0)) ∧ Below w.heap.size w w':= by
  cases e : Lib.parseUintB 64 s.data.toList with
  | ok n => exact absurd e (h n)
  | range => exact absurd e h2
  | _ => exact Any.strconv_ParseUint_10_at64_syntax Tryz.laysPu14 s hlim e ev w hv hev
open Go.RowKit in
theorem Tryz.strconv_ParseUint_10_at64_range (s:ByteArray) (hlim:s.size ≤ 281474976710656) (h:Lib.parseUintB 64 s.data.toList = .range) (ev:Value) (w:World) (hv:w.cell? ⟨6,0,none⟩ = some ev) (hev:ev = .nilIface ∨ ∃ te pe,ev = .iface te pe):
  Calls Tryz.prog 254 #[.string s,.int .i64 10,.int .i64 64] w fun e w'=>∃ N,e = .returned (.tuple #[.int .u64 18446744073709551615,.iface 411 (.pointer (some ⟨N,0,none⟩))]) ∧ w.heap.size ≤ N ∧ w'.heap[N]? = some (.cells #[.string ⟨#[80,97,114,115,101,85,105,110,116]⟩,.string s,ev] 420 (0,0)) ∧ Below w.heap.size w w':=Any.strconv_ParseUint_10_at64_range Tryz.laysPu14 s hlim h ev w hv hev
def Tryz.lays110_ren:Go.Shelf.Ren:=⟨fun | 110=>154 | 109=>183 | n=>n,fun | 31=>35 | 9=>9 | 4=>4 | 3=>3 | 0=>0 | n=>n,fun | n=>n⟩
theorem Tryz.lays110:Go.Proofs.Lays.n110 Tryz.prog Tryz.lays110_ren:={
 mixed:=by kernel_rfl
 f109:=Tryz.func183.trans (congrArg some (by kernel_rfl))
 f110:=Tryz.func154.trans (congrArg some (by kernel_rfl))
 t0:=Tryz.underlying0
 a0:=Tryz.isAgg0
 z0:=Tryz.sizeOf0
 v0:=Tryz.zeroValue0
 t3:=Tryz.underlying3
 a3:=Tryz.isAgg3
 z3:=Tryz.sizeOf3
 v3:=Tryz.zeroValue3
 t4:=Tryz.underlying4
 a4:=Tryz.isAgg4
 z4:=Tryz.sizeOf4
 v4:=Tryz.zeroValue4
 t9:=Tryz.underlying9
 a9:=Tryz.isAgg9
 z9:=Tryz.sizeOf9
 v9:=Tryz.zeroValue9
 t31:=Tryz.underlying35
 a31:=Tryz.isAgg35
 z31:=Tryz.sizeOf35
 v31:=Tryz.zeroValue35 }
open Go.Lib in
theorem Tryz.slices_Contains_string (b off n c:Nat) (zs:List ByteArray) (x:ByteArray) (w:World) (hz:n ≤ zs.length) (hbig:n ≤ 9223372036854775807) (hc:∀ j,j < zs.length → w.cell? ⟨b,off + j,none⟩ = some (.string (zs.getD j ByteArray.empty))):
  Calls Tryz.prog 154 #[.slice (some ⟨b,off,none⟩) n c,.string x] w fun e w'=>e = .returned (.bool (Lib.containsS (zs.take n) x)) ∧ w' = w:=Any.slices_Contains_string Tryz.lays110 b off n c zs x w hz hbig hc
end Go.Proofs
namespace Go.Proofs.YtaepcfidpekflaaGreatDoor
open Go.RowKit Go.Sort
theorem val_snoc (l:Pr.T) (c:UInt8):Pr.val (l ++ [c]) = 10 * Pr.val l + (c.toNat - 48):=by simp [Pr.val]
theorem dec_val (u:Nat):Pr.val (Lib.decDigits u) = u ∧ ∀ c ∈ Lib.decDigits u,Pn.isDig c = true:=by
 induction u using Nat.strongRecOn with
 | _ u ih=>
  rw [Lib.decDigits]
  by_cases h:u < 10
  ·rw [dif_pos h]
   have:(UInt8.ofNat (48 + u)).toNat = 48 + u:=by rw [UInt8.toNat_ofNat'];omega
   refine ⟨by show 10 * 0 + ((UInt8.ofNat (48 + u)).toNat - 48) = u;rw [this];omega,fun c hc=>?_⟩
   rw [List.mem_singleton] at hc
   subst hc
   rw [Pn.isDig_iff,this];omega
  ·rw [dif_neg h]
   obtain ⟨i1,i2⟩:=ih (u / 10) (by omega)
   have:(UInt8.ofNat (48 + u % 10)).toNat = 48 + u % 10:=by rw [UInt8.toNat_ofNat'];omega
   refine ⟨by rw [val_snoc,i1,this];omega,fun c hc=>?_⟩
   rcases List.mem_append.1 hc with hc | hc
   ·exact i2 c hc
   ·rw [List.mem_singleton] at hc
    subst hc
    rw [Pn.isDig_iff,this];omega
theorem nd_le (u:Nat) (h:u < 18446744073709551616):Lib.nDigits u ≤ 20:=by
 rcases Nat.eq_zero_or_pos u with rfl | h1
 ·rw [Lib.nDigits_small (by omega)];omega
 ·have:=Lib.numDigits_eq u h1 h;split at this <;> omega
theorem dec_digs (u:Nat) (h:u < 18446744073709551616):Digs (Lib.decDigits u):=⟨(dec_val u).2,by rw [Lib.decDigits_length];have:=nd_le u h;omega⟩
set_option maxHeartbeats 6400000 in
set_option maxRecDepth 100000 in
theorem iformat_any (u : Nat) (hu : u ≤ 1000000000) (w : World) (htab : Lib.TabIs Tryz.prog w "internal/strconv.uint64pow10" .u64 Lib.pow10Tab) :
  Calls Tryz.prog 245 #[.int .u64 u,.int .i64 10] w fun e w'=>e = .returned (.string ⟨(Lib.decDigits u).toArray⟩) ∧ Below w.heap.size w w':=by
 by_cases hs:u < 100
 ·have hs':(u:Int) < 100:=by omega
  have hwr:IntKind.i64.wrap (u:Int) = u:=by rw [IntKind.wrap_i64];omega
  go_enter Tryz.func245,Tryz.ntmps245
  go_wp2_with (go_at_call 267;refine (Tryz.internal_strconv_small u hs _).mono ?_;rintro e w' ⟨rfl,rfl⟩)
  go_ret
  exact ⟨rfl,Below.refl _ _⟩
 ·have hs':¬ (u:Int) < 100:=by omega
  have hu1:1 ≤ u:=by omega
  have hu64:u < 18446744073709551616:=by omega
  have hnd20:=nd_le u hu64
  have hal:Program.arrayLen Tryz.prog 394 = 24:=by simp [Program.arrayLen,Tryz.underlying394]
  have hsl:∀ W,(Instr.sliceAt 394 (.pointer (some ⟨w.heap.size,0,none⟩)) none (some (.int .i64 (Lib.nDigits u:Int))) none).run Tryz.prog W = .ok (.slice (some ⟨w.heap.size,0,none⟩) (Lib.nDigits u) 24) W:=fun W=>by
   rw [run_sliceAt_array_h W 394 ⟨w.heap.size,0,none⟩ (by simp [Program.arrayLen,Program.elem,Tryz.underlying394]) .i64 (Lib.nDigits u:Int) (by omega) (by rw [hal];omega)]
   go_simp
  have hH0:=Lib.holds_zero0 w 394 (Lib.nDigits u) (by omega)
  have hfmt:=Tryz.internal_strconv_formatBase10 w.heap.size 0 24 u (Array.replicate (Lib.nDigits u) 0) (w.alloc (.cells Lib.zeros24 394)) hH0 (by rw [Array.size_replicate];exact Lib.lt_pow_nDigits u) hu64 (by rw [Array.size_replicate];omega)
  rw [Array.size_replicate] at hfmt
  have HH0:=Lib.hid hH0
  clear hH0 hal
  go_enter Tryz.func245,Tryz.ntmps245
  go_wp2_with (go_at_call 268;refine (Tryz.internal_strconv_numDigits u hu1 hu64 _ (Lib.tabIs_alloc htab _)).mono ?_;rintro e w' ⟨rfl,rfl⟩)
  go_at_call 269
  refine hfmt.mono ?_
  rintro e w' ⟨rfl,k,v',dk,rfl,hF⟩
  have hcv:(convert 146 9 (.slice (some ⟨w.heap.size,0,none⟩) (Lib.nDigits u) 24)).run Tryz.prog ((putRow (fun (b:UInt8)=>Value.int .u8 (b.toNat:Int)) (w.alloc (.cells Lib.zeros24 394)) w.heap.size 0 dk).drewN k) = .ok (.string ⟨(Lib.decDigits u).toArray⟩) ((putRow (fun (b:UInt8)=>Value.int .u8 (b.toNat:Int)) (w.alloc (.cells Lib.zeros24 394)) w.heap.size 0 dk).drewN k):=by
   have h:=run_convert_bytes_back (P:=Tryz.prog) ((putRow (fun (b:UInt8)=>Value.int .u8 (b.toNat:Int)) (w.alloc (.cells Lib.zeros24 394)) w.heap.size 0 dk).drewN k) 146 9 5 ⟨w.heap.size,0,none⟩ 24 (Lib.decDigits u) Tryz.underlying146 Tryz.underlying5 Tryz.underlying9 (fun j hj=>by
    rw [Lib.row_is_numeral hF j hj,Lib.add_plain,World.cell?_drewN]
    exact cell?_putRow (fun (b:UInt8)=>Value.int .u8 (b.toNat:Int)) _ w.heap.size 0 _ dk HH0.out (by rw [hF.size,Array.size_replicate]) j (by rw [hF.size];rw [Lib.decDigits_length] at hj;exact hj))
   rw [Lib.decDigits_length] at h
   exact h
  go_wp2
  go_ret
  obtain ⟨os,eo⟩:=Lib.fin_at w (.cells Lib.zeros24 394) dk k 0
  rw [eo]
  exact ⟨rfl,Lib.below_grow _ w (Nat.le_refl _) k os⟩
set_option maxHeartbeats 400000 in
theorem format_any (u:Nat) (hu:u ≤ 1000000000) (w:World) (hB:Base w):
  Calls Tryz.prog 227 #[.int .u64 u,.int .i64 10] w fun e w'=>e = .returned (.string ⟨(Lib.decDigits u).toArray⟩) ∧ Below w.heap.size w w':=by
 go_enter Tryz.func227,Tryz.ntmps227
 go_wp2_with (go_at_call 245;refine (iformat_any u hu _ hB.2.2.2.1).mono ?_;rintro e w' ⟨rfl,hb⟩)
 go_ret
 exact ⟨rfl,hb⟩
theorem val_take (s:ByteArray) (k:Nat) (h:k < s.size):Pr.val (s.data.toList.take (k + 1)) = 10 * Pr.val (s.data.toList.take k) + (s[k].toNat - 48):=by
 rw [List.take_succ_eq_append_getElem (by simpa using h),val_snoc]
 rfl
theorem dec_one' (s:ByteArray) (pos:Nat) (h:pos < s.size) (hd:Pn.isDig s[pos] = true):Utf8.decode s pos = (s[pos].toNat,1):=by
 have:=(Pn.isDig_iff _).1 hd
 exact decode_ascii s pos h (by omega)
set_option maxHeartbeats 800000 in
theorem rest_any (d:Pr.T) (m:Nat) (hd:Digs d) (hm:1 ≤ m) (hm2:m ≤ 1000000000) (w:World):
  Calls Tryz.prog 256 #[.string ⟨d.toArray⟩,.int .u64 m] w fun e w'=>e = .returned (.int .u64 (Pr.val d % m:Nat)) ∧ Below w.heap.size w w':=by
 obtain ⟨s,hs⟩:∃ s:ByteArray,s = ⟨d.toArray⟩:=⟨_,rfl⟩
 have hsd:s.data.toList = d:=by rw [hs]
 rw [← hs]
 have HD:Hid (∀ c ∈ s.data.toList,Pn.isDig c = true):=by rw [hsd];exact hd.1
 have HV:Hid (Pr.val s.data.toList = Pr.val d):=by show _ = _;rw [hsd]
 generalize Pr.val d = V at *
 clear hsd hs hd
 have hm':¬ (m:Int) = 0:=by omega
 go_enter Tryz.func256,Tryz.ntmps256
 go_wp2
 go_loopw [5] (fun t wr=>∃ pos:Nat,pos ≤ s.size ∧ wr.heap[w.heap.size]? = some (.stringIter s pos) ∧ Below w.heap.size w wr ∧ ∃ x:Nat,t = .int .u64 x ∧ Hid (x = Pr.val (s.data.toList.take pos) % m) ∧ x < 1000000000) (fun _ wr=>s.size - wr.iterPos w.heap.size)
 case atStart=>
  refine ⟨0,Nat.zero_le _,World.iter_heap w s 0,(Below.refl _ w).alloc (Nat.le_refl _) _,0,rfl,?_,by omega⟩
  show _ = _
  simp [Pr.val]
 case round=>
  obtain ⟨pos,hpos,hit,hbw,x,rfl,HX,hx⟩:=hrel
  by_cases hp:pos < s.size
  ·have hnx:∀ ty,(Instr.next (.pointer (some ⟨w.heap.size,0,none⟩)) true ty).run Tryz.prog wr = _:=fun ty=>Lib.run_next_any_at wr w.heap.size s pos ty hit hp
   have hg:Pn.isDig s[pos] = true:=HD.out _ (by
    have:s[pos] = s.data.toList[pos]'(by simpa using hp):=rfl
    rw [this];exact List.getElem_mem _)
   rw [dec_one' s pos hp hg] at hnx
   have hit2:=Lib.iterAt_heap wr w.heap.size s pos (pos + 1) hit
   have hbw2:=Lib.below_iterAt hbw (k:=w.heap.size) (by omega) s (pos + 1)
   have hv:=val_take s pos hp
   obtain ⟨h1,h2⟩:=(Pn.isDig_iff _).1 hg
   generalize hq:s[pos].toNat = q at *
   clear hg hq
   have hw1:IntKind.i32.wrap ((q:Int) - 48) = (q:Int) - 48:=by rw [IntKind.wrap_i32];omega
   have hw2:IntKind.u64.wrap ((q:Int) - 48) = (q:Int) - 48:=by rw [IntKind.wrap_u64];omega
   have hw3:IntKind.u64.wrap ((x:Int) * 10) = (x:Int) * 10:=by rw [IntKind.wrap_u64];omega
   have hw4:IntKind.u64.wrap ((x:Int) * 10 + ((q:Int) - 48)) = (x:Int) * 10 + ((q:Int) - 48):=by rw [IntKind.wrap_u64];omega
   have HX2:Hid (((10 * x + (q - 48)) % m) = Pr.val (s.data.toList.take (pos + 1)) % m):=by
    show _ = _
    rw [hv,HX.out,Nat.add_mod,Nat.mul_mod,Nat.mod_mod,← Nat.mul_mod,← Nat.add_mod]
   have hmt:((x:Int) * 10 + ((q:Int) - 48)).tmod m = (((10 * x + (q - 48)) % m:Nat):Int):=by
    rw [show (x:Int) * 10 + ((q:Int) - 48) = ((10 * x + (q - 48):Nat):Int) by omega]
    rfl
   clear hv HX
   have hlt:(10 * x + (q - 48)) % m < 1000000000:=Nat.lt_of_lt_of_le (Nat.mod_lt _ (by omega)) hm2
   go_wp2
   go_roundw
   case rel=>exact ⟨pos + 1,hp,hit2,hbw2,(10 * x + (q - 48)) % m,by simp,HX2,hlt⟩
   case measure=>
    simp only [World.iterPos,hit2,hit]
    omega
  ·have hnx:∀ ty,(Instr.next (.pointer (some ⟨w.heap.size,0,none⟩)) true ty).run Tryz.prog wr = _:=fun ty=>Lib.run_next_end_at wr w.heap.size s pos ty hit hp
   have HE:Hid (x = V % m):=by
    show _ = _
    rw [HX.out,List.take_of_length_le (by simp;omega),HV.out]
   clear HX
   go_wp2
   go_ret
   exact ⟨by rw [HE.out];rfl,hbw⟩
theorem val_zero (d:Pr.T):Pr.val (Lib.trimLeftB d 48) = Pr.val d:=by
 unfold Lib.trimLeftB
 induction d with
 | nil=>rfl
 | cons c r ih=>
  by_cases h:c = 48
  ·subst h
   rw [List.dropWhile_cons_of_pos (by rfl),ih]
   rfl
  ·rw [List.dropWhile_cons_of_neg (by simpa using h)]
theorem trim_digs (d:Pr.T) (h:Digs d):Digs (Lib.trimLeftB d 48):=by
 have hs:=(List.dropWhile_suffix (· == (48:UInt8)) (l:=d))
 exact ⟨fun c hc=>h.1 c (hs.subset hc),Nat.le_trans hs.length_le h.2⟩
theorem val_lt (d:Pr.T) (h:∀ c ∈ d,Pn.isDig c = true):Pr.val d < 10 ^ d.length:=by
 unfold Pr.val
 suffices H:∀ (l:Pr.T) (acc k:Nat),(∀ c ∈ l,Pn.isDig c = true) → acc < 10 ^ k → l.foldl (fun v c=>10 * v + (c.toNat - 48)) acc < 10 ^ (k + l.length) by
  have:=H d 0 0 h (by decide)
  simpa using this
 intro l
 induction l with
 | nil=>intro acc k _ ha;simpa using ha
 | cons c r ih=>
  intro acc k hd ha
  have hc:=(Pn.isDig_iff c).1 (hd c (by simp))
  rw [List.foldl_cons,List.length_cons,show k + (r.length + 1) = (k + 1) + r.length by omega]
  refine ih _ (k + 1) (fun x hx=>hd x (by simp [hx])) ?_
  rw [Nat.pow_succ];omega
theorem val_head (c:UInt8) (r:Pr.T) (h:∀ x ∈ c :: r,Pn.isDig x = true) (hc:c ≠ 48):10 ^ r.length ≤ Pr.val (c :: r):=by
 unfold Pr.val
 suffices H:∀ (l:Pr.T) (acc k:Nat),10 ^ k ≤ acc → 10 ^ (k + l.length) ≤ l.foldl (fun v c=>10 * v + (c.toNat - 48)) acc by
  have h1:=(Pn.isDig_iff c).1 (h c (by simp))
  have h2:c.toNat ≠ 48:=fun e=>hc (UInt8.toNat_inj.1 e)
  have:=H r (10 * 0 + (c.toNat - 48)) 0 (by simp;omega)
  simpa using this
 intro l
 induction l with
 | nil=>intro acc k ha;simpa using ha
 | cons c r ih=>
  intro acc k ha
  rw [List.foldl_cons,List.length_cons,show k + (r.length + 1) = (k + 1) + r.length by omega]
  refine ih _ (k + 1) ?_
  rw [Nat.pow_succ];omega
def cutW (v:Nat):Nat:=if v < 1000000000 then v else 1000000000
theorem whole_long (d:Pr.T) (h:∀ c ∈ d,Pn.isDig c = true) (hl:9 < (Lib.trimLeftB d 48).length):cutW (Pr.val d) = 1000000000:=by
 have hs:=(List.dropWhile_suffix (· == (48:UInt8)) (l:=d))
 have hd:∀ c ∈ Lib.trimLeftB d 48,Pn.isDig c = true:=fun c hc=>h c (hs.subset hc)
 rw [← val_zero]
 cases e:Lib.trimLeftB d 48 with
 | nil=>rw [e] at hl;simp at hl
 | cons c r=>
  have hc:c ≠ 48:=by
   intro h48
   have:=List.head?_dropWhile_not (· == (48:UInt8)) d
   unfold Lib.trimLeftB at e
   rw [e] at this
   simp [h48] at this
  rw [e] at hl hd
  have:=val_head c r hd hc
  have hp:10 ^ 9 ≤ 10 ^ r.length:=Nat.pow_le_pow_right (by omega) (by simp at hl;omega)
  have:(10:Nat) ^ 9 = 1000000000:=by decide
  unfold cutW
  rw [if_neg (by omega)]
theorem whole_short (d:Pr.T) (h:∀ c ∈ d,Pn.isDig c = true) (hl:(Lib.trimLeftB d 48).length ≤ 9):cutW (Pr.val d) = Pr.val (Lib.trimLeftB d 48) % 1000000000:=by
 have hs:=(List.dropWhile_suffix (· == (48:UInt8)) (l:=d))
 have hd:∀ c ∈ Lib.trimLeftB d 48,Pn.isDig c = true:=fun c hc=>h c (hs.subset hc)
 have h1:=val_lt _ hd
 have hp:10 ^ (Lib.trimLeftB d 48).length ≤ 10 ^ 9:=Nat.pow_le_pow_right (by omega) hl
 have h9:(10:Nat) ^ 9 = 1000000000:=by decide
 rw [val_zero] at h1 ⊢
 unfold cutW
 rw [if_pos (by omega),Nat.mod_eq_of_lt (by omega)]
set_option maxHeartbeats 400000 in
theorem whole_any (d:Pr.T) (b:Bool) (hd:Digs d) (w:World):
  Calls Tryz.prog 298 #[.agg #[.string ⟨d.toArray⟩,.bool b]] w fun e w'=>e = .returned (.int .u64 (cutW (Pr.val d):Nat)) ∧ Below w.heap.size w w':=by
 have ht:=fun W=>Tryz.strings_TrimLeft_one ⟨d.toArray⟩ 48 (by decide) W
 simp only [] at ht
 have hw:=(Below.refl w.heap.size w).alloc (Nat.le_refl _) (.cells #[.string ⟨d.toArray⟩,.bool b] 384)
 have htd:=trim_digs d hd
 have h30:=hd.2
 have c1:=whole_long d hd.1
 have c2:=whole_short d hd.1
 generalize Lib.trimLeftB d 48 = q at *
 generalize cutW (Pr.val d) = C at *
 have hq:=htd.2
 go_enter Tryz.func298,Tryz.ntmps298
 go_wp2_with fail
 refine (ht _).mono ?_
 rintro e w1 ⟨rfl,rfl⟩
 by_cases h9:9 < q.length
 ·have h9':(9:Int) < q.length:=by omega
  have C1:Hid (C = 1000000000):=c1 h9
  clear c1 c2 ht
  go_wp2
  go_ret
  exact ⟨by rw [C1.out];rfl,hw⟩
 ·have h9':¬ (9:Int) < q.length:=by omega
  have C2:Hid (C = Pr.val q % 1000000000):=c2 (by omega)
  clear c1 c2 ht
  go_wp2_with (go_at_call 256;refine (rest_any q 1000000000 htd (by omega) (by omega) _).mono ?_;rintro e w2 ⟨rfl,hb2⟩)
  go_ret
  exact ⟨by rw [C2.out];rfl,below_of hw hb2⟩
theorem short_digs (d:Pr.T) (h:Digs d):Digs (Pr.shortR d):=by
 have hs:=(List.dropWhile_suffix (· == (48:UInt8)) (l:=d.reverse))
 refine ⟨fun c hc=>h.1 c (by have:=hs.subset (List.mem_reverse.1 hc);simpa using this),?_⟩
 have:=hs.length_le
 simp only [List.length_reverse] at this
 unfold Pr.shortR
 rw [List.length_reverse]
 exact Nat.le_trans this h.2
set_option maxHeartbeats 400000 in
theorem withoutEnd_any (d:Pr.T) (hd:Digs d) (w:World):
  Calls Tryz.prog 247 #[.string ⟨d.toArray⟩] w fun e w'=>e = .returned (.string ⟨(Pr.shortR d).toArray⟩) ∧ w' = w:=by
 have h30:=hd.2
 have ht:=fun W=>Tryz.strings_TrimRight_one ⟨d.toArray⟩ 48 (by decide) W (by show d.toArray.size ≤ _;simp;omega)
 simp only [] at ht
 go_enter Tryz.func247,Tryz.ntmps247
 go_wp2_with (go_at_call 271;refine (ht _).mono ?_;rintro e w1 ⟨rfl,rfl⟩)
 go_ret
 exact ⟨rfl,rfl⟩
set_option maxHeartbeats 400000 in
theorem lengthOf_any (d:Pr.T) (hd:Digs d) (w:World):
  Calls Tryz.prog 250 #[.string ⟨d.toArray⟩] w fun e w'=>e = .returned (.string ⟨(Lib.decDigits d.length).toArray⟩) ∧ w' = w:=by
 have h30:=hd.2
 have ht:=fun W=>Tryz.strconv_Itoa_small d.length (by omega) W
 go_enter Tryz.func250,Tryz.ntmps250
 go_wp2_with (go_at_call 272;refine (ht _).mono ?_;rintro e w1 ⟨rfl,rfl⟩)
 go_ret
 exact ⟨rfl,rfl⟩
end Go.Proofs.YtaepcfidpekflaaGreatDoor
namespace Go.Proofs.YtaepcfidpekflaaGreatDoor
open Go.RowKit
theorem val_dec (d:Pr.T):Pr.val (Lib.decDigits d.length) = d.length:=(dec_val _).1
theorem op_below (W:World) (o p:Obj):Below W.heap.size W ((W.alloc o).alloc p):=((Below.refl W.heap.size W).alloc (Nat.le_refl _) o).alloc (by simp) p
set_option maxHeartbeats 400000 in
theorem op1_any (m:Bool) (a b:Pr.T) (_ha:Digs a) (hb:Digs b) (W:World):
  Calls Tryz.prog 246 #[numV m a b] W fun e w'=>e = .returned (.agg #[.string ⟨a.toArray⟩,.bool (!(Pr.shortR b).isEmpty)]) ∧ Below W.heap.size W w':=by
 have hs:=(short_digs b hb).2
 go_enter Tryz.func246,Tryz.ntmps246
 simp only [numV]
 go_wp2_with fail
 go_region_with (go_at_call 247;refine (withoutEnd_any b hb _).mono ?_;rintro e w1 ⟨rfl,rfl⟩)
 all_goals (go_wp2;exact bodyPost_ret (v:=.agg #[.string ⟨a.toArray⟩,.bool (!(Pr.shortR b).isEmpty)]) (by simp [results,Tryz.results246,go_sem]) rfl ⟨rfl,(op_below _ _ _).drew⟩)
set_option maxHeartbeats 400000 in
theorem op2_any (m:Bool) (a b:Pr.T) (_ha:Digs a) (hb:Digs b) (W:World):
  Calls Tryz.prog 248 #[numV m a b] W fun e w'=>e = .returned (.agg #[.string ⟨(a).toArray⟩,.bool false]) ∧ Below W.heap.size W w':=by
 have h2:=short_digs b hb
 go_enter Tryz.func248,Tryz.ntmps248
 simp only [numV]
 go_wp2
 exact bodyPost_ret (v:=.agg #[.string ⟨(a).toArray⟩,.bool false]) (by simp [results,Tryz.results248,go_sem]) rfl ⟨rfl,op_below _ _ _⟩
set_option maxHeartbeats 400000 in
theorem op3_any (m:Bool) (a b:Pr.T) (_ha:Digs a) (hb:Digs b) (W:World):
  Calls Tryz.prog 249 #[numV m a b] W fun e w'=>e = .returned (.agg #[.string ⟨(Lib.decDigits b.length).toArray⟩,.bool false]) ∧ Below W.heap.size W w':=by
 have h2:=short_digs b hb
 go_enter Tryz.func249,Tryz.ntmps249
 simp only [numV]
 go_wp2_with (first | (go_at_call 250;refine (lengthOf_any _ hb _).mono ?_;rintro e w1 ⟨rfl,rfl⟩))
 exact bodyPost_ret (v:=.agg #[.string ⟨(Lib.decDigits b.length).toArray⟩,.bool false]) (by simp [results,Tryz.results249,go_sem]) rfl ⟨rfl,op_below _ _ _⟩
set_option maxHeartbeats 400000 in
theorem op4_any (m:Bool) (a b:Pr.T) (_ha:Digs a) (hb:Digs b) (W:World):
  Calls Tryz.prog 251 #[numV m a b] W fun e w'=>e = .returned (.agg #[.string ⟨(Lib.decDigits (Pr.shortR b).length).toArray⟩,.bool false]) ∧ Below W.heap.size W w':=by
 have h2:=short_digs b hb
 go_enter Tryz.func251,Tryz.ntmps251
 simp only [numV]
 go_wp2_with (first | (go_at_call 247;refine (withoutEnd_any b hb _).mono ?_;rintro e w1 ⟨rfl,rfl⟩) | (go_at_call 250;refine (lengthOf_any _ h2 _).mono ?_;rintro e w1 ⟨rfl,rfl⟩))
 exact bodyPost_ret (v:=.agg #[.string ⟨(Lib.decDigits (Pr.shortR b).length).toArray⟩,.bool false]) (by simp [results,Tryz.results251,go_sem]) rfl ⟨rfl,op_below _ _ _⟩
set_option maxHeartbeats 400000 in
theorem op5_any (m:Bool) (a b:Pr.T) (_ha:Digs a) (hb:Digs b) (W:World):
  Calls Tryz.prog 252 #[numV m a b] W fun e w'=>e = .returned (.agg #[.string ⟨(b).toArray⟩,.bool false]) ∧ Below W.heap.size W w':=by
 have h2:=short_digs b hb
 go_enter Tryz.func252,Tryz.ntmps252
 simp only [numV]
 go_wp2
 exact bodyPost_ret (v:=.agg #[.string ⟨(b).toArray⟩,.bool false]) (by simp [results,Tryz.results252,go_sem]) rfl ⟨rfl,op_below _ _ _⟩
set_option maxHeartbeats 400000 in
theorem op6_any (m:Bool) (a b:Pr.T) (_ha:Digs a) (hb:Digs b) (W:World):
  Calls Tryz.prog 253 #[numV m a b] W fun e w'=>e = .returned (.agg #[.string ⟨(Pr.shortR b).toArray⟩,.bool false]) ∧ Below W.heap.size W w':=by
 have h2:=short_digs b hb
 go_enter Tryz.func253,Tryz.ntmps253
 simp only [numV]
 go_wp2_with (first | (go_at_call 247;refine (withoutEnd_any b hb _).mono ?_;rintro e w1 ⟨rfl,rfl⟩))
 exact bodyPost_ret (v:=.agg #[.string ⟨(Pr.shortR b).toArray⟩,.bool false]) (by simp [results,Tryz.results253,go_sem]) rfl ⟨rfl,op_below _ _ _⟩
theorem enters_op1:Enters 246:=enters_of Tryz.func246 (by kernel_rfl) rfl
theorem enters_op2:Enters 248:=enters_of Tryz.func248 (by kernel_rfl) rfl
theorem enters_op3:Enters 249:=enters_of Tryz.func249 (by kernel_rfl) rfl
theorem enters_op4:Enters 251:=enters_of Tryz.func251 (by kernel_rfl) rfl
theorem enters_op5:Enters 252:=enters_of Tryz.func252 (by kernel_rfl) rfl
theorem enters_op6:Enters 253:=enters_of Tryz.func253 (by kernel_rfl) rfl
def opf (t:Pr.T):Value:=if t = [110] then .func (.func 246) #[] #[] else if t = [105] then .func (.func 248) #[] #[] else if t = [118] then .func (.func 249) #[] #[] else if t = [119] then .func (.func 251) #[] #[] else if t = [102] then .func (.func 252) #[] #[] else if t = [116] then .func (.func 253) #[] #[] else .nilFunc
set_option maxHeartbeats 400000 in
theorem operandOf_any (t:Pr.T) (w:World):Calls Tryz.prog 232 #[.string ⟨t.toArray⟩] w fun e w'=>e = .returned (opf t) ∧ w' = w:=by
 by_cases h1:t = [110]
 ·have HO:Hid (opf t = .func (.func 246) #[] #[]):=by show _ = _;subst h1;simp [opf]
  have y:(t == [110]) = true:=by rw [h1];rfl
  clear h1
  go_enter Tryz.func232,Tryz.ntmps232
  go_wp2
  go_ret
  exact ⟨by rw [HO.out];rfl,rfl⟩
 by_cases h2:t = [105]
 ·have HO:Hid (opf t = .func (.func 248) #[] #[]):=by show _ = _;subst h2;simp [opf]
  have y:(t == [105]) = true:=by rw [h2];rfl
  have n1:(t == [110]) = false:=by rw [beq_eq_false_iff_ne];exact h1
  clear h1 h2
  go_enter Tryz.func232,Tryz.ntmps232
  go_wp2
  go_ret
  exact ⟨by rw [HO.out];rfl,rfl⟩
 by_cases h3:t = [118]
 ·have HO:Hid (opf t = .func (.func 249) #[] #[]):=by show _ = _;subst h3;simp [opf]
  have y:(t == [118]) = true:=by rw [h3];rfl
  have n1:(t == [110]) = false:=by rw [beq_eq_false_iff_ne];exact h1
  have n2:(t == [105]) = false:=by rw [beq_eq_false_iff_ne];exact h2
  clear h1 h2 h3
  go_enter Tryz.func232,Tryz.ntmps232
  go_wp2
  go_ret
  exact ⟨by rw [HO.out];rfl,rfl⟩
 by_cases h4:t = [119]
 ·have HO:Hid (opf t = .func (.func 251) #[] #[]):=by show _ = _;subst h4;simp [opf]
  have y:(t == [119]) = true:=by rw [h4];rfl
  have n1:(t == [110]) = false:=by rw [beq_eq_false_iff_ne];exact h1
  have n2:(t == [105]) = false:=by rw [beq_eq_false_iff_ne];exact h2
  have n3:(t == [118]) = false:=by rw [beq_eq_false_iff_ne];exact h3
  clear h1 h2 h3 h4
  go_enter Tryz.func232,Tryz.ntmps232
  go_wp2
  go_ret
  exact ⟨by rw [HO.out];rfl,rfl⟩
 by_cases h5:t = [102]
 ·have HO:Hid (opf t = .func (.func 252) #[] #[]):=by show _ = _;subst h5;simp [opf]
  have y:(t == [102]) = true:=by rw [h5];rfl
  have n1:(t == [110]) = false:=by rw [beq_eq_false_iff_ne];exact h1
  have n2:(t == [105]) = false:=by rw [beq_eq_false_iff_ne];exact h2
  have n3:(t == [118]) = false:=by rw [beq_eq_false_iff_ne];exact h3
  have n4:(t == [119]) = false:=by rw [beq_eq_false_iff_ne];exact h4
  clear h1 h2 h3 h4 h5
  go_enter Tryz.func232,Tryz.ntmps232
  go_wp2
  go_ret
  exact ⟨by rw [HO.out];rfl,rfl⟩
 by_cases h6:t = [116]
 ·have HO:Hid (opf t = .func (.func 253) #[] #[]):=by show _ = _;subst h6;simp [opf]
  have y:(t == [116]) = true:=by rw [h6];rfl
  have n1:(t == [110]) = false:=by rw [beq_eq_false_iff_ne];exact h1
  have n2:(t == [105]) = false:=by rw [beq_eq_false_iff_ne];exact h2
  have n3:(t == [118]) = false:=by rw [beq_eq_false_iff_ne];exact h3
  have n4:(t == [119]) = false:=by rw [beq_eq_false_iff_ne];exact h4
  have n5:(t == [102]) = false:=by rw [beq_eq_false_iff_ne];exact h5
  clear h1 h2 h3 h4 h5 h6
  go_enter Tryz.func232,Tryz.ntmps232
  go_wp2
  go_ret
  exact ⟨by rw [HO.out];rfl,rfl⟩
 have n1:(t == [110]) = false:=by rw [beq_eq_false_iff_ne];exact h1
 have n2:(t == [105]) = false:=by rw [beq_eq_false_iff_ne];exact h2
 have n3:(t == [118]) = false:=by rw [beq_eq_false_iff_ne];exact h3
 have n4:(t == [119]) = false:=by rw [beq_eq_false_iff_ne];exact h4
 have n5:(t == [102]) = false:=by rw [beq_eq_false_iff_ne];exact h5
 have n6:(t == [116]) = false:=by rw [beq_eq_false_iff_ne];exact h6
 have HO:Hid (opf t = .nilFunc):=by show _ = _;simp only [opf,h1,h2,h3,h4,h5,h6,if_false]
 clear h1 h2 h3 h4 h5 h6
 go_enter Tryz.func232,Tryz.ntmps232
 go_wp2
 go_ret
 exact ⟨by rw [HO.out];rfl,rfl⟩
theorem opf_none (t:Pr.T) (h:Pr.opd t = none):opf t = .nilFunc:=by
 unfold Pr.opd at h
 unfold opf
 repeat' split at h
 all_goals first | (cases h;done) | simp_all
theorem opf_some (t:Pr.T) (o:Pr.Opd) (h:Pr.opd t = some o) (P:Nat) (w:World):Opv P w (opf t) o:=by
 unfold Pr.opd at h
 split at h
 ·rename_i e;subst e;cases h
  refine ⟨_,_,rfl,enters_op1,fun W _ _ m a b da db=>(op1_any m a b da db W).mono fun e w' hh=>⟨⟨a,hh.1,da,rfl⟩,hh.2⟩⟩
 split at h
 ·rename_i e;subst e;cases h
  refine ⟨_,_,rfl,enters_op2,fun W _ _ m a b da db=>(op2_any m a b da db W).mono fun e w' hh=>⟨⟨a,hh.1,da,rfl⟩,hh.2⟩⟩
 split at h
 ·rename_i e;subst e;cases h
  refine ⟨_,_,rfl,enters_op3,fun W _ _ m a b da db=>(op3_any m a b da db W).mono fun e w' hh=>⟨⟨_,hh.1,dec_digs _ (by have:=db.2;omega),val_dec _⟩,hh.2⟩⟩
 split at h
 ·rename_i e;subst e;cases h
  refine ⟨_,_,rfl,enters_op4,fun W _ _ m a b da db=>(op4_any m a b da db W).mono fun e w' hh=>⟨⟨_,hh.1,dec_digs _ (by have:=(short_digs b db).2;omega),val_dec _⟩,hh.2⟩⟩
 split at h
 ·rename_i e;subst e;cases h
  refine ⟨_,_,rfl,enters_op5,fun W _ _ m a b da db=>(op5_any m a b da db W).mono fun e w' hh=>⟨⟨b,hh.1,db,rfl⟩,hh.2⟩⟩
 split at h
 ·rename_i e;subst e;cases h
  refine ⟨_,_,rfl,enters_op6,fun W _ _ m a b da db=>(op6_any m a b da db W).mono fun e w' hh=>⟨⟨_,hh.1,short_digs b db,rfl⟩,hh.2⟩⟩
 cases h
end Go.Proofs.YtaepcfidpekflaaGreatDoor
