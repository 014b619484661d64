/-
  Several texts in one (Dp). By the verifier.
-/
import Derived.Test.YtaepcfidpekflaaGreatDoorZ02
import Derived.Test.YtaepcfidpekflaaGreatDoorZ52
import Derived.SizedLaws
import Derived.Deep.Strs
import Derived.ProofKit
import Derived.OpenShut
import Derived.ShutString
import Derived.ChangeSlices
import Derived.Deep.DeepHandedRow
import Derived.LaidLaws
namespace Go.Proofs.YtaepcfidpekflaaGreatDoor.Cm
open Go.ChangeShapes Go.WideShapes Go.ChangeAt Go.RowKit Go.Deep
open Go.ChangeMaps (open_string shut_string)
theorem cellsStr:Tryz.prog.cellsOf 9 = 1:=by kernel_rfl
theorem bytesStr:Tryz.prog.bytesOf 9 = 16:=by kernel_rfl
theorem cell_in {w:World} {p:Addr} {v:Value} (h:w.cell? p = some v):p.block < w.heap.size:=by
 rcases Nat.lt_or_ge p.block w.heap.size with h' | h'
 ·exact h'
 ·simp [World.cell?,Array.getElem?_eq_none h'] at h
theorem mk_list (a:ByteArray):a = ⟨a.data.toList.toArray⟩:=by cases a;simp
theorem weights_all {H:Type} {P:Program} {e:TypeId} {d:DataW H} {n:Nat}:∀ {ds:List (DataW H)},d ∈ ds → n ∈ d.weights P e → n ∈ DataW.weightsAll P e ds:=by
 intro ds
 induction ds with
 | nil=>intro h;cases h
 | cons x r ih=>
  intro h hn
  simp only [DataW.weightsAll,List.mem_append]
  rcases List.mem_cons.1 h with rfl | h
  ·exact .inl hn
  ·exact .inr (ih h hn)
set_option maxRecDepth 100000 in
theorem open_arg {H:Type} {enc:TypeId × Value → H} {W:World} {base:Nat} {v:Value} {d:DataW H} {p:List MemPlace} (hok:Value.okWide Tryz.prog W .any base 35 v) (h:DataW.Trod enc Tryz.prog W 0 (fun _=>true) true 35 v d p):
  ∃ l:List Pr.T,SlE W v l ∧ ((∀ n ∈ d.weights Tryz.prog 35,n ≤ reachBytes) → l.length < 2 ^ 47 ∧ ∀ t ∈ l,t.length < 2 ^ 47) ∧ ∀ W',Below W.heap.size W W' → DataW.Trod enc Tryz.prog W' 0 (fun b=>decide (b < W.heap.size)) true 35 v d p:=by
 obtain ⟨a0,len,cap,rfl⟩:=okWide_slice Tryz.underlying35 hok
 obtain ⟨fuel,hf⟩:=h
 rcases open_strs Tryz.underlying35 Tryz.underlying9 cellsStr hf with ⟨hcs,hx⟩ | ⟨a,len',cap',m,Sx,hcs,_,hl,hm,hmm,hx,hcell⟩
 ·simp [Value.cells] at hcs
  obtain ⟨rfl,rfl,rfl⟩:=hcs
  simp only [Prod.mk.injEq] at hx
  obtain ⟨rfl,rfl⟩:=hx
  exact ⟨[],.inl ⟨_,_,rfl,rfl⟩,fun _=>⟨by decide,fun t ht=>by cases ht⟩,fun W' _=>shut_slice_nil Tryz.underlying35⟩
 ·simp [Value.cells] at hcs
  obtain ⟨rfl,rfl,rfl⟩:=hcs
  simp only [if_true] at hmm
  have hmm2:=hmm.symm
  subst hmm2
  simp only [Prod.mk.injEq] at hx
  obtain ⟨rfl,rfl⟩:=hx
  refine ⟨(List.range len).map fun i=>(Sx i).data.toList,?_,fun hw=>⟨?_,fun t ht=>?_⟩,fun W' hb=>?_⟩
  ·by_cases hl0:len = 0
   ·subst hl0
    exact .inl ⟨_,_,rfl,rfl⟩
   ·obtain ⟨b,off,spot⟩:=a
    have hspot:spot = none:=by simpa [Addr.add] using World.cell?_spot (hcell 0 (by omega)).1
    subst hspot
    refine .inr ⟨b,off,cap,by simp,by simpa using hl,?_,fun j hj=>?_⟩
    ·have:=cell_in (hcell 0 (by omega)).1
     rwa [block_add] at this
    ·simp only [List.length_map,List.length_range] at hj
     rw [← add_plain,(hcell j (by omega)).1]
     have e:((List.range len).map fun i=>(Sx i).data.toList).getD j [] = (Sx j).data.toList:=by
      rw [List.getD_eq_getElem?_getD,List.getElem?_map,List.getElem?_range hj]
      rfl
     rw [e,strV,← mk_list]
  ·have:=hw ((len + (cap - len)) * Tryz.prog.bytesOf 9) (by simp [DataW.weights,Tryz.underlying35])
   rw [bytesStr] at this
   have hr:=reachBytes_lt
   simp
   omega
  ·obtain ⟨i,hi,rfl⟩:=List.mem_map.1 ht
   have:=hw (Sx i).data.toList.length (by
    simp only [DataW.weights,Tryz.underlying35]
    refine List.mem_cons_of_mem _ (List.mem_append_left _ (weights_all (List.mem_map.2 ⟨i,hi,rfl⟩) ?_))
    simp [DataW.weights])
   have hr:=reachBytes_lt
   omega
  ·by_cases hc0:cap = 0
   ·subst hc0
    obtain rfl:len = 0:=by omega
    by_cases hsp:a.block < W.heap.size
    ·have:=shut_slice_whole_cells (enc:=enc) (P:=Tryz.prog) (w:=W') (base:=0) (spare:=fun b=>decide (b < W.heap.size)) (held:=true) (a:=a) (t:=35) Tryz.underlying35 (Nat.zero_le _) (Nat.le_refl 0) (Nat.zero_le _) (decide_eq_true hsp) (fun i=>(.lit (.string (Sx i).data.toList):DataW H)) (fun _=>[]) (fun i hi=>absurd hi (Nat.not_lt_zero _))
     simp only [List.range_zero,List.map_nil,Nat.sub_zero,Nat.zero_mul,List.flatMap_nil,List.append_nil] at this
     exact this
    ·have:=shut_slice_cells (enc:=enc) (P:=Tryz.prog) (w:=W') (base:=0) (spare:=fun b=>decide (b < W.heap.size)) (held:=true) (a:=a) (t:=35) Tryz.underlying35 (Nat.zero_le _) (Nat.le_refl 0) (Nat.zero_le _) (decide_eq_false hsp) (fun i=>(.lit (.string (Sx i).data.toList):DataW H)) (fun _=>[]) (fun i hi=>absurd hi (Nat.not_lt_zero _))
     simp only [List.range_zero,List.map_nil,Nat.zero_mul,List.flatMap_nil,List.append_nil] at this
     exact this
   ·obtain ⟨b,off,spot⟩:=a
    have hspot:spot = none:=by simpa [Addr.add] using World.cell?_spot (hcell 0 (by omega)).1
    subst hspot
    have hin:=cell_in (hcell 0 (by omega)).1
    rw [block_add] at hin
    exact shut_strs_whole Tryz.underlying35 Tryz.underlying9 cellsStr (Nat.zero_le _) hl hm (decide_eq_true hin) Sx (fun i hi=>by rw [← add_plain];exact (hb.cell (by rw [block_add];exact hin)).trans (hcell i hi).1) (fun i hi=>(hcell i hi).2)
theorem cellsInt:Tryz.prog.cellsOf 3 = 1:=by kernel_rfl
theorem sign_any (b off len cap:Nat) (zs:List Int) (W:World) (hcell:∀ j,j < len → W.cell? ⟨b,off + j,none⟩ = some (.int .i64 (zs.getD j 0))) (k:Nat) (w':World) (hb:Below W.heap.size W w'):
  Calls Tryz.prog 26 #[.slice (some ⟨b,off,none⟩) len cap,.int .i64 k] w' fun e w2=>e = .returned (.int .i32 (if k < len then wrap32 (zs.getD k 0) else 0)) ∧ w2 = w':=by
 by_cases h:k < len
 ·rw [if_pos h]
  exact sign_in b off len cap k _ w' (by omega) ((hb.cell (p:=⟨b,off + k,none⟩) (cell_in (hcell k h))).trans (hcell k h))
 ·rw [if_neg h]
  exact sign_out _ len cap k w' (by omega)
set_option maxRecDepth 100000 in
theorem open_signs {H:Type} {enc:TypeId × Value → H} {W:World} {base:Nat} {v:Value} {d:DataW H} {p:List MemPlace} (hok:Value.okWide Tryz.prog W .any base 22 v) (h:DataW.Trod enc Tryz.prog W 0 (fun _=>true) true 22 v d p):
  ∃ mi po g:Int,(∀ w',Below W.heap.size W w' → Calls Tryz.prog 26 #[v,.int .i64 0] w' fun e w2=>e = .returned (.int .i32 mi) ∧ w2 = w')
    ∧ (∀ w',Below W.heap.size W w' → Calls Tryz.prog 26 #[v,.int .i64 1] w' fun e w2=>e = .returned (.int .i32 po) ∧ w2 = w')
    ∧ (∀ w',Below W.heap.size W w' → Calls Tryz.prog 26 #[v,.int .i64 2] w' fun e w2=>e = .returned (.int .i32 g) ∧ w2 = w')
    ∧ ∀ W',Below W.heap.size W W' → DataW.Trod enc Tryz.prog W' 0 (fun b=>decide (b < W.heap.size)) true 22 v d p:=by
 obtain ⟨a0,len,cap,rfl⟩:=okWide_slice Tryz.underlying22 hok
 obtain ⟨fuel,hf⟩:=h
 rcases open_ints Tryz.underlying22 Tryz.underlying3 cellsInt hf with ⟨hcs,hx⟩ | ⟨a,len',cap',zs,hcs,_,hl,hm,hz,hx,hcell,hwz⟩
 ·simp [Value.cells] at hcs
  obtain ⟨rfl,rfl,rfl⟩:=hcs
  simp only [Prod.mk.injEq] at hx
  obtain ⟨rfl,rfl⟩:=hx
  exact ⟨0,0,0,fun w' _=>sign_out none 0 0 0 w' (by omega),fun w' _=>sign_out none 0 0 1 w' (by omega),fun w' _=>sign_out none 0 0 2 w' (by omega),fun W' _=>shut_slice_nil Tryz.underlying22⟩
 ·simp [Value.cells] at hcs
  obtain ⟨rfl,rfl,rfl⟩:=hcs
  simp only [Prod.mk.injEq] at hx
  obtain ⟨rfl,rfl⟩:=hx
  simp only [if_true] at hz
  have fin:∀ W',Below W.heap.size W W' → DataW.Trod enc Tryz.prog W' 0 (fun b=>decide (b < W.heap.size)) true 22 (.slice (some a) len cap) (.slice (lits .i64 (zs.take len)) (lits .i64 (zs.drop len))) (MemPlace.row a zs.length):=fun W' hb=>by
   refine ⟨2,shut_ints 0 Tryz.underlying22 Tryz.underlying3 cellsInt (Nat.zero_le _) hl hm ?_ (fun i hi=>?_) hwz⟩
   ·by_cases hc0:cap = 0
    ·split <;> omega
    ·have:=cell_in (hcell 0 (by omega))
     rw [block_add] at this
     rw [if_pos (decide_eq_true this)]
     exact hz
   ·have:=cell_in (hcell i hi)
    exact (hb.cell this).trans (hcell i hi)
  by_cases hl0:len = 0
  ·subst hl0
   exact ⟨0,0,0,fun w' _=>sign_out (some a) 0 cap 0 w' (by omega),fun w' _=>sign_out (some a) 0 cap 1 w' (by omega),fun w' _=>sign_out (some a) 0 cap 2 w' (by omega),fin⟩
  ·obtain ⟨b,off,spot⟩:=a
   have hspot:spot = none:=by simpa [Addr.add] using World.cell?_spot (hcell 0 (by omega))
   subst hspot
   have hc:∀ j,j < len → W.cell? ⟨b,off + j,none⟩ = some (.int .i64 (zs.getD j 0)):=fun j hj=>by rw [← add_plain];exact hcell j (by omega)
   exact ⟨_,_,_,fun w' h=>sign_any b off len cap zs W hc 0 w' h,fun w' h=>sign_any b off len cap zs W hc 1 w' h,fun w' h=>sign_any b off len cap zs W hc 2 w' h,fin⟩
set_option maxRecDepth 100000 in
theorem contract (H:Type) (enc:TypeId × Value → H) (W:World) (base:Nat) (args:Array Value) (ds gs:List (DataW H)) (before:List MemPlace)
  (hval:∀ (j:Nat) t v,Tryz.f9.params[j]? = some t → args[j]? = some v → Value.okWide Tryz.prog W .any base t v)
  (hW:DataW.Whole enc Tryz.prog Tryz.f9.params.toList Rows.compilesSpec.vars false W args.toList ds gs before) (hz:(DataW.weightsEach Tryz.prog (Tryz.f9.params.toList ++ (OpenSpec.ofChange Rows.compilesSpec).bare.plain.varTypes Tryz.prog) (ds ++ gs)).all (· ≤ reachBytes) = true)
  (hL:laidMetH Tryz.prog Rows.compilesRow.laid W) (hS:W.ShapedOpen Tryz.prog):
  Calls Tryz.prog 9 args W fun e W'=>∃ v,e = .returned v ∧ Rows.compilesSpec.post enc Tryz.prog Tryz.f9 false true false false W args v W':=by
 have hW':=hW
 obtain ⟨p,q,hA0,hV,rfl,hfz,hnd⟩:=hW
 have hA:DataW.TrodAll enc Tryz.prog W 0 (fun _=>true) true Tryz.f9.params.toList args.toList ds p:=hA0
 rw [Tryz.params9] at hA hval
 obtain ⟨v0,vs0,d0,ds0,p0,q0,hargs,rfl,rfl,h0,r0⟩:=trodAll_cons hA
 obtain ⟨v1,vs1,d1,ds1,p1,q1,rfl,rfl,rfl,h1,r1⟩:=trodAll_cons r0
 obtain ⟨v2,vs2,d2,ds2,p2,q2,rfl,rfl,rfl,h2,r2⟩:=trodAll_cons r1
 obtain ⟨v3,vs3,d3,ds3,p3,q3,rfl,rfl,rfl,h3,r3⟩:=trodAll_cons r2
 obtain ⟨v4,vs4,d4,ds4,p4,q4,rfl,rfl,rfl,h4,r4⟩:=trodAll_cons r3
 obtain ⟨v5,vs5,d5,ds5,p5,q5,rfl,rfl,rfl,h5,r5⟩:=trodAll_cons r4
 obtain ⟨v6,vs6,d6,ds6,p6,q6,rfl,rfl,rfl,h6,r6⟩:=trodAll_cons r5
 obtain ⟨rfl,rfl,rfl⟩:=trodAll_nil r6
 obtain rfl:args = #[v0,v1,v2,v3,v4,v5,v6]:=Array.toList_inj.1 hargs
 obtain ⟨rfl,rfl⟩:=trodVars_none hV
 obtain ⟨s,rfl,rfl,rfl,hs⟩:=open_string Tryz.underlying9 (hval 0 9 v0 rfl rfl) h0
 obtain ⟨fi,rfl,rfl,rfl,wf⟩:=open_int Tryz.underlying3 (hval 4 3 v4 rfl rfl) h4
 obtain ⟨ne,rfl,rfl,rfl,wn⟩:=open_int Tryz.underlying3 (hval 5 3 v5 rfl rfl) h5
 obtain ⟨d,rfl,rfl,rfl,hd⟩:=open_string Tryz.underlying9 (hval 6 9 v6 rfl rfl) h6
 obtain ⟨l0,x1,x2,x3⟩:=open_arg (hval 1 35 v1 rfl rfl) h1
 obtain ⟨l1,y1,y2,y3⟩:=open_arg (hval 2 35 v2 rfl rfl) h2
 obtain ⟨mi,po,g,i0,i1,i2,i3⟩:=open_signs (hval 3 22 v3 rfl rfl) h3
 have z1:=x2 fun n hn=>by simpa using List.all_eq_true.1 hz n (DataW.weights_mem_each (j:=1) (t:=35) rfl rfl n hn)
 have z2:=y2 fun n hn=>by simpa using List.all_eq_true.1 hz n (DataW.weights_mem_each (j:=2) (t:=35) rfl rfl n hn)
 clear hA0 hz x2 y2
 simp only [List.append_nil] at hW'
 have hsb:(.string s:Value) = .string ⟨s.data.toList.toArray⟩:=by rw [← mk_list]
 have law:=compiles_any s.data.toList v1 v2 v3 l0 l1 mi po g fi ne d W (Vr.base_of hL hS) x1 y1 z1.1 z1.2 z2.1 z2.2 (show Hid _ from i0) (show Hid _ from i1) (show Hid _ from i2)
 rw [← hsb] at law
 refine law.mono fun e W' ⟨he,hbl⟩=>?_
 subst he
 refine ⟨_,rfl,_,_,_,[],p1 ++ (p2 ++ p3),[],hW',?_,?_,?_,hbl.frame _,fun h=>by cases h⟩
 ·exact trodAll_cons_mk (shut_bool Tryz.underlying4 _) trodAll_mk0
 ·have:=trodAll_cons_mk (shut_string Tryz.underlying9 hs) (trodAll_cons_mk (x3 W' hbl) (trodAll_cons_mk (y3 W' hbl) (trodAll_cons_mk (i3 W' hbl) (trodAll_cons_mk (shut_int Tryz.underlying3 wf) (trodAll_cons_mk (shut_int Tryz.underlying3 wn) (trodAll_cons_mk (shut_string Tryz.underlying9 hd) trodAll_mk0))))))
  simp only [List.append_nil,List.nil_append] at this
  exact this
 ·rfl
theorem reads (os:Os) {H:Type} (enc:TypeId × Value → H):∃ places,DataW.whole enc Tryz.prog ((Vr.laidW (World.holding Tryz.prog os Vr.seed) (World.holding Tryz.prog default ⟨#[], #[], []⟩).heap.size).forCall (fun _ _=>0) ⟨#[],#[.string ⟨#[]⟩,.slice none 0 0,.slice none 0 0,.slice none 0 0,.int .i64 0,.int .i64 0,.string ⟨#[]⟩],[]⟩).memory Tryz.f9.params.toList Rows.compilesSpec.vars false #[Value.string ⟨#[]⟩,.slice none 0 0,.slice none 0 0,.slice none 0 0,.int .i64 0,.int .i64 0,.string ⟨#[]⟩].toList 8 = some ([.lit (.string []),.nil,.nil,.nil,.lit (.int .i64 0),.lit (.int .i64 0),.lit (.string [])],[],places):=
 ⟨[],by kernel_rfl⟩
set_option maxRecDepth 100000 in
theorem lifted (os:Os) (started:os.Started) (H:Type) (enc:TypeId × Value → H) (F:Stop.Interp):
  ReturnsInHanded {} Tryz.checked os 9 .any ((OpenSpec.ofChange Rows.compilesSpec).preRow enc Tryz.prog Tryz.f9 Rows.compilesRow.domain false Rows.compilesRow.laid) (((OpenSpec.ofChange Rows.compilesSpec).at F).post enc Tryz.prog Tryz.f9 false true false false):=by
 obtain ⟨places,hx⟩:=reads os enc
 refine returnsInHanded_of_row (C:=Tryz.checked) (s:=OpenSpec.ofChange Rows.compilesSpec) Vr.own started (by kernel_rfl) Tryz.func9
  (witness_row_at (enc:=enc) (C:=Tryz.checked) false (Vr.laidW (World.holding Tryz.prog os Vr.seed) (World.holding Tryz.prog default ⟨#[], #[], []⟩).heap.size) #[.string ⟨#[]⟩,.slice none 0 0,.slice none 0 0,.slice none 0 0,.int .i64 0,.int .i64 0,.string ⟨#[]⟩] rfl (by kernel_rfl) (by kernel_rfl) (by kernel_rfl)
   (OpenSpec.preRow_of_cond 8 hx (by kernel_rfl) (fun k hk=>by cases hk) (by kernel_rfl) (Vr.laid_met os _))) ?_
 intro W base args ds gs before hval hW _ _ hz hL hS _
 exact contract H enc W base args ds gs before hval hW hz hL hS
end Go.Proofs.YtaepcfidpekflaaGreatDoor.Cm
