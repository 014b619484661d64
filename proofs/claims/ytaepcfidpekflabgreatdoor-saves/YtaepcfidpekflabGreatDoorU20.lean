import Derived.Test.YtaepcfidpekflabGreatDoorU00
import Derived.Test.YtaepcfidpekflabGreatDoorU19
open Bool renaming false->V,true->Y
open Go.Proofs.Tryz renaming prog->C
open Option renaming some->K
set_option maxRecDepth 100000
set_option maxHeartbeats 0
set_option linter.all false
namespace Go.Proofs.YtaepcfidpekflabGreatDoor
namespace Sv
open ChangeAt ChangeShapes RowKit WideShapes
def closed:joinedFacts Tryz.pinned.checked.prog 3 Tryz.f3 (OpenSpec.ofChange Rows.savesSpec).bare Rows.savesRow=Y:=by unfold joinedFacts;simp only[tN];(repeat' apply And.intro);all_goals as_aux_lemma=>kernel_rfl
def said:Rows.SavesSaid:=
 OpenClaim.holds_of_cond 3 Tryz.f3 rfl rfl rfl rfl rfl rfl rfl ⟨rfl,rfl,rfl,rfl,rfl⟩ rfl rfl rfl rfl rfl x Tryz.func3 closed
  (xD x) (by unfold Func.isWrapper;first|(rw[t<|by decide+kernel];kernel_rfl)|(rw[A<|by decide+kernel];exact⟨rfl,rfl⟩))
  (λos c H b _ a=>by rw[OpenClaim.pre_eq_preRow];exact lifted os c H b a)
def plain (f:FuncId)(a:Func)(e:Tryz.pinned.checked.prog.funcNamed "phrases/phraseslaw.Saves"=K f)(g:Tryz.pinned.checked.prog.funcs[f]? =K a):Y=Tryz.pinned.checked.prog.looks []/\∀(d:Nat) t,a.params[d]? =K t->Tryz.pinned.checked.prog.wantsStandIn t=V:=by obtain rfl:f=3:=sQ ((show C.funcNamed "phrases/phraseslaw.Saves"=K 3 from x).symm.trans e) |>.symm;obtain rfl:a=Tryz.f3:=(sQ<|Tryz.func3.symm.trans g).symm;refine⟨x,λd t b=>?_⟩;rw[Tryz.params3]at b;have c:=Array.mem_of_getElem? b;simp at c;rcases c with rfl|rfl;{exact(show C.wantsStandIn 9=V from x)};{exact(show C.wantsStandIn 22=V from x)}
def card:Rows.SavesCardSaid:=
 Claim7.holds_tied_plain_at .later [] _ _ _ _ said (λ_ h=>by cases h) x (λ_ h=>by cases h) saves_row_tie rfl ⟨rfl,rfl⟩ x rfl plain x
end Sv
theorem asv:Rows.SavesCardSaid:=Sv.card
end Go.Proofs.YtaepcfidpekflabGreatDoor
