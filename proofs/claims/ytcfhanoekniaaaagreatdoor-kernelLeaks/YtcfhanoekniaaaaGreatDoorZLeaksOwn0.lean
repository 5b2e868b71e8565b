/- KernelLeaks: its walk, over what comes in. -/
import Derived.Test.YtcfhanoekniaaaaGreatDoorOpenQ
import Derived.Test.YtcfhanoekniaaaaGreatDoorZLeaks
set_option maxRecDepth 100000
namespace Go.Proofs.YtcfhanoekniaaaaGreatDoor
open Go.ChangeShapes Go.WideShapes Go.ChangeAt Go.RowKit
def leaksList:List (String×DataW Unit):=Rows.kernelLeaksRow.laid.filter fun x=>x.2.handleName?.isNone
theorem leaks_parts {W:World}(h:laidMetH Tryz.prog Rows.kernelLeaksRow.laid W):laidMet Tryz.prog leaksList W∧handlesMet Tryz.prog [("errors.errorType",Rows.laid_errors_errorType)] W:=h
def leaksName:String:=((leaksList.drop 1).map (·.1)).headD ""
theorem leaks_global:Tryz.prog.globalNamed leaksName=some 2:=by kernel_rfl
theorem leaks_second:leaksList=leaksList.headD ("",.agg []) :: (leaksName,Rows.laid_math_bits_deBruijn64tab) :: leaksList.drop 2:=by kernel_rfl
theorem leaks_tab {W:World}(h:laidMetH Tryz.prog Rows.kernelLeaksRow.laid W):Tab64 W:=by
 have h1:=(leaks_parts h).1
 rw [leaks_second] at h1
 exact tab64_head leaks_global (laidMet_tail h1)
theorem leaks_met (os:Os) (args:Array Value):laidMetH Tryz.prog Rows.kernelLeaksRow.laid (({ World.holding Tryz.prog os ⟨#[],#[],[]⟩ with heap:=(((((World.holding Tryz.prog os ⟨#[],#[],[]⟩).heap.modify 0 fun | .cells _ t frozen=>.cells #[errT] t frozen|o=>o).modify 1 fun | .cells _ t frozen=>.cells (litCells Rows.laid_math_bits_deBruijn32tab) t frozen|o=>o).modify 2 fun | .cells _ t frozen=>.cells (litCells Rows.laid_math_bits_deBruijn64tab) t frozen|o=>o).modify 6 fun | .cells _ t frozen=>.cells (litFlat Rows.laid_unicode_utf8_acceptRanges) t frozen|o=>o).modify 5 fun | .cells _ t frozen=>.cells (litFlat Rows.laid_unicode_utf8_first) t frozen|o=>o }:World).forCall (fun _ _=>0) ⟨#[],args,[]⟩).memory:=
 laidMetH_of_parts (laidMet_of_run' 8 (by kernel_rfl) (by kernel_rfl)) (by kernel_rfl)
theorem leaks_lifted (os:Os) (started:os.Started) (H:Type) (enc:TypeId×Value→H) :
 ReturnsInHanded {} Tryz.checked os 6 .any (fun w args=>(Rows.kernelLeaksSpec.pre enc Tryz.prog Tryz.f6 [] false w args∧laidMetH Tryz.prog Rows.kernelLeaksRow.laid w)∧sizedMet enc Tryz.prog Tryz.f6 (OpenSpec.ofChange Rows.kernelLeaksSpec) false w args)
  (Rows.kernelLeaksSpec.post enc Tryz.prog Tryz.f6 false true false false):=by
 refine returns_and_shaped (C:=Tryz.checked) (X:=fun w _=>laidMetH Tryz.prog Rows.kernelLeaksRow.laid w) (fun _ _ _ hh h=>h.of_heap hh) ownNone started (by kernel_rfl) Tryz.func6
  (ChangeSpec.witness_at (enc:=enc) (C:=Tryz.checked) (os:=os) (X:=fun w _=>laidMetH Tryz.prog Rows.kernelLeaksRow.laid w) false ({ World.holding Tryz.prog os ⟨#[],#[],[]⟩ with heap:=(((((World.holding Tryz.prog os ⟨#[],#[],[]⟩).heap.modify 0 fun | .cells _ t frozen=>.cells #[errT] t frozen|o=>o).modify 1 fun | .cells _ t frozen=>.cells (litCells Rows.laid_math_bits_deBruijn32tab) t frozen|o=>o).modify 2 fun | .cells _ t frozen=>.cells (litCells Rows.laid_math_bits_deBruijn64tab) t frozen|o=>o).modify 6 fun | .cells _ t frozen=>.cells (litFlat Rows.laid_unicode_utf8_acceptRanges) t frozen|o=>o).modify 5 fun | .cells _ t frozen=>.cells (litFlat Rows.laid_unicode_utf8_first) t frozen|o=>o }:World) #[.int .i64 0,.slice none 0 0] 8 rfl (by kernel_rfl) (by kernel_rfl) (by kernel_rfl) (by kernel_rfl) (by kernel_rfl) (leaks_met os _)) ?_
 intro W base args ds gs before hval0 hW hL hsh
 have hval:∀(j:Nat) t v,Tryz.f6.params[j]? = some t→args[j]? = some v→Value.okWide Tryz.prog W .any base t v:=hval0
 have hW':=hW
 obtain ⟨p,q,hA0,hV0,rfl,hfz,hnd⟩:=hW
 have hA:DataW.TrodAll enc Tryz.prog W 0 (fun _=>true) true Tryz.f6.params.toList args.toList ds p:=hA0
 have hV:DataW.TrodVars enc Tryz.prog W (fun _=>true) [] gs q:=hV0
 rw [Tryz.params6] at hA hval
 obtain ⟨v0,vs0,d0,ds0,p0,q0,hargs,rfl,rfl,h0,r0⟩:=trodAll_cons hA
 obtain ⟨v1,vs1,d1,ds1,p1,q1,rfl,rfl,rfl,h1,r1⟩:=trodAll_cons r0
 obtain ⟨rfl,rfl,rfl⟩:=trodAll_nil r1
 obtain rfl:args=#[v0,v1]:=by cases args;simp_all
 obtain ⟨n0,rfl,rfl,rfl,hw0⟩:=open_int Tryz.underlying3 (hval 0 3 v0 rfl rfl) h0
 obtain ⟨a1,len1,cap1,rfl⟩:=okWide_slice Tryz.underlying66 (hval 1 66 v1 rfl rfl)
 have k1:=h1
 have lt1:∀x∈p1,x.block<W.heap.size:=by obtain ⟨m,hm⟩:=k1;exact DataW.trod_lt m _ _ _ hm
 obtain ⟨fuel1,hf1⟩:=h1
 obtain ⟨qu1,hqu1⟩:=open_calls (by simpa [Value.cells] using hf1)
 have hg:=handle_of (leaks_parts hL).2
 have hT:=leaks_tab hL
 obtain ⟨m,hm⟩:=maxLen_of hsh
 obtain ⟨rfl,rfl⟩:gs=[]∧q=[]:=by
  cases gs with
  |nil=>exact ⟨rfl,hV⟩
  |cons g r=>exact absurd hV (by intro h;cases h)
 have key:Calls Tryz.prog 6 #[.int .i64 n0,.slice a1 len1 cap1] W fun e w'=>e=.returned (.bool true)∧Below W.heap.size W w':=by
  by_cases hS:Short qu1 len1
  ·exact leaks_short n0 a1 len1 cap1 qu1 W hqu1 hS m hm hg hT
  ·exact leaks_long n0 a1 len1 cap1 qu1 W hqu1 hS
 refine key.mono fun e W' ⟨he,bel⟩=>?_
 subst he
 exact ⟨_,rfl,_,_,_,[],_,[],hW',trodAll_mk1 (shut_bool Tryz.underlying4 _),(trodAll_cons_mk (shut_int Tryz.underlying3 hw0) (trodAll_cons_mk (Below.trod laidOut (by kernel_rfl) (of_decide_eq_true (by kernel_rfl)) k1 bel lt1) trodAll_mk0)),rfl,bel.frame _,fun h=>by cases h⟩
end Go.Proofs.YtcfhanoekniaaaaGreatDoor
