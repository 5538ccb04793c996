/-
  Proved: for every list of acts, net.Run answers as the document's P4.1 to P4.7 say (the law NetRuns returns true and leaves its argument as it was); the condition: the tables of strconv and math/bits hold what the program's text lays there.
-/
import Derived.Test.YtjjelkdajdeikaaGreatDoorNetRunsC16
open Go.Proofs.Tryz renaming prog→oC,f3→qh,checked→qL
open Go.OpenSpec renaming ofChange→oP,preRow_of_cond→Ah
open Option.some renaming inj→rU
open Go renaming Value→xh
open Go.World renaming holding→xk
open Go.OpenClaim renaming pre_eq_preRow→xn,holds_of_cond→xx
set_option maxHeartbeats 8000000
namespace Go.Proofs.YtjjelkdajdeikaaGreatDoor
open Pl
namespace netRuns
open Go.ChangeShapes Go.WideShapes Go.ChangeAt Go.RowKit
set_option maxRecDepth 20000
set_option linter.unusedVariables false
theorem aiJ:Tryz.prog.globalNamed "internal/strconv.uint64pow10" =some 0:=by kernel_rfl
theorem Zl:(Tryz.prog.globals[0]?).map (·.type)=some 231:=by kernel_rfl
theorem ZA:Tryz.prog.cellsOf 231=20:=by kernel_rfl
theorem abj:(Rows.laid_internal_strconv_uint64pow10:DataW Unit)=Lib.tabData .u64 Lib.pow10Tab:=by rfl
theorem table{W:World}(h:laidMetH oC Rows.netRunsRow.laid W):Ff W:=by
 have c:laidMet oC Rows.netRunsRow.laid W:=h;have b:=laidMet.filter (fun x=>x.1== "internal/strconv.uint64pow10") c;have a:laidMet oC [("internal/strconv.uint64pow10",(Rows.laid_internal_strconv_uint64pow10:DataW Unit))] W:=b;rw [abj]at a;exact Lib.tabIs_of_head (rest:= []) aiJ Zl Tryz.underlying231 Tryz.underlying197 (by kernel_rfl) ZA a
theorem Zu(H:Type)(enc:TypeId×xh->H)(W:World)(base:Nat)(args:Array xh)(r gs:List (DataW H))(before:List MemPlace)
  (b:∀(j:Nat) t v,Tryz.f3.params[j]? =some t->args[j]? =some v->Value.okWide oC W .any base t v)
  (u:DataW.Whole enc oC Tryz.f3.params.toList Rows.netRunsSpec.vars false W args.toList r gs before)(J:laidMetH oC Rows.netRunsRow.laid W)(c:(DataW.weightsEach oC (Tryz.f3.params.toList++(oP Rows.netRunsSpec).bare.plain.varTypes oC) (r++gs)).all (·<=reachBytes)=true):
  Calls oC 3 args W fun e y=>∃v,e= .returned v/\Rows.netRunsSpec.post enc oC qh false true false false W args v y:=by
 have n:=u;obtain⟨p,q,d,I,rfl,F,E⟩:=u;have w:DataW.TrodAll enc oC W 0 (fun _=>true) true Tryz.f3.params.toList args.toList r p:=d;rw [Tryz.params3]at w b c;obtain⟨v0,A,d0,L,C,M,l,rfl,rfl,h0,B⟩:=trodAll_cons w;obtain⟨rfl,rfl,rfl⟩:=trodAll_nil B;obtain rfl:args=#[v0]:=by cases args;simp_all
 obtain⟨rfl,rfl⟩:=trodVars_none I;have s:=h0;have k:∀x∈C,x.block<W.heap.size:=by obtain⟨m,hm⟩:=s;exact DataW.trod_lt m _ _ _ hm
 obtain⟨a0,a,f,o,rfl,z,D,K⟩:=EO (b 0 22 v0 rfl rfl) h0;have i:a*88<=140737488351232:=by
  rcases K with⟨_,N⟩|⟨el,sp,G,hl⟩
  ·omega
  ·have:=sized_slice c (j:=0) (t:=22) (e:=51) rfl (by rw [G];rfl) Tryz.underlying22;rw [show Tryz.prog.bytesOf 51=88 from by kernel_rfl]at this;simp only [reachBytes]at this;omega
 clear d;refine(walk a0 a f o W z D i (table J)).mono fun e y ⟨he,g⟩=> ?_;subst he;exact⟨_,rfl,_,_,_,[],_,[],n,trodAll_mk1 (shut_bool Tryz.underlying4 _),(trodAll_cons_mk (Below.trod laidOut (by kernel_rfl) (of_decide_eq_true (by kernel_rfl)) s g k) trodAll_mk0),rfl,g.frame _,fun h=>by cases h⟩
def kR:Array xh:=#[.int .u8 0,.int .u8 1,.int .u8 28,.int .u8 2,.int .u8 29,.int .u8 14,.int .u8 24,.int .u8 3,.int .u8 30,.int .u8 22,.int .u8 20,.int .u8 15,.int .u8 25,.int .u8 17,.int .u8 4,.int .u8 8,.int .u8 31,.int .u8 27,.int .u8 13,.int .u8 23,.int .u8 21,.int .u8 19,.int .u8 16,.int .u8 7,.int .u8 26,.int .u8 12,.int .u8 18,.int .u8 6,.int .u8 11,.int .u8 5,.int .u8 10,.int .u8 9]
def kQ:Array xh:=#[.int .u8 0,.int .u8 1,.int .u8 56,.int .u8 2,.int .u8 57,.int .u8 49,.int .u8 28,.int .u8 3,.int .u8 61,.int .u8 58,.int .u8 42,.int .u8 50,.int .u8 38,.int .u8 29,.int .u8 17,.int .u8 4,.int .u8 62,.int .u8 47,.int .u8 59,.int .u8 36,.int .u8 45,.int .u8 43,.int .u8 51,.int .u8 22,.int .u8 53,.int .u8 39,.int .u8 33,.int .u8 30,.int .u8 24,.int .u8 18,.int .u8 12,.int .u8 5,.int .u8 63,.int .u8 55,.int .u8 48,.int .u8 27,.int .u8 60,.int .u8 41,.int .u8 37,.int .u8 16,.int .u8 46,.int .u8 35,.int .u8 44,.int .u8 21,.int .u8 52,.int .u8 32,.int .u8 23,.int .u8 11,.int .u8 54,.int .u8 26,.int .u8 40,.int .u8 15,.int .u8 34,.int .u8 20,.int .u8 31,.int .u8 10,.int .u8 25,.int .u8 14,.int .u8 19,.int .u8 9,.int .u8 13,.int .u8 8,.int .u8 7,.int .u8 6]
def jA:Array xh:=#[.int .u64 1,.int .u64 10,.int .u64 100,.int .u64 1000,.int .u64 10000,.int .u64 100000,.int .u64 1000000,.int .u64 10000000,.int .u64 100000000,.int .u64 1000000000,.int .u64 10000000000,.int .u64 100000000000,.int .u64 1000000000000,.int .u64 10000000000000,.int .u64 100000000000000,.int .u64 1000000000000000,.int .u64 10000000000000000,.int .u64 100000000000000000,.int .u64 1000000000000000000,.int .u64 10000000000000000000]
noncomputable def DL(os:Os):World:={xk oC os ⟨#[],#[],[]⟩with heap:=((((xk oC os ⟨#[],#[],[]⟩).heap.modify 2 fun| .cells _ t frozen=> .cells kR t frozen|o=>o).modify 3 fun| .cells _ t frozen=> .cells kQ t frozen|o=>o).modify 0 fun| .cells _ t frozen=> .cells jA t frozen|o=>o)}
set_option maxRecDepth 100000 in
theorem YI(os:Os):laidMet oC Rows.netRunsRow.laid ((DL os).forCall (fun _ _=>0) ⟨#[],#[.slice none 0 0],[]⟩).memory:=
 laidMet_of_run' 8 (by kernel_rfl) (by kernel_rfl)
set_option maxRecDepth 100000 in
theorem reads(os:Os){H:Type}(enc:TypeId×xh->H):∃places,DataW.whole enc oC ((DL os).forCall (fun _ _=>0) ⟨#[],#[.slice none 0 0],[]⟩).memory Tryz.f3.params.toList Rows.netRunsSpec.vars false (#[.slice none 0 0]:Array xh).toList 8=some ([.nil],[],places):=
 ⟨[],by kernel_rfl⟩
set_option maxRecDepth 100000 in
theorem lifted(os:Os)(started:os.Started)(H:Type)(enc:TypeId×xh->H)(F:Stop.Interp):
  ReturnsInHanded {} qL os 3 .any ((oP Rows.netRunsSpec).preRow enc oC qh Rows.netRunsRow.domain false Rows.netRunsRow.laid) (((oP Rows.netRunsSpec).at F).post enc oC qh false true false false):=by
 obtain⟨places,c⟩:=reads os enc;refine returnsInHanded_of_row (C:=qL) (s:=oP Rows.netRunsSpec) own started (by kernel_rfl) Tryz.func3
  (witness_row_at (enc:=enc) (C:=qL) false (DL os) #[.slice none 0 0] rfl (by kernel_rfl) (by kernel_rfl) (by kernel_rfl)
   (Ah 8 c (by kernel_rfl) (fun k d=>by cases d) (by kernel_rfl) (YI os))) ?_
 intro W base args g gs before a e _ _ b f _ _;exact Zu H enc W base args g gs before a e f b
theorem said:Rows.NetRunsSaid:=
 xx 3 qh rfl rfl rfl rfl rfl rfl rfl ⟨rfl,rfl,rfl,rfl,rfl⟩ rfl rfl rfl rfl rfl (by kernel_rfl) Tryz.func3 ad5
  (of_decide_eq_true (by kernel_rfl)) (by unfold Func.isWrapper;first|(rw [af (by decide+kernel)];kernel_rfl)|(rw [ag (by decide+kernel)];exact⟨rfl,rfl⟩))
  (fun os started H enc _ F=>by rw [xn];exact lifted os started H enc F)
theorem plain(f:FuncId)(fn:Func)(c:Tryz.pinned.checked.prog.funcNamed "tollbar/tollbarlaw.NetRuns" =some f)(a:Tryz.pinned.checked.prog.funcs[f]? =some fn):
  false=Tryz.pinned.checked.prog.looks []/\∀(j:Nat) t,fn.params[j]? =some t->Tryz.pinned.checked.prog.wantsStandIn t=false:=by
 obtain rfl:f=3:=rU ((show Tryz.prog.funcNamed "tollbar/tollbarlaw.NetRuns" =some 3 by kernel_rfl).symm.trans c) |>.symm;obtain rfl:fn=qh:=(rU (Tryz.func3.symm.trans a)).symm;refine⟨by kernel_rfl,fun j t b=> ?_⟩;rw [Tryz.params3]at b;obtain rfl:t=22:=by simpa using Array.mem_of_getElem? b
 exact(show Tryz.prog.wantsStandIn 22=false by kernel_rfl)
end netRuns
theorem netRuns_card:Rows.NetRunsCardSaid:=
 Claim7.holds_tied_plain_at .later [] _ _ _ _ netRuns.said (fun _ h=>by cases h) (by kernel_rfl) (fun _ h=>by cases h) netRuns_row_tie rfl ⟨rfl,rfl⟩ (by kernel_rfl) rfl netRuns.plain (by kernel_rfl)
#print axioms netRuns_card
end Go.Proofs.YtjjelkdajdeikaaGreatDoor
