/-
  Facts put together.
-/
import Derived.Test.YtjjelkdajdeikaaGreatDoorNetRunsC12
open Go renaming undef→oC,World→qL,Value→rU,getD_set_ne→GM,bodyPost_ret→GX,TypeId→MJ,wp_region_any→OE,mem_ready→Qe,all_oneCell_toArray→Rq,maxLen→SN,Calls→Tn,Act→Tq,wp_store_mid→Wq,results_tmp2→WZ,wp_load_mid→Z5,run_loadVar_mid→aag
open Go.Oper renaming wp→oP
open Nat renaming le_refl→qh,lt_or_ge→xh,lt_succ_self→Jj,le_trans→OG,zero_le→PW,lt_of_lt_of_le→Qd,le_succ→Uz
open Go.RowKit renaming Below→xk,ownsRow_setCell_below→BD,Hid→BG,intOf→Ee
open Go.Proofs.Tryz renaming prog→xn,f47→OI,underlying34→OO,zeroCells90→O6,f85→Qi,zeroCells34→Ru,underlying37→Xc
open Go.RowKit.Below renaming refl→xx,heap_setCell→IA
open Go.World renaming setCell→Ah
open Array renaming getElem?_modify→Eb,replicate→SQ,getD_eq_getD_getElem?→Tf,size_modify→VB,ofFn→aaf
open Option.some renaming inj→Iy
open List.Pairwise renaming nil→Jk
open Go.Code renaming region→LM
open Go.Act renaming eval→OM
open Bool renaming and_eq_true→Pe,false_eq_true→UX
open Ne renaming symm→Rw
open Decidable renaming byContradiction→Rz
open Int renaming le_refl→UQ,toNat_natCast→Zf
open List renaming getElem_mem→Xh,getD→X6,mem_append→aab,map_append→aac
open Go.Instr renaming field→aad
open Go.World.ownsRow renaming alloc→aae
set_option maxHeartbeats 8000000
namespace Go.Proofs.YtjjelkdajdeikaaGreatDoor
open Pl
open Go.RowKit
set_option maxRecDepth 20000
structure vN(a0:Tq)(s n m:Nat)(off:Nat->Option Nat)(V:Nat->rU)(C:Array Bool->qL->Prop)(listed:Array Bool)(a:Tq)(w:qL):Prop where
 ls:listed.size=m
 fr:∃xs:List rU,xs.length=n/\a={a0 with tmps:=setFrom a0.tmps s xs}/\∀k j,off k=some j->listed.getD k false=true->xs.getD j oC=V j
 cw:C listed w
theorem vN.put{a0:Tq}{s n m:Nat}{off:Nat->Option Nat}{V:Nat->rU}{C:Array Bool->qL->Prop}{listed:Array Bool}{a:Tq}{w w':qL}{i j:Nat}{v:rU}
  (h:vN a0 s n m off V C listed a w)(f:off i=some j)(g:j<n)(d:v=V j)(hc:C (listed.setIfInBounds i true) w'):vN a0 s n m off V C (listed.setIfInBounds i true) (a.put (some (s+j)) v) w':=by
 subst d;obtain⟨xs,hl,rfl,l⟩:=h.fr;refine⟨by simp [h.ls],⟨xs.set j (V j),by simp [hl],?_,?_⟩,hc⟩
 ·show({a0 with tmps:=(setFrom a0.tmps s xs).setIfInBounds (s+j) (V j)}:Tq)=_;rw [iV xs a0.tmps s j (V j) (by omega)]
 ·intro k q c b;by_cases e:q=j
  ·subst e;simp [X6,hl,g]
  ·have o:i≠k:=by rintro rfl;rw [f]at c;cases c;exact e rfl
   rw [GM false o]at b;have:(xs.set j (V j)).getD q oC=xs.getD q oC:=by simp [X6,List.getElem?_set_ne (Rw e)]
   rw [this];exact l k q c b
theorem vN.skip{a0:Tq}{s n m:Nat}{off:Nat->Option Nat}{V:Nat->rU}{C:Array Bool->qL->Prop}{listed:Array Bool}{a:Tq}{w w':qL}{i:Nat}
  (h:vN a0 s n m off V C listed a w)(d:off i=none)(hc:C (listed.setIfInBounds i true) w'):vN a0 s n m off V C (listed.setIfInBounds i true) a w':=by
 obtain⟨xs,hl,rfl,e⟩:=h.fr;refine⟨by simp [h.ls],⟨xs,hl,rfl,?_⟩,hc⟩;intro k q c b;have f:i≠k:=by rintro rfl;rw [d]at c;cases c
 rw [GM false f]at b;exact e k q c b
theorem vN.at{a0:Tq}{s n m:Nat}{off:Nat->Option Nat}{V:Nat->rU}{C:Array Bool->qL->Prop}{listed:Array Bool}{a:Tq}{w:qL}{k j:Nat}
  (h:vN a0 s n m off V C listed a w)(e:s+n<=a0.tmps.size)(c:off k=some j)(f:j<n)(hl:listed.getD k false=true):a.tmps[s+j]?.getD oC=V j:=by
 obtain⟨xs,b,rfl,d⟩:=h.fr;show(setFrom a0.tmps s xs)[s+j]?.getD oC=_;rw [gu xs a0.tmps s j (by omega) (by omega),<-d k j c hl];simp [X6]
theorem vN.out{a0:Tq}{s n m:Nat}{off:Nat->Option Nat}{V:Nat->rU}{C:Array Bool->qL->Prop}{listed:Array Bool}{a:Tq}{w:qL}{k:Nat}
  (h:vN a0 s n m off V C listed a w)(c:k<s\/s+n<=k):a.tmps[k]?.getD oC=a0.tmps[k]?.getD oC:=by
 obtain⟨xs,b,rfl,d⟩:=h.fr;show(setFrom a0.tmps s xs)[k]?.getD oC=_;rw [fH xs a0.tmps s k (by omega)]
theorem ed(m k:Nat):(SQ m false).getD k false=false:=by by_cases a:k<m<;>simp [a]
theorem vN.start{a0:Tq}{s n m:Nat}{off:Nat->Option Nat}{V:Nat->rU}{C:Array Bool->qL->Prop}{w:qL}(c:s+n<=a0.tmps.size)(hc:C (SQ m false) w):vN a0 s n m off V C (SQ m false) a0 w:=by
 obtain⟨xs,b,a⟩:=lK n a0.tmps s c;refine⟨by simp,⟨xs,b,by rw [a],?_⟩,hc⟩;intro k j _ h;rw [ed]at h
 cases h
theorem lh{listed:Array Bool}{i:Nat}(h:i<listed.size):(listed.setIfInBounds i true).getD i false=true:=by simp [h]
theorem Pl.Oq(L:Nat->Nat->Int)(a b:Nat)(c:Int)(x y:Nat):cZ (cZ L a (cZ (L a) b c)) b (cZ (cZ L a (cZ (L a) b c) b) a c) x y=Pl.line L a b c x y:=by
 unfold Pl.line cZ;by_cases g:x=b
 ·subst g;rw [af rfl];by_cases d:y=a
  ·subst d;simp
  ·simp only [ag d];by_cases f:x=a
   ·subst f;rw [af rfl];simp [d]
   ·rw [ag f,ag (by omega)]
 ·simp only [ag g];by_cases e:x=a
  ·subst e;rw [af rfl];by_cases d:y=b
   ·subst d;simp
   ·rw [ag d,ag (by omega)]
  ·rw [ag e,ag (by omega)]
structure oM(R q:Nat)(w w':qL):Prop where
 os:w'.os=w.os
 tape:w'.tape=w.tape
 output:w'.output=w.output
 size:w.heap.size<=w'.heap.size
 block:∀k,k<w.heap.size->k≠R->k≠q->w'.heap[k]? =w.heap[k]?
theorem oM.refl(R q:Nat)(w:qL):oM R q w w:=⟨rfl,rfl,rfl,qh _,fun _ _ _ _=>rfl⟩
theorem oM.one{R q:Nat}{a b c:qL}(h:oM R q a b)(k:aI R b c):oM R q a c:=
 ⟨k.os.trans h.os,k.tape.trans h.tape,k.output.trans h.output,OG h.size k.size,fun i d e f=>(k.block i (Qd d h.size) e).trans (h.block i d e f)⟩
theorem oM.two{R q:Nat}{a b c:qL}(h:oM R q a b)(k:aI q b c):oM R q a c:=
 ⟨k.os.trans h.os,k.tape.trans h.tape,k.output.trans h.output,OG h.size k.size,fun i d f e=>(k.block i (Qd d h.size) e).trans (h.block i d f e)⟩
theorem oM.below{R q C:Nat}{w w':qL}(h:oM R q w w')(c:C<=R)(a:C<=q)(hw:C<=w.heap.size):xk C w w':=⟨h.os,h.tape,h.output,h.size,fun k b=>h.block k (by omega) (by omega) (by omega)⟩
theorem oM.drew{R q:Nat}{a w:qL}(h:oM R q a w)(n:Nat):oM R q a (w.drewN n):=⟨h.os,h.tape,h.output,h.size,h.block⟩
theorem jR{R q:Nat}{w w':qL}{base:Nat}{e:MJ}{sz:Nat}{v:rU}{n:Nat}{xs:List rU}(h:w.ownsRow base e sz v n xs)(k:oM R q w w')(f:∀cur m,w.heap[R]? ≠some (.cells cur e m))(c:∀cur m,w.heap[q]? ≠some (.cells cur e m)):w'.ownsRow base e sz v n xs:=by
 obtain⟨h0,a⟩:=h;refine⟨h0,?_⟩;rcases a with a|⟨g,cap,cur,rfl,d,hh,b⟩
 ·exact .inl a
 ·refine .inr ⟨g,cap,cur,rfl,d,(k.block g (aG hh) ?_ ?_).trans hh,b⟩
  ·rintro rfl;exact f _ _ hh
  ·rintro rfl;exact c _ _ hh
theorem Kn.ai3{R q:Nat}{w w':qL}{s P K T}{g:Nat->rU}{cs:Array rU}(h:Kn w s P K T)(k:oM R q w w')(b:aj w R 34 192 g)(c:w.heap[q]? =some (.cells cs 40)):Kn w' s P K T:=by
 unfold aj at b;refine⟨fun i a=>jR (h.1 i a) k ?_ ?_,fun i a=>jR (h.2.1 i a) k ?_ ?_,fun i a=> ?_⟩
 ·intro cur m e;rw [b]at e;simp at e
 ·intro cur m e;rw [c]at e;simp at e
 ·intro cur m e;rw [b]at e;simp at e
 ·intro cur m e;rw [c]at e;simp at e
 ·obtain⟨p,t1,t2,t3⟩:=h.2.2 i a;refine⟨p,jR t1 k ?_ ?_,t2,fun j r=> ?_⟩
  ·intro cur m e;rw [b]at e;simp at e
  ·intro cur m e;rw [c]at e;simp at e
  ·obtain⟨o,n,l,f,d⟩:=t3 j r;refine⟨o,n,l,jR f k ?_ ?_,d⟩
   ·intro cur m e;rw [b]at e;simp at e
   ·intro cur m e;rw [c]at e;simp at e
def BkC(w0:qL)(R q:Nat)(g:Nat->rU)(rc:Array rU)(l:Array Bool)(W:qL):Prop:=
 oM R q w0 W/\(∃g',aj W R 34 192 g')/\(∃d0 d1 d2 d3,W.heap[q]? =some (.cells #[d0,d1,d2,d3] 40))/\
  (l.getD 2 false=true->aj W R 34 192 g)/\(l.getD 3 false=true->W.heap[q]? =some (.cells rc 40))
theorem BkC.keep{a R q g rc l W i}(h:BkC a R q g rc l W)(c:i≠2)(b:i≠3):BkC a R q g rc (l.setIfInBounds i true) W:=by
 unfold BkC;rw [GM false c,GM false b];exact h
def XW(w:qL)(X:Nat)(d0 d1 d2 d3:rU):qL:=(((w.setCell ⟨X,0,none⟩ d0).setCell ⟨X,1,none⟩ d1).setCell ⟨X,2,none⟩ d2).setCell ⟨X,3,none⟩ d3
theorem AQ{w:qL}{X:Nat}{c0 c1 c2 a:rU}{T:MJ}(h:w.heap[X]? =some (.cells #[c0,c1,c2,a] T))(d0 d1 d2 d3:rU):(XW w X d0 d1 d2 d3).heap[X]? =some (.cells #[d0,d1,d2,d3] T):=by
 have:=aG h;simp [XW,Ah,Eb,h]
theorem xW(w:qL)(X:Nat)(d0 d1 d2 d3:rU):aI X w (XW w X d0 d1 d2 d3):=((((aI.refl X w).setCell _ _).setCell _ _).setCell _ _).setCell _ _
theorem ZQ{Q:Exit->Tq->qL->Prop}{a0:Tq}{h:qL}{B O R q:Nat}{D:Nat->Bool}{P K T:Nat->rU}{L:Nat->Nat->Int}{c co:Int}{m r:Option Addr}{pl l n p:Nat}
  (J:a0.tmps.size=421)
  (q2:a0.tmps[2]?.getD oC= .pointer (some ⟨B,0,none⟩))(q4:a0.tmps[4]?.getD oC= .pointer (some ⟨R,0,none⟩))(q5:a0.tmps[5]?.getD oC= .pointer (some ⟨q,0,none⟩))(q6:a0.tmps[6]?.getD oC= .pointer (some ⟨O,0,none⟩))
  (Y:B≠R)(V:B≠q)(U:O≠R)(S:O≠q)(G:R≠q)
  (hB:bV h B D P K T L)(h1:∀v∈ax D P K T L,v.oneCell'=true)
  (hO:h.heap[O]? =some (.cells #[.int .i64 c,.slice m pl l,.int .i64 co,.slice r n p] 40))
  (hR:∃g,aj h R 34 192 g)(hq:∃d0 d1 d2 d3,h.heap[q]? =some (.cells #[d0,d1,d2,d3] 40))
  (hQ:∀x y W,bV W R D P K T L->W.heap[q]? =some (.cells #[.int .i64 c,.slice m pl l,.int .i64 co,.slice r n p] 40)->oM R q h W->Q .normal {a0 with tmps:=setFrom a0.tmps 40 [x,y]} W):
  ∀ops,dX OI 4=some ops->(LM 4 ops true).wp xn Q a0 h:=by
 intro ops aH;have eo:=Iy (aH.symm.trans (rfl:dX OI 4=some _));subst eo;clear aH;have s:40+2<=a0.tmps.size:=by omega
 refine OE (by kernel_rfl) ?_;refine cO (vN a0 40 2 4 (fun k=>if k=0 then some 0 else if k=1 then some 1 else none) (fun j=>if j=0 then .agg (ax D P K T L).toArray else .agg #[.int .i64 c,.slice m pl l,.int .i64 co,.slice r n p]) (BkC h R q (IE D P K T L) #[.int .i64 c,.slice m pl l,.int .i64 co,.slice r n p])) ?_ ?_ _ _ _ _ (by decide+kernel) ?_ (bn _ _ _)
 ·rintro i listed Z W hi jS b;rw [Qe]at hi;obtain⟨aa,o,M,f⟩:=hi;have sN:i<4:=(Array.getElem?_eq_some_iff.1 M).1;have o2:=(b.out (k:=2) (by omega)).trans q2;have o4:=(b.out (k:=4) (by omega)).trans q4;have o5:=(b.out (k:=5) (by omega)).trans q5;have o6:=(b.out (k:=6) (by omega)).trans q6;obtain⟨d,a,C,u,t⟩:=b.cw;have N:i=0\/i=1\/i=2\/i=3:=by omega
  rcases N with rfl|rfl|rfl|rfl
  all_goals
   simp at M;subst M
  ·refine au rfl rfl ?_;have X:bV W B D P K T L:=(d.block B hB.lt Y V).trans hB;refine Z5 34 (.tmp 2) rfl B 0 (by simpa [OM]using o2) (ax D P K T L) _ X.all OO rfl (by rw [bH];exact fD) ?_;exact b.put (i:=0) (j:=0) rfl (by omega) rfl (b.cw.keep (by omega) (by omega))
  ·refine au rfl rfl ?_;obtain⟨⟨z0,H,z2,z3⟩,zf,zl⟩:=aS ((d.block O (aG hO) U S).trans hO);simp [oP,go_sem,o6,z0,H,z2,z3];exact b.put (i:=1) (j:=1) rfl (by omega) rfl (b.cw.keep (by omega) (by omega))
  ·refine au rfl rfl ?_;have e0:Z.tmps[40]?.getD oC= .agg (ax D P K T L).toArray:=b.at (k:=0) (j:=0) s rfl (by omega) (f ⟨0,.data⟩ (by simp) rfl);obtain⟨F,a⟩:=a;refine Wq 34 (.tmp 4) (.tmp 40) rfl R 0 (ax D P K T L).toArray (by simpa [OM]using o4) (by simpa [OM]using e0) (by simpa [ax]using a.there 0 192 (by omega)) (by simpa [ax]using fD) (Rq h1) ?_;have z:aI R W (W.setCells R 0 (ax D P K T L)):=aI.setCells _ 0 _ (aI.refl _ _);refine b.skip (i:=2) rfl ⟨d.one z,⟨_,bV.fill ⟨F,a⟩⟩,?_,fun _=>bV.fill ⟨F,a⟩,?_⟩
   ·obtain⟨d0,d1,d2,d3,e⟩:=C;exact⟨d0,d1,d2,d3,(z.block q (aG e) (Rw G)).trans e⟩
   ·rw [GM false (by omega)];intro hl;have e:=t hl;exact(z.block q (aG e) (Rw G)).trans e
  ·refine au rfl rfl ?_;have e1:Z.tmps[41]?.getD oC= .agg #[.int .i64 c,.slice m pl l,.int .i64 co,.slice r n p]:=b.at (k:=1) (j:=1) s rfl (by omega) (f ⟨1,.data⟩ (by simp) rfl);obtain⟨d0,d1,d2,d3,hx⟩:=C;obtain⟨⟨z0,H,z2,z3⟩,zf,zl⟩:=aS hx;simp [oP,go_sem,o5,e1,z0,H,z2,z3,zf];have w:=xW W q (.int .i64 c) (.slice m pl l) (.int .i64 co) (.slice r n p);have A:=AQ hx (.int .i64 c) (.slice m pl l) (.int .i64 co) (.slice r n p);refine b.skip (i:=3) rfl ⟨d.two w,?_,⟨_,_,_,_,A⟩,?_,fun _=>A⟩
   ·obtain⟨F,a⟩:=a;exact⟨F,a.but w G⟩
   ·rw [GM false (by omega)];intro hl;exact(u hl).but w G
 ·rintro listed Z W hr b;have E:=dm (by decide+kernel) b.ls hr;obtain⟨xs,I,rfl,-⟩:=b.fr;obtain⟨d,-,-,u,t⟩:=b.cw;match xs,I with
  | [x,y],_=>exact hQ x y W (u (E 2 (by decide))) (t (E 3 (by decide))) d
 ·refine vN.start s ⟨(oM.refl _ _ _).drew 1,hR,hq,fun e=> ?_,fun e=> ?_⟩
  ·rw [ed]at e;cases e
  ·rw [ed]at e;cases e
theorem ZP{Q:Exit->Tq->qL->Prop}{a0:Tq}{h:qL}{B O R q:Nat}{D:Nat->Bool}{P K T:Nat->rU}{L:Nat->Nat->Int}{c co:Int}{m r:Option Addr}{pl l n p:Nat}
  (J:a0.tmps.size=421)
  (q2:a0.tmps[2]?.getD oC= .pointer (some ⟨B,0,none⟩))(q4:a0.tmps[4]?.getD oC= .pointer (some ⟨R,0,none⟩))(q5:a0.tmps[5]?.getD oC= .pointer (some ⟨q,0,none⟩))(q6:a0.tmps[6]?.getD oC= .pointer (some ⟨O,0,none⟩))
  (Y:B≠R)(V:B≠q)(U:O≠R)(S:O≠q)(G:R≠q)
  (hB:bV h B D P K T L)(h1:∀v∈ax D P K T L,v.oneCell'=true)
  (hO:h.heap[O]? =some (.cells #[.int .i64 c,.slice m pl l,.int .i64 co,.slice r n p] 40))
  (hR:∃g,aj h R 34 192 g)(hq:∃d0 d1 d2 d3,h.heap[q]? =some (.cells #[d0,d1,d2,d3] 40))
  (hQ:∀x y W,bV W R D P K T L->W.heap[q]? =some (.cells #[.int .i64 c,.slice m pl l,.int .i64 co,.slice r n p] 40)->oM R q h W->Q .normal {a0 with tmps:=setFrom a0.tmps 47 [x,y]} W):
  ∀ops,dX OI 7=some ops->(LM 7 ops true).wp xn Q a0 h:=by
 intro ops aH;have eo:=Iy (aH.symm.trans (rfl:dX OI 7=some _));subst eo;clear aH;have s:47+2<=a0.tmps.size:=by omega
 refine OE (by kernel_rfl) ?_;refine cO (vN a0 47 2 4 (fun k=>if k=0 then some 0 else if k=1 then some 1 else none) (fun j=>if j=0 then .agg (ax D P K T L).toArray else .agg #[.int .i64 c,.slice m pl l,.int .i64 co,.slice r n p]) (BkC h R q (IE D P K T L) #[.int .i64 c,.slice m pl l,.int .i64 co,.slice r n p])) ?_ ?_ _ _ _ _ (by decide+kernel) ?_ (bn _ _ _)
 ·rintro i listed Z W hi jS b;rw [Qe]at hi;obtain⟨aa,o,M,f⟩:=hi;have sN:i<4:=(Array.getElem?_eq_some_iff.1 M).1;have o2:=(b.out (k:=2) (by omega)).trans q2;have o4:=(b.out (k:=4) (by omega)).trans q4;have o5:=(b.out (k:=5) (by omega)).trans q5;have o6:=(b.out (k:=6) (by omega)).trans q6;obtain⟨d,a,C,u,t⟩:=b.cw;have N:i=0\/i=1\/i=2\/i=3:=by omega
  rcases N with rfl|rfl|rfl|rfl
  all_goals
   simp at M;subst M
  ·refine au rfl rfl ?_;have X:bV W B D P K T L:=(d.block B hB.lt Y V).trans hB;refine Z5 34 (.tmp 2) rfl B 0 (by simpa [OM]using o2) (ax D P K T L) _ X.all OO rfl (by rw [bH];exact fD) ?_;exact b.put (i:=0) (j:=0) rfl (by omega) rfl (b.cw.keep (by omega) (by omega))
  ·refine au rfl rfl ?_;obtain⟨⟨z0,H,z2,z3⟩,zf,zl⟩:=aS ((d.block O (aG hO) U S).trans hO);simp [oP,go_sem,o6,z0,H,z2,z3];exact b.put (i:=1) (j:=1) rfl (by omega) rfl (b.cw.keep (by omega) (by omega))
  ·refine au rfl rfl ?_;have e0:Z.tmps[47]?.getD oC= .agg (ax D P K T L).toArray:=b.at (k:=0) (j:=0) s rfl (by omega) (f ⟨0,.data⟩ (by simp) rfl);obtain⟨F,a⟩:=a;refine Wq 34 (.tmp 4) (.tmp 47) rfl R 0 (ax D P K T L).toArray (by simpa [OM]using o4) (by simpa [OM]using e0) (by simpa [ax]using a.there 0 192 (by omega)) (by simpa [ax]using fD) (Rq h1) ?_;have z:aI R W (W.setCells R 0 (ax D P K T L)):=aI.setCells _ 0 _ (aI.refl _ _);refine b.skip (i:=2) rfl ⟨d.one z,⟨_,bV.fill ⟨F,a⟩⟩,?_,fun _=>bV.fill ⟨F,a⟩,?_⟩
   ·obtain⟨d0,d1,d2,d3,e⟩:=C;exact⟨d0,d1,d2,d3,(z.block q (aG e) (Rw G)).trans e⟩
   ·rw [GM false (by omega)];intro hl;have e:=t hl;exact(z.block q (aG e) (Rw G)).trans e
  ·refine au rfl rfl ?_;have e1:Z.tmps[48]?.getD oC= .agg #[.int .i64 c,.slice m pl l,.int .i64 co,.slice r n p]:=b.at (k:=1) (j:=1) s rfl (by omega) (f ⟨1,.data⟩ (by simp) rfl);obtain⟨d0,d1,d2,d3,hx⟩:=C;obtain⟨⟨z0,H,z2,z3⟩,zf,zl⟩:=aS hx;simp [oP,go_sem,o5,e1,z0,H,z2,z3,zf];have w:=xW W q (.int .i64 c) (.slice m pl l) (.int .i64 co) (.slice r n p);have A:=AQ hx (.int .i64 c) (.slice m pl l) (.int .i64 co) (.slice r n p);refine b.skip (i:=3) rfl ⟨d.two w,?_,⟨_,_,_,_,A⟩,?_,fun _=>A⟩
   ·obtain⟨F,a⟩:=a;exact⟨F,a.but w G⟩
   ·rw [GM false (by omega)];intro hl;exact(u hl).but w G
 ·rintro listed Z W hr b;have E:=dm (by decide+kernel) b.ls hr;obtain⟨xs,I,rfl,-⟩:=b.fr;obtain⟨d,-,-,u,t⟩:=b.cw;match xs,I with
  | [x,y],_=>exact hQ x y W (u (E 2 (by decide))) (t (E 3 (by decide))) d
 ·refine vN.start s ⟨(oM.refl _ _ _).drew 1,hR,hq,fun e=> ?_,fun e=> ?_⟩
  ·rw [ed]at e;cases e
  ·rw [ed]at e;cases e
theorem WN{Q:Exit->Tq->qL->Prop}{a0:Tq}{h:qL}{B O R q:Nat}{D:Nat->Bool}{P K T:Nat->rU}{L:Nat->Nat->Int}{c co:Int}{m r:Option Addr}{pl l n p:Nat}
  (J:a0.tmps.size=421)
  (q2:a0.tmps[2]?.getD oC= .pointer (some ⟨B,0,none⟩))(q4:a0.tmps[4]?.getD oC= .pointer (some ⟨R,0,none⟩))(q5:a0.tmps[5]?.getD oC= .pointer (some ⟨q,0,none⟩))(q6:a0.tmps[6]?.getD oC= .pointer (some ⟨O,0,none⟩))
  (Y:B≠R)(V:B≠q)(U:O≠R)(S:O≠q)(G:R≠q)
  (hB:bV h B D P K T L)(h1:∀v∈ax D P K T L,v.oneCell'=true)
  (hO:h.heap[O]? =some (.cells #[.int .i64 c,.slice m pl l,.int .i64 co,.slice r n p] 40))
  (hR:∃g,aj h R 34 192 g)(hq:∃d0 d1 d2 d3,h.heap[q]? =some (.cells #[d0,d1,d2,d3] 40))
  (hQ:∀x y W,bV W R D P K T L->W.heap[q]? =some (.cells #[.int .i64 c,.slice m pl l,.int .i64 co,.slice r n p] 40)->oM R q h W->Q .normal {a0 with tmps:=setFrom a0.tmps 419 [x,y]} W):
  ∀ops,dX OI 93=some ops->(LM 93 ops true).wp xn Q a0 h:=by
 intro ops aH;have eo:=Iy (aH.symm.trans (rfl:dX OI 93=some _));subst eo;clear aH;have s:419+2<=a0.tmps.size:=by omega
 refine OE (by kernel_rfl) ?_;refine cO (vN a0 419 2 4 (fun k=>if k=0 then some 0 else if k=1 then some 1 else none) (fun j=>if j=0 then .agg (ax D P K T L).toArray else .agg #[.int .i64 c,.slice m pl l,.int .i64 co,.slice r n p]) (BkC h R q (IE D P K T L) #[.int .i64 c,.slice m pl l,.int .i64 co,.slice r n p])) ?_ ?_ _ _ _ _ (by decide+kernel) ?_ (bn _ _ _)
 ·rintro i listed Z W hi jS b;rw [Qe]at hi;obtain⟨aa,o,M,f⟩:=hi;have sN:i<4:=(Array.getElem?_eq_some_iff.1 M).1;have o2:=(b.out (k:=2) (by omega)).trans q2;have o4:=(b.out (k:=4) (by omega)).trans q4;have o5:=(b.out (k:=5) (by omega)).trans q5;have o6:=(b.out (k:=6) (by omega)).trans q6;obtain⟨d,a,C,u,t⟩:=b.cw;have N:i=0\/i=1\/i=2\/i=3:=by omega
  rcases N with rfl|rfl|rfl|rfl
  all_goals
   simp at M;subst M
  ·refine au rfl rfl ?_;have X:bV W B D P K T L:=(d.block B hB.lt Y V).trans hB;refine Z5 34 (.tmp 2) rfl B 0 (by simpa [OM]using o2) (ax D P K T L) _ X.all OO rfl (by rw [bH];exact fD) ?_;exact b.put (i:=0) (j:=0) rfl (by omega) rfl (b.cw.keep (by omega) (by omega))
  ·refine au rfl rfl ?_;obtain⟨⟨z0,H,z2,z3⟩,zf,zl⟩:=aS ((d.block O (aG hO) U S).trans hO);simp [oP,go_sem,o6,z0,H,z2,z3];exact b.put (i:=1) (j:=1) rfl (by omega) rfl (b.cw.keep (by omega) (by omega))
  ·refine au rfl rfl ?_;have e0:Z.tmps[419]?.getD oC= .agg (ax D P K T L).toArray:=b.at (k:=0) (j:=0) s rfl (by omega) (f ⟨0,.data⟩ (by simp) rfl);obtain⟨F,a⟩:=a;refine Wq 34 (.tmp 4) (.tmp 419) rfl R 0 (ax D P K T L).toArray (by simpa [OM]using o4) (by simpa [OM]using e0) (by simpa [ax]using a.there 0 192 (by omega)) (by simpa [ax]using fD) (Rq h1) ?_;have z:aI R W (W.setCells R 0 (ax D P K T L)):=aI.setCells _ 0 _ (aI.refl _ _);refine b.skip (i:=2) rfl ⟨d.one z,⟨_,bV.fill ⟨F,a⟩⟩,?_,fun _=>bV.fill ⟨F,a⟩,?_⟩
   ·obtain⟨d0,d1,d2,d3,e⟩:=C;exact⟨d0,d1,d2,d3,(z.block q (aG e) (Rw G)).trans e⟩
   ·rw [GM false (by omega)];intro hl;have e:=t hl;exact(z.block q (aG e) (Rw G)).trans e
  ·refine au rfl rfl ?_;have e1:Z.tmps[420]?.getD oC= .agg #[.int .i64 c,.slice m pl l,.int .i64 co,.slice r n p]:=b.at (k:=1) (j:=1) s rfl (by omega) (f ⟨1,.data⟩ (by simp) rfl);obtain⟨d0,d1,d2,d3,hx⟩:=C;obtain⟨⟨z0,H,z2,z3⟩,zf,zl⟩:=aS hx;simp [oP,go_sem,o5,e1,z0,H,z2,z3,zf];have w:=xW W q (.int .i64 c) (.slice m pl l) (.int .i64 co) (.slice r n p);have A:=AQ hx (.int .i64 c) (.slice m pl l) (.int .i64 co) (.slice r n p);refine b.skip (i:=3) rfl ⟨d.two w,?_,⟨_,_,_,_,A⟩,?_,fun _=>A⟩
   ·obtain⟨F,a⟩:=a;exact⟨F,a.but w G⟩
   ·rw [GM false (by omega)];intro hl;exact(u hl).but w G
 ·rintro listed Z W hr b;have E:=dm (by decide+kernel) b.ls hr;obtain⟨xs,I,rfl,-⟩:=b.fr;obtain⟨d,-,-,u,t⟩:=b.cw;match xs,I with
  | [x,y],_=>exact hQ x y W (u (E 2 (by decide))) (t (E 3 (by decide))) d
 ·refine vN.start s ⟨(oM.refl _ _ _).drew 1,hR,hq,fun e=> ?_,fun e=> ?_⟩
  ·rw [ed]at e;cases e
  ·rw [ed]at e;cases e
theorem bY{Q:Exit->Tq->qL->Prop}{a0:Tq}{b:qL}{w:qL}{D:Nat->Bool}{P K T:Nat->rU}{L:Nat->Nat->Int}{c co:Int}{e i:Option Addr}{pl d f h:Nat}
  (a:a0.tmps.size=421)
  (m:a0.tmps[2]?.getD oC= .pointer (some ⟨w.heap.size,0,none⟩))(l:a0.tmps[4]?.getD oC= .pointer (some ⟨w.heap.size+1+1,0,none⟩))(k:a0.tmps[5]?.getD oC= .pointer (some ⟨w.heap.size+1+1+1,0,none⟩))(j:a0.tmps[6]?.getD oC= .pointer (some ⟨w.heap.size+1+1+1+1,0,none⟩))
  (r:bV b w.heap.size D P K T L)(s:∀v∈ax D P K T L,v.oneCell'=true)
  (q:b.heap[w.heap.size+1+1+1+1]? =some (.cells #[.int .i64 c,.slice e pl d,.int .i64 co,.slice i f h] 40))
  (o:∃g,aj b (w.heap.size+1+1) 34 192 g)(n:∃d0 d1 d2 d3,b.heap[w.heap.size+1+1+1]? =some (.cells #[d0,d1,d2,d3] 40))
  (p:∀x y W,bV W (w.heap.size+1+1) D P K T L->W.heap[w.heap.size+1+1+1]? =some (.cells #[.int .i64 c,.slice e pl d,.int .i64 co,.slice i f h] 40)->oM (w.heap.size+1+1) (w.heap.size+1+1+1) b W->Q .normal {a0 with tmps:=setFrom a0.tmps 419 [x,y]} W):
  ∀ops,dX OI 93=some ops->(LM 93 ops true).wp xn Q a0 b:=WN a m l k j (by omega) (by omega) (by omega) (by omega) (by omega) r s q o n p
theorem dK(n:Int)(w:qL):Tn xn 74 #[.int .i64 n] w fun e w'=>e= .returned (.bool (decide (0<=n/\n<=11)))/\w'=w:=by
 have c:=ae (fun W=>dZ n 0 11 W);generalize decide (0<=n/\n<=11)=b at*;go_enter Tryz.func74,Tryz.ntmps74;go_wp2_with (go_at_call 73;refine(c.out _).mono ?_;rintro e w' ⟨rfl,a⟩;rw [a];clear a w');go_ret;exact⟨rfl,rfl⟩
def Pl.Ac.cells(x:Pl.Ac):Array rU:=#[.int .i64 x.kind,.int .i64 x.a,.int .i64 x.b,.int .i64 x.n,.int .i64 x.m,.int .i64 x.p.1,.int .i64 x.p.2,.string x.key,.string x.val]
def rp0:Array rU:=#[.int .i64 0,.slice none 0 0,.int .i64 0,.slice none 0 0]
structure IC(w W:qL)(s:Pl.Nt)(P K T:Nat->rU)(x:Pl.Ac):Prop where
 net:bV W w.heap.size s.D P K T s.L
 act:W.heap[w.heap.size+1]? =some (.cells x.cells 51)
 room:∃g,aj W (w.heap.size+1+1) 34 192 g
 nM:∃d0 d1 d2 d3,W.heap[w.heap.size+1+1+1]? =some (.cells #[d0,d1,d2,d3] 40)
 gV:W.heap[w.heap.size+1+1+1+1]? =some (.cells rp0 40)
 sz:w.heap.size+5<=W.heap.size
 low:xk w.heap.size w W
theorem IC.below{w W a:qL}{s P K T x}(h:IC w W s P K T x)(k:xk W.heap.size W a):IC w a s P K T x:=by
 have b:=h.sz;refine⟨aj.below h.net k,(k.block _ (by omega)).trans h.act,?_,?_,(k.block _ (by omega)).trans h.gV,OG b k.size,h.low.trans (k.mono h.low.size)⟩
 ·obtain⟨g,q⟩:=h.room;exact⟨g,q.below k⟩
 ·obtain⟨d0,d1,d2,d3,q⟩:=h.nM;exact⟨d0,d1,d2,d3,(k.block _ (by omega)).trans q⟩
theorem IC.new{w W:qL}{s:Pl.Nt}{P K T:Nat->rU}{x:Pl.Ac}
  (h:W=((((w.alloc (.cells (ax s.D P K T s.L).toArray 34)).alloc (.cells x.cells 51)).alloc (.cells Ru 34)).alloc (.cells #[.int .i64 0,.slice none 0 0,.int .i64 0,.slice none 0 0] 40)).alloc (.cells #[.int .i64 0,.slice none 0 0,.int .i64 0,.slice none 0 0] 40)):
  IC w W s P K T x/\W.heap.size=w.heap.size+5:=by
 change W=((((w.alloc (.cells (ax s.D P K T s.L).toArray 34)).alloc (.cells x.cells 51)).alloc (.cells Ru 34)).alloc (.cells rp0 40)).alloc (.cells rp0 40)at h;subst h;generalize i:w.alloc (.cells (ax s.D P K T s.L).toArray 34)=c;have q:c.heap.size=w.heap.size+1:=by rw [<-i];simp
 have A:bV c w.heap.size s.D P K T s.L:=by rw [<-i];exact bV.new w _ _ _ _ _
 have b1:xk w.heap.size w c:=by rw [<-i];exact(xx _ _).alloc (qh _) _
 generalize g:c.alloc (.cells x.cells 51)=a;have z2:a.heap.size=w.heap.size+1+1:=by rw [<-g];simp [q]
 have z:a.heap[w.heap.size+1]? =some (.cells x.cells 51):=by rw [<-g,<-q];exact bW _ _
 have t:xk c.heap.size c a:=by rw [<-g];exact(xx _ _).alloc (qh _) _
 generalize f:a.alloc (.cells Ru 34)=b;have z3:b.heap.size=w.heap.size+1+1+1:=by rw [<-f];simp [z2]
 have y:bV b (w.heap.size+1+1) (fun _=>false) nV nV nV (fun _ _=>0):=by rw [<-f,<-z2,qW];exact bV.new a _ _ _ _ _
 have r:xk a.heap.size a b:=by rw [<-f];exact(xx _ _).alloc (qh _) _
 generalize e:b.alloc (.cells rp0 40)=k;have z4:k.heap.size=w.heap.size+1+1+1+1:=by rw [<-e];simp [z3]
 have v:k.heap[w.heap.size+1+1+1]? =some (.cells rp0 40):=by rw [<-e,<-z3];exact bW _ _
 have n:xk b.heap.size b k:=by rw [<-e];exact(xx _ _).alloc (qh _) _
 generalize d:k.alloc (.cells rp0 40)=j;have z5:j.heap.size=w.heap.size+1+1+1+1+1:=by rw [<-d];simp [z4]
 have u:j.heap[w.heap.size+1+1+1+1]? =some (.cells rp0 40):=by rw [<-d,<-z4];exact bW _ _
 have o:xk k.heap.size k j:=by rw [<-d];exact(xx _ _).alloc (qh _) _
 have l:xk a.heap.size a j:=r.trans ((n.trans (o.mono n.size)).mono r.size);have p:xk b.heap.size b j:=n.trans (o.mono n.size);have m:xk c.heap.size c j:=t.trans (l.mono t.size);refine⟨⟨aj.below A m,(l.block _ (by omega)).trans z,⟨_,aj.below y p⟩,⟨_,_,_,_,(o.block _ (by omega)).trans v⟩,u,by omega,b1.trans (m.mono b1.size)⟩,z5⟩
theorem IC.nine{w W:qL}{s P K T x}(h:IC w W s P K T x):W.cell? ⟨w.heap.size+1,0,none⟩=some (.int .i64 x.kind)/\W.cell? ⟨w.heap.size+1,1,none⟩=some (.int .i64 x.a)/\W.cell? ⟨w.heap.size+1,2,none⟩=some (.int .i64 x.b)/\W.cell? ⟨w.heap.size+1,3,none⟩=some (.int .i64 x.n)/\W.cell? ⟨w.heap.size+1,4,none⟩=some (.int .i64 x.m)/\W.cell? ⟨w.heap.size+1,5,none⟩=some (.int .i64 x.p.1)/\W.cell? ⟨w.heap.size+1,6,none⟩=some (.int .i64 x.p.2)/\W.cell? ⟨w.heap.size+1,7,none⟩=some (.string x.key)/\W.cell? ⟨w.heap.size+1,8,none⟩=some (.string x.val):=kz h.act
theorem su(b:Nat):∀(a:List rU) (o:Nat) (w:qL),(w.setCells b o a).heap.size=w.heap.size
 | [],_,_=>rfl
 |v::r,o,w=>by rw [World.setCells,su b r];simp
theorem sH{w W b:qL}{s P K T x}{a:Nat}{cs:Array rU}(h:IC w W s P K T x)(hc:cs.size=16)
  (d:b=(W.alloc (.cells cs 33)).setCells W.heap.size 0 (bP (s.D a) (P a) (K a) (T a) (s.L a))):
  IC w b s P K T x/\vM b W.heap.size (s.D a) (P a) (K a) (T a) (s.L a)/\W.heap.size<b.heap.size/\(W.alloc (.cells cs 33)).there W.heap.size 0 16:=by
 have e:aj (W.alloc (.cells cs 33)) W.heap.size 33 16 (fun i=>cs.getD i oC):=aj.new W _ _ _ _ hc fun i f=>by simp [f]
 have c:xk W.heap.size W (W.alloc (.cells cs 33)):=(xx _ _).alloc (qh _) _;have hu:aI W.heap.size (W.alloc (.cells cs 33)) b:=by rw [d];exact aI.setCells _ 0 _ (aI.refl _ _)
 have g:xk W.heap.size W b:=c.trans (hu.below (qh _) (by simp));refine⟨h.below g,?_,?_,e.there 0 16 (by omega)⟩
 ·rw [d];exact vM.fill ⟨_,e⟩
 ·rw [d,su];simp
def Ap(w:qL)(c:Int)(path:List Int)(cost:Int)(keys:List ByteArray)(sn:Pl.Nt)(e:Ending)(w':qL):Prop:=
 ∃P K T vp vk,e= .returned (.tuple #[.agg (ax sn.D P K T sn.L).toArray,.agg #[.int .i64 c,vp,.int .i64 cost,vk]])/\Kn w' sn P K T/\dI w' 0 vp path/\bF w' 0 vk keys/\xk w.heap.size w w'
theorem Rh:(Tryz.prog.info? 40).map (·.size)=some 4:=by kernel_rfl
theorem IQ{tmps:Array rU}{W:qL}{R q:Nat}{D:Nat->Bool}{P K T:Nat->rU}{L:Nat->Nat->Int}{c0 c1 c2 b:rU}(e:tmps.getD 4 oC= .pointer (some ⟨R,0,none⟩))(d:tmps.getD 5 oC= .pointer (some ⟨q,0,none⟩))
  (i:bV W R D P K T L)(h:W.heap[q]? =some (.cells #[c0,c1,c2,b] 40)):
  (results OI tmps).run xn W= .ok (.tuple #[.agg (ax D P K T L).toArray,.agg #[c0,c1,c2,b]]) W:=by
 have hl:=aag (P:=xn) W R 0 34 (ax D P K T L) _ i.all OO rfl (by rw [bH];exact fD);obtain⟨⟨z0,f,z2,z3⟩,_,_⟩:=aS h;have g:W.rangeAt q 0 [c0,c1,c2,b]:=by
  intro j v a;match j,a with
  |0,a=>simp at a;subst a;exact z0
  |1,a=>simp at a;subst a;exact f
  |2,a=>simp at a;subst a;exact z2
  |3,a=>simp at a;subst a;exact z3
  |j+4,a=>simp at a
 have c:=aag (P:=xn) W q 0 40 [c0,c1,c2,b] _ g Tryz.underlying40 rfl Rh;rw [Tf]at e d;simp only [results,Tryz.results47];simp [e,d,asAddr,hl,c]
structure Tv(w W:qL)(sn:Pl.Nt)(P K T:Nat->rU)(c:Int)(path:List Int)(co:Int)(keys:List ByteArray)(vp vk:rU):Prop where
 net:bV W w.heap.size sn.D P K T sn.L
 kn:Kn W sn P K T
 room:∃g,aj W (w.heap.size+1+1) 34 192 g
 nM:∃d0 d1 d2 d3,W.heap[w.heap.size+1+1+1]? =some (.cells #[d0,d1,d2,d3] 40)
 gV:W.heap[w.heap.size+1+1+1+1]? =some (.cells #[.int .i64 c,vp,.int .i64 co,vk] 40)
 op:dI W 0 vp path
 ok:bF W 0 vk keys
 low:xk w.heap.size w W
theorem WH{w W i:qL}{sn:Pl.Nt}{P K T:Nat->rU}{c:Int}{path:List Int}{co:Int}{keys:List ByteArray}{vp vk:rU}(h:Tv w W sn P K T c path co keys vp vk)(b:oM (w.heap.size+1+1) (w.heap.size+1+1+1) W i):
  Ap w c path co keys sn (.returned (.tuple #[.agg (ax sn.D P K T sn.L).toArray,.agg #[.int .i64 c,vp,.int .i64 co,vk]])) i:=by
 obtain⟨g,f⟩:=h.room;obtain⟨d0,d1,d2,d3,d⟩:=h.nM;have a:=f;unfold aj at a;refine⟨P,K,T,vp,vk,rfl,h.kn.ai3 b f d,jR h.op b ?_ ?_,jR h.ok b ?_ ?_,h.low.trans (b.below (by omega) (by omega) h.low.size)⟩
 ·intro cur m e;rw [a]at e;simp at e
 ·intro cur m e;rw [d]at e;simp at e
 ·intro cur m e;rw [a]at e;simp at e
 ·intro cur m e;rw [d]at e;simp at e
theorem dU{a:Tq}{w W b:qL}{sn:Pl.Nt}{P K T:Nat->rU}{c:Int}{path:List Int}{co:Int}{keys:List ByteArray}{vp vk:rU}(h:Tv w W sn P K T c path co keys vp vk)(f:oM (w.heap.size+1+1) (w.heap.size+1+1+1) W b)
    (g:bV b (w.heap.size+1+1) sn.D P K T sn.L) (d:b.heap[w.heap.size+1+1+1]? =some (.cells #[.int .i64 c,vp,.int .i64 co,vk] 40))
    (e:a.defers= []:=by rfl) (j:a.tmps.getD 4 oC= .pointer (some ⟨w.heap.size+1+1,0,none⟩):=by exact J3 (by omega) rfl) (i:a.tmps.getD 5 oC= .pointer (some ⟨w.heap.size+1+1+1,0,none⟩):=by exact J3 (by omega) rfl):
    bodyPost xn OI (Ap w c path co keys sn) .ret a b:=GX (IQ j i g d) e (WH h f)
theorem Tv.no{w W b:qL}{s:Pl.Nt}{P K T:Nat->rU}{x:Pl.Ac}{c:Int}(h:IC w W s P K T x)(hK:Kn w s P K T)(a:aI (w.heap.size+1+1+1+1) W b)(hc:b.heap[w.heap.size+1+1+1+1]? =some (.cells #[.int .i64 c,.slice none 0 0,.int .i64 0,.slice none 0 0] 40)):
  Tv w b s P K T c [] 0 [] (.slice none 0 0) (.slice none 0 0):=by
 have d:=h.sz;have hl:xk w.heap.size w b:=h.low.trans (a.below (by omega) h.low.size);refine⟨aj.but h.net a (by omega),hK.below hl,?_,?_,hc,dI.nil _ _,bF.nil _ _,hl⟩
 ·obtain⟨g,q⟩:=h.room;exact⟨g,q.but a (by omega)⟩
 ·obtain⟨d0,d1,d2,d3,q⟩:=h.nM;exact⟨d0,d1,d2,d3,(a.block _ (by omega) (by omega)).trans q⟩
theorem Ia{w:qL}{X:Nat}{c0 c1 c2 a:rU}{T:MJ}(h:w.heap[X]? =some (.cells #[c0,c1,c2,a] T))(v:rU):(w.setCell ⟨X,0,none⟩ v).heap[X]? =some (.cells #[v,c1,c2,a] T):=by
 have:=aG h;simp [Ah,Eb,h]
theorem ZF{w:qL}{X:Nat}{c0 c1 c2 a:rU}{T:MJ}(h:w.heap[X]? =some (.cells #[c0,c1,c2,a] T))(v:rU):(w.setCell ⟨X,1,none⟩ v).heap[X]? =some (.cells #[c0,v,c2,a] T):=by
 have:=aG h;simp [Ah,Eb,h]
theorem ZE{w:qL}{X:Nat}{c0 c1 c2 a:rU}{T:MJ}(h:w.heap[X]? =some (.cells #[c0,c1,c2,a] T))(v:rU):(w.setCell ⟨X,2,none⟩ v).heap[X]? =some (.cells #[c0,c1,v,a] T):=by
 have:=aG h;simp [Ah,Eb,h]
theorem O8{w:qL}{X:Nat}{c0 c1 c2 a:rU}{T:MJ}(h:w.heap[X]? =some (.cells #[c0,c1,c2,a] T))(v:rU):(w.setCell ⟨X,3,none⟩ v).heap[X]? =some (.cells #[c0,c1,c2,v] T):=by
 have:=aG h;simp [Ah,Eb,h]
theorem J3{ts:Array rU}{s k:Nat}{xs:List rU}{v:rU}(a:k<s)(h:ts[k]?.getD oC=v):(setFrom ts s xs).getD k oC=v:=by
 rw [Tf,fH xs ts s k (by omega)];exact h
theorem Sv(s:Pl.Nt)(P K T:Nat->rU)(x:Pl.Ac)(w:qL)(hK:Kn w s P K T)(l:¬(1<=x.kind/\x.kind<=10)):
  Tn xn 47 #[.agg (ax s.D P K T s.L).toArray,.agg x.cells] w (Ap w 3 [] 0 [] s):=by
 obtain⟨k,h⟩:=aV (_);obtain⟨g,G⟩:=IC.new (w:=w) (s:=s) (P:=P) (K:=K) (T:=T) (x:=x) h.out;obtain⟨m0,m1,m2,m3,m4,m5,m6,m7,m8⟩:=g.nine;obtain⟨⟨z0,C,z2,z3⟩,A,z⟩:=aS g.gV;have o:=ae g;have y:=ae hK;have f:decide (1<=x.kind/\x.kind<=10)=false:=by simpa using l
 clear hK l g;obtain⟨kind,a,b,n,m,⟨p1,p2⟩,key,val⟩:=x;simp only at m0 m1 m2 m3 m4 m5 m6 m7 m8 f;unfold Pl.Ac.cells at h⊢;simp only at h⊢;go_enter Tryz.func47,Tryz.ntmps47;go_wp2_with fail;rw [<-show k=_ from h.out];refine(dZ kind 1 10 _).mono ?_;rw [f];rintro e w' ⟨rfl,d⟩;rw [d];clear d w';go_wp2_with fail;rename_i r H i;have j:aI (w.heap.size+1+1+1+1) k (k.setCell ⟨w.heap.size+1+1+1+1,0,none⟩ (.int .i64 3)):=(aI.refl _ _).setCell _ _;have c:=ae (Tv.no o.out y.out j (Ia o.out.gV _));refine ZQ (B:=w.heap.size) (O:=w.heap.size+1+1+1+1) (R:=w.heap.size+1+1) (q:=w.heap.size+1+1+1) rfl rfl rfl rfl rfl (by omega) (by omega) (by omega) (by omega) (by omega) c.out.net c.out.kn.one c.out.gV c.out.room c.out.nM ?_ _ (by kernel_rfl);intro F E v u p t;refine i _ v ?_;exact wp_ret (dU c.out t u p)
theorem F8{X:Nat}{w w':qL}{base:Nat}{e:MJ}{sz:Nat}{v:rU}{n:Nat}{xs:List rU}(h:w.ownsRow base e sz v n xs)(k:aI X w w')(b:∀cur m,w.heap[X]? ≠some (.cells cur e m)):w'.ownsRow base e sz v n xs:=by
 obtain⟨h0,a⟩:=h;refine⟨h0,?_⟩;rcases a with a|⟨g,cap,cur,rfl,d,hh,c⟩
 ·exact .inl a
 ·refine .inr ⟨g,cap,cur,rfl,d,(k.block g (aG hh) ?_).trans hh,c⟩;rintro rfl;exact b _ _ hh
def iG(w:qL)(R:Nat):Prop:=∀e,(e=49\/e=55\/e=80\/e=3\/e=9)->∀cur m,w.heap[R]? ≠some (.cells cur e m)
theorem iG.pls{w:qL}{R:Nat}{g:Nat->rU}(h:aj w R 34 192 g):iG w R:=fun e he cur m q=>by
 unfold aj at h;rw [h]at q;simp at q;rw [<-q.2.1]at he;revert he;decide
theorem iG.rp{w:qL}{R:Nat}{cs:Array rU}(h:w.heap[R]? =some (.cells cs 40)):iG w R:=fun e he cur m q=>by
 rw [h]at q;simp at q;rw [<-q.2.1]at he;revert he;decide
theorem bC{R:Nat}{w w':qL}{base:Nat}{e:MJ}{sz:Nat}{v:rU}{n:Nat}{xs:List rU}(h:w.ownsRow base e sz v n xs)(k:aI R w w')(a:iG w R)(he:e=49\/e=55\/e=80\/e=3\/e=9):w'.ownsRow base e sz v n xs:=
 F8 h k (a e he)
theorem Kn.no{R:Nat}{w w':qL}{s P K T}(h:Kn w s P K T)(k:aI R w w')(b:iG w R):Kn w' s P K T:=
 ⟨fun i a=>bC (h.1 i a) k b (.inl rfl),fun i a=>bC (h.2.1 i a) k b (.inr (.inl rfl)),fun i a=>by
  obtain⟨l,t1,t2,t3⟩:=h.2.2 i a;refine⟨l,bC t1 k b (.inr (.inr (.inl rfl))),t2,fun j m=> ?_⟩;obtain⟨g,f,e,d,c⟩:=t3 j m;exact⟨g,f,e,bC d k b (.inr (.inr (.inr (.inl rfl)))),c⟩⟩
structure St(w W:qL)(s:Pl.Nt)(P K T:Nat->rU)(x:Pl.Ac)(c:Int)(path:List Int)(co:Int)(keys:List ByteArray)(vp vk:rU):Prop where
 net:bV W w.heap.size s.D P K T s.L
 kn:Kn W s P K T
 act:W.heap[w.heap.size+1]? =some (.cells x.cells 51)
 room:∃g,aj W (w.heap.size+1+1) 34 192 g
 nM:∃d0 d1 d2 d3,W.heap[w.heap.size+1+1+1]? =some (.cells #[d0,d1,d2,d3] 40)
 gV:W.heap[w.heap.size+1+1+1+1]? =some (.cells #[.int .i64 c,vp,.int .i64 co,vk] 40)
 op:dI W 0 vp path
 ok:bF W 0 vk keys
 sz:w.heap.size+5<=W.heap.size
 low:xk w.heap.size w W
variable {w W W' : qL} {s sn : Pl.Nt} {P K T P' K' T' : Nat -> rU} {x : Pl.Ac} {c co c' co' : Int} {path path' : List Int} {keys keys' : List ByteArray} {vp vk vp' vk' : rU}
theorem St.of(h:IC w W s P K T x)(hK:Kn w s P K T):St w W s P K T x 0 [] 0 [] (.slice none 0 0) (.slice none 0 0):=
 ⟨h.net,hK.below h.low,h.act,h.room,h.nM,h.gV,dI.nil _ _,bF.nil _ _,h.sz,h.low⟩
theorem St.fin(h:St w W s P K T x c path co keys vp vk):Tv w W s P K T c path co keys vp vk:=⟨h.net,h.kn,h.room,h.nM,h.gV,h.op,h.ok,h.low⟩
theorem St.below(h:St w W s P K T x c path co keys vp vk)(k:xk W.heap.size W W'):St w W' s P K T x c path co keys vp vk:=by
 have a:=h.sz;refine⟨aj.below h.net k,h.kn.below k,(k.block _ (by omega)).trans h.act,?_,?_,(k.block _ (by omega)).trans h.gV,h.op.below k,bF.below h.ok k,OG a k.size,h.low.trans (k.mono h.low.size)⟩
 ·obtain⟨g,q⟩:=h.room;exact⟨g,q.below k⟩
 ·obtain⟨d0,d1,d2,d3,q⟩:=h.nM;exact⟨d0,d1,d2,d3,(k.block _ (by omega)).trans q⟩
theorem St.turn(h:St w W s P K T x c path co keys vp vk)(k:aI w.heap.size W W')(d:bV W' w.heap.size sn.D P' K' T' sn.L)(e:Kn W sn P' K' T'):St w W' sn P' K' T' x c path co keys vp vk:=by
 have b:=h.sz;have a:iG W w.heap.size:=iG.pls h.net;refine⟨d,e.no k a,(k.block _ (by omega) (by omega)).trans h.act,?_,?_,(k.block _ (by omega) (by omega)).trans h.gV,bC h.op k a (by decide),bC h.ok k a (by decide),OG b k.size,h.low.trans (k.below (qh _) h.low.size)⟩
 ·obtain⟨g,q⟩:=h.room;exact⟨g,q.but k (by omega)⟩
 ·obtain⟨d0,d1,d2,d3,q⟩:=h.nM;exact⟨d0,d1,d2,d3,(k.block _ (by omega) (by omega)).trans q⟩
theorem St.ql(h:St w W s P K T x c path co keys vp vk)(k:aI (w.heap.size+1+1+1+1) W W')(d:W'.heap[w.heap.size+1+1+1+1]? =some (.cells #[.int .i64 c',vp',.int .i64 co',vk'] 40))(e:dI W 0 vp' path')(f:bF W 0 vk' keys'):St w W' s P K T x c' path' co' keys' vp' vk':=by
 have b:=h.sz;have a:iG W (w.heap.size+1+1+1+1):=iG.rp h.gV;refine⟨aj.but h.net k (by omega),h.kn.no k a,(k.block _ (by omega) (by omega)).trans h.act,?_,?_,d,bC e k a (by decide),bC f k a (by decide),OG b k.size,h.low.trans (k.below (by omega) h.low.size)⟩
 ·obtain⟨g,q⟩:=h.room;exact⟨g,q.but k (by omega)⟩
 ·obtain⟨d0,d1,d2,d3,q⟩:=h.nM;exact⟨d0,d1,d2,d3,(k.block _ (by omega) (by omega)).trans q⟩
theorem St.dV(h:St w W s P K T x c path co keys vp vk)(c':Int):St w (W.setCell ⟨w.heap.size+1+1+1+1,0,none⟩ (.int .i64 c')) s P K T x c' path co keys vp vk:=h.ql ((aI.refl _ _).setCell _ _) (Ia h.gV _) h.op h.ok
theorem St.uH(h:St w W s P K T x c path co keys vp vk)(a:bF W 0 vk' keys'):St w (W.setCell ⟨w.heap.size+1+1+1+1,3,none⟩ vk') s P K T x c path co keys' vp vk':=h.ql ((aI.refl _ _).setCell _ _) (O8 h.gV _) h.op a
theorem St.xU(h:St w W s P K T x c path co keys vp vk)(c':Int):St w (W.setCell ⟨w.heap.size+1+1+1+1,2,none⟩ (.int .i64 c')) s P K T x c path c' keys vp vk:=h.ql ((aI.refl _ _).setCell _ _) (ZE h.gV _) h.op h.ok
theorem St.setPath(h:St w W s P K T x c path co keys vp vk)(a:dI W 0 vp' path'):St w (W.setCell ⟨w.heap.size+1+1+1+1,1,none⟩ vp') s P K T x c path' co keys vp' vk:=h.ql ((aI.refl _ _).setCell _ _) (ZF h.gV _) a h.ok
theorem St.adl(h:St w W s P K T x c path co keys vp vk)(a:Nat)(v:Bool):St w (W.setCell ⟨w.heap.size,a*16+1,none⟩ (.bool v)) {s with D:=cZ s.D a v} P K T x c path co keys vp vk:=h.turn (sn:={s with D:=cZ s.D a v}) ((aI.refl _ _).setCell _ _) (h.net.adl a v) (h.kn.same rfl rfl rfl)
theorem St.qN(h:St w W s P K T x c path co keys vp vk)(a b:Nat)(d:b<12)(v:Int):St w (W.setCell ⟨w.heap.size,a*16+4+b,none⟩ (.int .i64 v)) {s with L:=cZ s.L a (cZ (s.L a) b v)} P K T x c path co keys vp vk:=h.turn (sn:={s with L:=cZ s.L a (cZ (s.L a) b v)}) ((aI.refl _ _).setCell _ _) (h.net.qN a b d v) (h.kn.same rfl rfl rfl)
theorem St.CY(h:St w W s P K T x c path co keys vp vk)(a:Nat){v:rU}{es:List aK}(b:Own W 0 v es):St w (W.setCell ⟨w.heap.size,a*16,none⟩ v) {s with K:=cZ s.K a es} P (cZ K a v) T x c path co keys vp vk:=h.turn (sn:={s with K:=cZ s.K a es}) ((aI.refl _ _).setCell _ _) (h.net.CY a v) (h.kn.CY a b)
theorem St.KJ(h:St w W s P K T x c path co keys vp vk)(a:Nat){v:rU}{ps:List (Int×Int)}(b:bJ W 0 v ps):St w (W.setCell ⟨w.heap.size,a*16+2,none⟩ v) {s with P:=cZ s.P a ps} (cZ P a v) K T x c path co keys vp vk:=h.turn (sn:={s with P:=cZ s.P a ps}) ((aI.refl _ _).setCell _ _) (h.net.KJ a v) (h.kn.KJ a b)
theorem St.Qv(h:St w W s P K T x c path co keys vp vk)(a:Nat){v:rU}{rs:List Pl.Rt}(d:∃b,dG W 0 v b rs):St w (W.setCell ⟨w.heap.size,a*16+3,none⟩ v) {s with T:=cZ s.T a rs} P K (cZ T a v) x c path co keys vp vk:=h.turn (sn:={s with T:=cZ s.T a rs}) ((aI.refl _ _).setCell _ _) (h.net.Qv a v) (h.kn.Qv a d)
theorem St.as{t:Pl.Nt}(h:St w W s P K T x c path co keys vp vk)(e:s=t):St w W t P K T x c path co keys vp vk:=e▸h
theorem St.Ov(h:St w W s P K T x c path co keys vp vk){v:rU}{es:List aK}(a:Own W 0 v es)(o:Nat)(u:rU):Own (W.setCell ⟨w.heap.size+1+1+1+1,o,none⟩ u) 0 v es:=bC a ((aI.refl _ _).setCell _ _) (iG.rp h.gV) (by decide)
theorem St.afz(h:St w W s P K T x c path co keys vp vk){v:rU}{rs:List Pl.Rt}(l:∃a,dG W 0 v a rs)(o:Nat)(u:rU):∃a,dG (W.setCell ⟨w.heap.size+1+1+1+1,o,none⟩ u) 0 v a rs:=by
 have b:=iG.rp h.gV;have d:aI (w.heap.size+1+1+1+1) W (W.setCell ⟨w.heap.size+1+1+1+1,o,none⟩ u):=(aI.refl _ _).setCell _ _;obtain⟨a,t1,t2,t3⟩:=l;refine⟨a,bC t1 d b (by decide),t2,fun j m=> ?_⟩;obtain⟨k,i,g,f,e⟩:=t3 j m;exact⟨k,i,g,bC f d b (by decide),e⟩
theorem St.YM(h:St w W s P K T x c path co keys vp vk){v:rU}{ps:List (Int×Int)}(a:bJ W 0 v ps)(o:Nat)(u:rU):bJ (W.setCell ⟨w.heap.size+1+1+1+1,o,none⟩ u) 0 v ps:=bC a ((aI.refl _ _).setCell _ _) (iG.rp h.gV) (by decide)
theorem St.YL(h:St w W s P K T x c path co keys vp vk){v:rU}{a:List ByteArray}(b:bF W 0 v a)(o:Nat)(u:rU):bF (W.setCell ⟨w.heap.size,o,none⟩ u) 0 v a:=bC b ((aI.refl _ _).setCell _ _) (iG.pls h.net) (by decide)
theorem St.bytes(h:St w W s P K T x c [] co [] (.slice none 0 0) (.slice none 0 0))(hK:Kn w s P K T){g k:Nat}{v:rU}(e:w.heap.size+5<=g):St w (W.setCell ⟨g,k,none⟩ v) s P K T x c [] co [] (.slice none 0 0) (.slice none 0 0):=by
 have b:=h.sz;have a:aI g W (W.setCell ⟨g,k,none⟩ v):=(aI.refl _ _).setCell _ _;have hl:xk w.heap.size w (W.setCell ⟨g,k,none⟩ v):=h.low.trans (a.below (by omega) h.low.size);refine⟨aj.but h.net a (by omega),hK.below hl,(a.block _ (by omega) (by omega)).trans h.act,?_,?_,(a.block _ (by omega) (by omega)).trans h.gV,dI.nil _ _,bF.nil _ _,by simpa using b,hl⟩
 ·obtain⟨d,q⟩:=h.room;exact⟨d,q.but a (by omega)⟩
 ·obtain⟨d0,d1,d2,d3,q⟩:=h.nM;exact⟨d0,d1,d2,d3,(a.block _ (by omega) (by omega)).trans q⟩
theorem aU.vG{t:MJ}{w:qL}{base:Nat}{a:Option Addr}{n c:Nat}{ps:List (Int×Int)}(h:aU t w base (.slice a n c) ps)(b:∀p∈ps,dJ p):di w a n c ps:=by
 obtain⟨i,c',e,hp,-⟩:=h.shape b;injection e with g f d
 subst g;subst f;subst d;exact hp
theorem Own.LP{w:qL}{base:Nat}{a:Option Addr}{n c:Nat}{es:List aK}(h:Own w base (.slice a n c) es)(b:∀e∈es,e.ok):bI w a n c es/\(a=none->c=0):=by
 obtain⟨j,c',e,hp,d,-⟩:=h.shape b;injection e with i g f
 subst i;subst g;subst f;exact⟨hp,d⟩
theorem bV.yB{w B D P K T L}(h:bV w B D P K T L)(a:Nat)(ha:a<12):w.cell? ⟨B,a*16+1,none⟩=some (.bool (D a)):=by
 rw [aj.cell h _ (by omega),aft]
theorem bV.jh{w B D P K T L}(h:bV w B D P K T L)(a:Nat)(ha:a<12):w.cell? ⟨B,a*16+2,none⟩=some (P a):=by
 rw [aj.cell h _ (by omega),afq]
theorem Px(s:Pl.Nt)(P K T:Nat->rU)(x:Pl.Ac)(w:qL)(hK:Kn w s P K T)(J:x.kind=3)(ha:0<=x.a/\x.a<=11)(c:Int)(sn:Pl.Nt)(hc:oG x=c)(i:{s with D:=sQ s.D x}=sn):
  Tn xn 47 #[.agg (ax s.D P K T s.L).toArray,.agg x.cells] w (Ap w c [] 0 [] sn):=by
 obtain⟨q,v⟩:=aV (_);obtain⟨u,I⟩:=IC.new (w:=w) (s:=s) (P:=P) (K:=K) (T:=T) (x:=x) v.out;obtain⟨kind,G,b,n,m,⟨p1,p2⟩,key,val⟩:=x;simp only at J ha hc i⊢;subst J;obtain⟨a,rfl⟩:∃k:Nat,G=k:=⟨G.toNat,by omega⟩
 have t:a<12:=by omega
 have aw:(a:Int)<12:=by omega
 have ad:=ae I;have aa:w.heap.size<q.heap.size:=by omega
 have av:w.heap.size+1<q.heap.size:=by omega
 have ak:w.heap.size+1+1+1+1<q.heap.size:=by omega
 obtain⟨m0,m1,m2,m3,m4,m5,m6,m7,m8⟩:=u.nine;have iO:=ae (u.net.place a t);obtain⟨W6,H⟩:=aV ((q.alloc (.cells #[.slice none 0 0,.bool false,.slice none 0 0,.slice none 0 0,.int .i64 0,.int .i64 0,.int .i64 0,.int .i64 0,.int .i64 0,.int .i64 0,.int .i64 0,.int .i64 0,.int .i64 0,.int .i64 0,.int .i64 0,.int .i64 0] 33)).setCells q.heap.size 0 (bP (s.D a) (P a) (K a) (T a) (s.L a)));obtain⟨p,r,E8,h⟩:=sH u rfl H.out;rw [<-aP (s.D a) (P a) (K a) (T a) (s.L a)]at h;have O:=ae h;have f:=ae (St.of p hK);have Ec:=ae r;have S:=ae (zk (D:=s.D a) (L:=s.L a) (hK.XP a t) (hK.XQ a t) (hK.XO a t));obtain⟨k0,k1,k2,Z,Y,X,W,V,U⟩:=p.nine;have JX:=f.out.net.lt;have an:=f.out.net.soft;obtain⟨⟨z0,z1,z2,z3⟩,zf,zl⟩:=aS f.out.gV;have aq:w.heap.size+1<W6.heap.size:=by omega
 simp only at m0 m1 m2 m3 m4 m5 m6 m7 m8 k0 k1 k2 Z Y X W V U;unfold Pl.Ac.cells at v⊢;simp only at v⊢;clear I u p r h;go_enter Tryz.func47,Tryz.ntmps47;go_wp2_with fail;rw [<-show q=_ from v.out];refine(kW _ 1 10 _ (by omega)).mono ?_;rintro e w' ⟨rfl,d⟩;rw [d];clear d w';go_wp2_with (first
  |(go_at_call 74;refine(dK _ _).mono ?_;rw [zx ha];rintro e w' ⟨rfl,d⟩;rw [d];clear d w')
  |refine wpList_load_mid rfl 33 (.tmp 51) rfl w.heap.size (a*16) rfl (bP (s.D a) (P a) (K a) (T a) (s.L a)) _ iO.out Tryz.underlying33 rfl (by rw [aP];exact gq) ?_
  |refine aX rfl 33 (.tmp 7) (.tmp 52) rfl q.heap.size 0 (bP (s.D a) (P a) (K a) (T a) (s.L a)) rfl rfl O.out (by rw [aP];exact gq) S.out H.out ?_)
 have N:=ae hc;have M:=ae i;have ar:=f.out.net.yB a t;clear hc i;by_cases l:n=0\/n=1
 ·have E:c=0:=by rw [<-N.out];unfold oG;rw [af l]
  have C:sn={s with D:=cZ s.D a (n==1)}:=by rw [<-M.out];unfold sQ oG;rw [af l,af rfl];rfl
  have j:decide (0<=n/\n<=1)=true:=by simp;omega
  subst E;subst C;clear l;refine(dZ n 0 1 _).mono ?_;rw [j];rintro e w' ⟨rfl,d⟩;rw [d];clear d w';go_wp2_with fail;have g:=ae (f.out.adl a (n==1)).fin;rename_i K1 o;refine bY (w:=w) rfl rfl rfl rfl rfl g.out.net g.out.kn.one g.out.gV g.out.room g.out.nM ?_ _ (by kernel_rfl);intro R Q F B y A;refine o _ F ?_;exact wp_ret (dU g.out A B y)
 ·have z:¬(n=0\/n=1):=l;have E:c=2:=by rw [<-N.out];unfold oG;rw [ag l]
  have C:sn=s:=by rw [<-M.out];unfold sQ oG;rw [ag l,ag (by decide)]
  have j:decide (0<=n/\n<=1)=false:=by simp;omega
  subst E;subst C;clear l z;refine(dZ n 0 1 _).mono ?_;rw [j];rintro e w' ⟨rfl,d⟩;rw [d];clear d w';go_wp2_with fail;have g:=ae (f.out.dV 2).fin;rename_i K1 o;refine bY (w:=w) rfl rfl rfl rfl rfl g.out.net g.out.kn.one g.out.gV g.out.room g.out.nM ?_ _ (by kernel_rfl);intro R Q F B y A;refine o _ F ?_;exact wp_ret (dU g.out A B y)
theorem qK(a:Option Addr)(len cap:Nat)(es:List aK)(n:Nat)(w:qL)(h:bI w a len cap es)(h0:Pl.fault es=0)(T:n<=1000):
  Tn xn 135 #[.slice a len cap,.int .i64 (n:Int)] w fun e w'=>∃vl:rU,e= .returned vl/\
   aU 49 w' w.heap.size vl (Pl.tP es n)/\xk w.heap.size w w':=by
 have m:=ae h;clear h;have l:(iT es (aW n)).val.size<=120:=BH _ _;obtain⟨g1,g2,g3⟩:=jm h0;have hlen:es.length=len:=m.out.1;have Q:len<=60:=by omega
 have S:BG (MV es):=g3;clear g1 g2 g3;have J:=ae (nC n w (by omega));obtain⟨r,j⟩:=ai (aW n);have I:BG (r=⟨#[112,58]⟩++Pl.dec n):=ae j.out.symm;have F:BG (iT es (aW n)=(if Pl.there es r then eF es (Pl.pos es r)else aK.none)):=ae (by
  unfold iT;rw [h0,af rfl,j.out])
 have f:BG (Pl.tP es n=Ej (iT es (aW n)).val.data.toList):=ae rfl;have g:=ae (fun w' (O:xk w.heap.size w w')=>fK a len cap es r w' (m.out.below O));rw [jJ S.out]at g;rw [F.out]at f l;rw [I.out]at g f l;clear I j F;have M:=jK n (by omega) (by omega);generalize Pl.dec (n:Int)=E at*;obtain⟨t,G⟩:=ai (Pl.there es (⟨#[112,58]⟩++E));obtain⟨p,H⟩:=ai (Pl.pos es (⟨#[112,58]⟩++E));rw [G.out,H.out]at g f l
 cases t
 ·have z:BG (Pl.tP es n= []):=ae (by rw [f.out];show Ej aK.none.val.data.toList= [];decide);simp only [UX,↓reduceIte]at g;rw [z.out];clear l;go_enter Tryz.func135,Tryz.ntmps135;go_wp2_with fail;refine J.out.mono ?_;rintro e q ⟨rfl,c⟩;go_wp2_with fail;refine(g.out q c).mono ?_;rintro e s ⟨rfl,d⟩;rw [d];clear d s;go_wp2_with fail;go_ret;exact⟨_,rfl,aU.nil _ _ _,c⟩
 ·have P:p<len:=by
   have:=G.out;unfold Pl.there at this;simp only [Pe,ik]at this;have:=H.out;omega
  have z:BG (Pl.tP es n=Ej (eF es p).val.data.toList):=ae f.out;simp only [↓reduceIte]at g l;rw [z.out];obtain⟨b,off,rfl,v,B⟩:∃b off,a=some ⟨b,off,none⟩/\b<w.heap.size/\dN w b off es:=by
   rcases m.out.2.2.2.2 with h|h
   ·rw [h]at hlen;simp at hlen;omega
   ·exact h
  have D:=m.out.2.1;have hm:=m.out.2.2.1;unfold SN at hm;have R:=ae B;clear B;obtain⟨y,o⟩:=ai ((eF es p).val);rw [o.out]at l⊢;obtain⟨rc,K⟩:=ai (NJ y.data.toList);obtain⟨rs,A⟩:=ai (Ej y.data.toList);rw [A.out];have i:=ae hlen;clear hlen;go_enter Tryz.func135,Tryz.ntmps135;go_wp2_with fail;refine J.out.mono ?_;rintro e q ⟨rfl,c⟩;have k:=ae c;go_wp2_with fail;refine(g.out q c).mono ?_;rintro e s ⟨rfl,d⟩;rw [d];clear d s;obtain⟨_,_,_,L⟩:=R.out.below v c p (by rw [i.out];omega);rw [o.out]at L;have C:(p:Int)<(len:Int):=by omega
  have N:b<q.heap.size:=by have:=c.size;omega
  clear c;go_wp2_with fail;refine(Ip y _ (by omega)).mono ?_;rw [K.out,A.out];rintro e w3 ⟨v3,rfl,u,x⟩;go_wp2_with fail;go_ret;exact⟨v3,rfl,u.mono k.out.size,k.out.trans (x.mono k.out.size)⟩
theorem OQ(a:Option Addr)(len cap:Nat)(xs:List Int)(n:Int)(w:qL)(h:fV w a len cap xs):
  Tn xn 136 #[.slice a len cap,.int .i64 n] w fun e w'=>e= .returned (.bool (decide (n∈xs)))/\xk w.heap.size w w':=by
 have B:=ae h;have o:BG (xs.length=len):=ae h.1;have hc:=h.2.1;have hm:=h.2.2.1;unfold SN at hm;clear h;obtain⟨R,l⟩:=ai (decide (n∈xs));rw [l.out];go_enter Tryz.func136,Tryz.ntmps136;go_wp2_with fail;go_loopw [5] (fun i wr=>∃k:Nat,k<=len/\i= .int .i64 k/\BG (∀t,t<k->¬Pl.nm xs t=n)/\BG (xk w.heap.size w wr)) (fun i _=>len-(Ee i).toNat)
 case atStart=>exact⟨0,PW _,rfl,ae (fun t h=>by omega),ae (xx _ _)⟩
 case round=>
  obtain⟨k,E,rfl,v,d⟩:=hrel;by_cases c:k<len
  ·obtain⟨b,off,rfl,u,q⟩:=B.out.at c;have c0:=(d.out.cell (p:=⟨b,off+k,none⟩) u).trans (q k (by rw [o.out];exact c));have z:b<wr.heap.size:=Qd u d.out.size;have r:(k:Int)<(len:Int):=by omega
   have C:=ae (vH xs k (by rw [o.out];exact c));obtain⟨y,f⟩:=ai (Pl.nm xs k);rw [f.out]at c0;clear q;by_cases e:y=n
   ·have j:BG (R=true):=ae (by rw [<-l.out];exact zx (by rw [<-e,<-f.out,C.out];exact Xh _));have A:(y==n)=true:=by simpa using e
    clear e;go_wp2_with fail;go_ret;exact⟨by rw [j.out];rfl,d.out⟩
   ·have A:(y==n)=false:=by simpa using e
    have m:BG (∀t,t<k+1->¬Pl.nm xs t=n):=ae fun t D=>by
     rcases xh t k with g|g
     ·exact v.out t g
     ·rw [show t=k by omega,f.out];exact e
    clear e;go_wp2_with fail;go_roundw
    case rel=>exact⟨k+1,by omega,by go_num,m,d⟩
    case measure=>simp [Ee];omega
  ·obtain rfl:k=len:=by omega
   have x:BG (R=false):=ae (by
    rw [<-l.out];refine Fb fun hm=> ?_;obtain⟨i,s,e⟩:=List.getElem_of_mem hm;exact v.out i (by rw [<-o.out];exact s) (by rw [vH xs i s];exact e))
   go_wp2_with fail;go_ret;exact⟨by rw [x.out];rfl,d.out⟩
theorem Pl.G7{C H P node}(q:Int×Int):∀k,(qQ C H P node q k=none/\∀n,n<k->C n<0\/¬q∈P n)\/(∃a,qQ C H P node q k=some a/\(∃n,n<k/\0<=C n/\q∈P n/\a.cost=C n)/\∀n,n<k->0<=C n->q∈P n->a.cost<=C n)
 |0=> .inl ⟨rfl,fun n h=>by omega⟩
 |k+1=>by
  have s:=G7 (C:=C) (H:=H) (P:=P) (node:=node) q k;by_cases g:C k<0\/¬q∈P k
  ·have e:qQ C H P node q (k+1)=qQ C H P node q k:=by show(if _ then _ else _)=_;rw [af g]
   rw [e];rcases s with⟨f,r⟩|⟨a,f,⟨n,t,o,l,j⟩,i⟩
   ·refine .inl ⟨f,fun n v=> ?_⟩;rcases xh n k with c|c
    ·exact r n c
    ·rw [show n=k by omega];exact g
   ·refine .inr ⟨a,f,⟨n,by omega,o,l,j⟩,fun m hm b d=> ?_⟩;rcases xh m k with c|c
    ·exact i m c b d
    ·rw [show m=k by omega]at b d;rcases g with g|g
     ·omega
     ·exact absurd d g
  ·have g1:0<=C k:=by omega
   have g2:q∈P k:=Rz fun h=>g (.inr h);have e:qQ C H P node q (k+1)=some (Pl.more (qQ C H P node q k) (Ep C H node k q)):=by show(if _ then _ else _)=_;rw [ag g]
   right;refine⟨_,e,?_⟩;rcases s with⟨f,r⟩|⟨a,f,⟨n,t,o,l,j⟩,i⟩
   ·rw [f];refine⟨⟨k,by omega,g1,g2,rfl⟩,fun m hm b d=> ?_⟩;show C k<=C m;rcases xh m k with c|c
    ·rcases r m c with h|h
     ·omega
     ·exact absurd d h
    ·rw [show m=k by omega];exact UQ _
   ·rw [f];have u:(iY a (Ep C H node k q)).cost=if C k<a.cost then C k else a.cost:=by
     have e:(Ep C H node k q).cost=C k:=rfl;unfold iY;rw [e];by_cases hh:C k<a.cost
     ·rw [af hh,af hh];rfl
     ·rw [ag hh,ag hh];split<;>rfl
    show(∃n,_/\_/\_/\(iY a (Ep C H node k q)).cost=C n)/\∀n,_->_->_->(iY a (Ep C H node k q)).cost<=C n;rw [u];split
    ·rename_i p;refine⟨⟨k,by omega,g1,g2,rfl⟩,fun m hm b d=> ?_⟩;rcases xh m k with c|c
     ·have:=i m c b d;omega
     ·rw [show m=k by omega];exact UQ _
    ·rename_i p;refine⟨⟨n,by omega,o,l,j⟩,fun m hm b d=> ?_⟩;rcases xh m k with c|c
     ·exact i m c b d
     ·rw [show m=k by omega];omega
def Pl.rMin(C:Nat->Int)(P:Nat->List (Int×Int))(node:Nat)(p:Int×Int):Nat->Int
 |0=> -1
 |k+1=>if k≠node/\0<=C k/\p∈P k/\(Pl.rMin C P node p k<0\/C k<Pl.rMin C P node p k)then C k else Pl.rMin C P node p k
def Pl.kM(C:Nat->Int)(H:Nat->List Int)(P:Nat->List (Int×Int))(node:Nat)(p:Int×Int)(c h:Int):Nat->Bool
 |0=>false
 |k+1=>kM C H P node p c h k||(decide (k≠node)&&decide (C k=c)&&decide (p∈P k)&&decide (h∈H k))
def Pl.rRt(C:Nat->Int)(H:Nat->List Int)(P:Nat->List (Int×Int))(node:Nat)(p:Int×Int):Option Pl.Rt:=
 if p∈P node then some ⟨p,true,0,[]⟩
 else if Pl.rMin C P node p 12<0 then none
 else some ⟨p,false,Pl.rMin C P node p 12,Pl.hopsL (fun h=>kM C H P node p (Pl.rMin C P node p 12) (h:Int) 12) 12⟩
theorem Pl.Dk(C P node p):∀k,(Pl.rMin C P node p k= -1/\∀n,n<k->¬(n≠node/\0<=C n/\p∈P n))\/(0<=Pl.rMin C P node p k/\(∃n,n<k/\n≠node/\0<=C n/\p∈P n/\C n=Pl.rMin C P node p k)/\∀n,n<k->n≠node->0<=C n->p∈P n->Pl.rMin C P node p k<=C n)
 |0=> .inl ⟨rfl,fun n h=>by omega⟩
 |k+1=>by
  have i:=Dk C P node p k;have e:Pl.rMin C P node p (k+1)=if k≠node/\0<=C k/\p∈P k/\(Pl.rMin C P node p k<0\/C k<Pl.rMin C P node p k)then C k else Pl.rMin C P node p k:=rfl;generalize Pl.rMin C P node p k=m at*;rw [e];clear e;by_cases g:k≠node/\0<=C k/\p∈P k
  ·by_cases g2:m<0\/C k<m
   ·rw [af ⟨g.1,g.2.1,g.2.2,g2⟩];right;refine⟨g.2.1,⟨k,by omega,g.1,g.2.1,g.2.2,rfl⟩,fun n j c b a=> ?_⟩;rcases xh n k with q|q
    ·rcases i with⟨_,i2⟩|⟨i1,_,i3⟩
     ·exact absurd ⟨c,b,a⟩ (i2 n q)
     ·have:=i3 n q c b a;omega
    ·rw [show n=k by omega];exact UQ _
   ·rw [ag (fun h=>g2 h.2.2.2)];rcases i with⟨i1,_⟩|⟨i1,⟨n,l,f⟩,i3⟩
    ·omega
    ·right;refine⟨i1,⟨n,by omega,f⟩,fun d j c b a=> ?_⟩;rcases xh d k with q|q
     ·exact i3 d q c b a
     ·rw [show d=k by omega];omega
  ·rw [ag (fun h=>g ⟨h.1,h.2.1,h.2.2.1⟩)];rcases i with⟨i1,i2⟩|⟨i1,⟨n,l,f⟩,i3⟩
   ·refine .inl ⟨i1,fun n j=> ?_⟩;rcases xh n k with q|q
    ·exact i2 n q
    ·rw [show n=k by omega];exact g
   ·refine .inr ⟨i1,⟨n,by omega,f⟩,fun d j c b a=> ?_⟩;rcases xh d k with q|q
    ·exact i3 d q c b a
    ·rw [show d=k by omega]at c b a;exact absurd ⟨c,b,a⟩ g
theorem Pl.zL(C H P node p c h):∀k,kM C H P node p c h k=true↔∃n,n<k/\n≠node/\C n=c/\p∈P n/\h∈H n
 |0=>by simp [kM]
 |k+1=>by
  unfold kM;simp only [Bool.or_eq_true,Pe,ik];rw [zL C H P node p c h k];constructor
  ·rintro(⟨n,f,a⟩|⟨⟨⟨f,a⟩,d⟩,b⟩)
   ·exact⟨n,by omega,a⟩
   ·exact⟨k,by omega,f,a,d,b⟩
  ·rintro⟨n,f,a,d,b,g⟩;rcases xh n k with q|q
   ·exact .inl ⟨n,q,a,d,b,g⟩
   ·have e:n=k:=by omega
    subst e;exact .inr ⟨⟨⟨a,d⟩,b⟩,g⟩
theorem Pl.G8{C H P node}(o:∀n,fP (H n)=true)(q:Int×Int):∀k a,qQ C H P node q k=some a->(∀x∈a.aH,0<=x/\x<=11)/\∀x,x∈a.aH↔∃n,n<k/\0<=C n/\q∈P n/\C n=a.cost/\x∈H n
 |0,a,e=>by cases e
 |k+1,a,e=>by
  have s:=G8 (C:=C) (P:=P) (node:=node) o q k;have f:=G7 (C:=C) (H:=H) (P:=P) (node:=node) q k;unfold qQ at e;split at e
  ·rename_i g;obtain⟨i1,i2⟩:=s a e;refine⟨i1,fun x=> ?_⟩;rw [i2];constructor
   ·rintro⟨n,m,c⟩;exact⟨n,by omega,c⟩
   ·rintro⟨n,m,c,i,l⟩;rcases xh n k with d|d
    ·exact⟨n,d,c,i,l⟩
    ·rw [show n=k by omega]at c i;rcases g with g|g
     ·omega
     ·exact absurd i g
  ·rename_i g;have g1:0<=C k:=by omega
   have g2:q∈P k:=Rz fun h=>g (.inr h)
   cases e
   cases p:qQ C H P node q k with
   |none=>
    rw [p]at f;have r:∀n,n<k->C n<0\/¬q∈P n:=by
     rcases f with⟨_,h⟩|⟨a,h,_⟩
     ·exact h
     ·cases h
    show(∀x∈H k,_)/\∀x,x∈H k↔∃n,n<k+1/\0<=C n/\q∈P n/\C n=C k/\x∈H n;refine⟨fO (o k),fun x=>⟨fun h=>⟨k,by omega,g1,g2,rfl,h⟩,?_⟩⟩;rintro⟨n,m,c,i,_,j⟩;rcases xh n k with d|d
    ·rcases r n d with h|h
     ·omega
     ·exact absurd i h
    ·rw [show n=k by omega]at j;exact j
   |some b=>
    obtain⟨i1,i2⟩:=s b p;rw [p]at f;have hle:∀n,n<k->0<=C n->q∈P n->b.cost<=C n:=by
     rcases f with⟨h,_⟩|⟨a,h,_,i⟩
     ·cases h
     ·cases h;exact i
    show(∀x∈(iY b (Ep C H node k q)).aH,_)/\∀x,x∈(iY b (Ep C H node k q)).aH↔∃n,n<k+1/\0<=C n/\q∈P n/\C n=(iY b (Ep C H node k q)).cost/\x∈H n;have u:(Ep C H node k q).cost=C k:=rfl;have t:(Ep C H node k q).aH=H k:=rfl;unfold iY;rw [u,t];by_cases c1:C k<b.cost
    ·rw [af c1,t,u];refine⟨fO (o k),fun x=>⟨fun h=>⟨k,by omega,g1,g2,rfl,h⟩,?_⟩⟩;rintro⟨n,m,c,i,l,j⟩;rcases xh n k with d|d
     ·have:=hle n d c i;omega
     ·rw [show n=k by omega]at j;exact j
    ·rw [ag c1];by_cases c2:C k=b.cost
     ·rw [af c2];refine⟨fun x v=> ?_,fun x=> ?_⟩
      ·rcases(yj i1 (fO (o k))).1 v with h|h
       ·exact i1 x h
       ·exact fO (o k) x h
      ·rw [show(x∈sW b.aH (H k))=(x∈b.aH\/x∈H k)from propext (yj i1 (fO (o k))),i2];constructor
       ·rintro(⟨n,m,c⟩|h)
        ·exact⟨n,by omega,c⟩
        ·exact⟨k,by omega,g1,g2,c2,h⟩
       ·rintro⟨n,m,c,i,l,j⟩;rcases xh n k with d|d
        ·exact .inl ⟨n,d,c,i,l,j⟩
        ·rw [show n=k by omega]at j;exact .inr j
     ·rw [ag c2];refine⟨i1,fun x=> ?_⟩;rw [i2];constructor
      ·rintro⟨n,m,c⟩;exact⟨n,by omega,c⟩
      ·rintro⟨n,m,c,i,l,j⟩;rcases xh n k with d|d
       ·exact⟨n,d,c,i,l,j⟩
       ·rw [show n=k by omega]at l;exact absurd l c2
theorem Pl.Y2{l:List Int}(h:fP l=true):l.Pairwise (·<·):=by
 rw [List.pairwise_iff_getElem];intro i j e b d;rw [<-vH l i e,<-vH l j b];induction j with
 |zero=>omega
 |succ m c=>
  have a:=nS h (m+1) b;rw [pU]at a;simp only [Pe,ik]at a;rcases xh i m with q|q
  ·have:=c (by omega) q;omega
  ·rw [show i=m by omega];exact a.2
theorem Pl.Yb(es:List aK){f:Nat}(i:f<12)(q:Int×Int):Pl.rRt (Pl.wC es f) (Pl.wH es f) (Pl.tP es) f q=qQ (Pl.wC es f) (Pl.wH es f) (Pl.tP es) f q 12:=by
 have D:∀n,fP (Pl.wH es f n)=true:=fun n=>Fa _ (qh _);have u:=TJ es i;have e:∀n,n≠f->0<=Pl.wC es f n->0<Pl.wC es f n:=fun n c m=>(Qn es i c m).1;unfold Pl.rRt;rcases G7 (C:=Pl.wC es f) (H:=Pl.wH es f) (P:=Pl.tP es) (node:=f) q 12 with⟨c,m⟩|⟨a,c,⟨n,A,r,p,G⟩,v⟩
 ·rw [c];rw [ag (fun h=>by rcases m f i with g|g;(omega);exact g h)];rcases Dk (Pl.wC es f) (Pl.tP es) f q 12 with⟨z,_⟩|⟨_,⟨n,t,I,B,s,_⟩,_⟩
  ·rw [z,af (by omega)]
  ·rcases m n t with g|g
   ·omega
   ·exact absurd s g
 ·obtain⟨ok,op⟩:=BJ (FB es i) q 12 (qh _) a c;obtain⟨K,hm⟩:=G8 D q 12 a c;obtain⟨b1,y⟩:=ok;rw [ja]at b1;rw [c];obtain⟨ap,ah,ac,al⟩:=a;simp only at op b1 y K hm G v;subst op;by_cases d:ap∈Pl.tP es f
  ·rw [af d];have c0:ac=0:=by have:=v f i (by omega) d;omega
   have o:ah=true:=by rw [y,c0];rfl
   have w:=b1.2.2.1;rw [o]at w;simp only [if_true]at w;rw [o,c0,w.2]
  ·rw [ag d];have b:n≠f:=by rintro rfl;exact d p
   rcases Dk (Pl.wC es f) (Pl.tP es) f ap 12 with⟨_,F⟩|⟨z,⟨k,t,I,B,s,M⟩,E⟩
   ·exact absurd ⟨b,r,p⟩ (F n A)
   ·have L:Pl.rMin (Pl.wC es f) (Pl.tP es) f ap 12=ac:=by
     have a1:=E n A b r p;have a2:=v k t B s;omega
    rw [L,ag (by omega)];have o:ah=false:=by
     have:=e n b r;rw [y];simp;omega
    rw [o];congr 2
    refine Qo (GU _ _) (Y2 b1.2.2.2) fun x=> ?_;rw [tV,hm];constructor
    ·rintro⟨j,N,rfl,J⟩;obtain⟨l,m1,m2,m3,m4,m5⟩:=(zL _ _ _ _ _ _ _ 12).1 J;exact⟨l,m1,by omega,m4,m3,m5⟩
    ·rintro⟨l,m1,m2,m3,m4,m5⟩;have O:=fO (D l) x m5;refine⟨x.toNat,by omega,by omega,?_⟩;rw [zL,show((x.toNat:Nat):Int)=x by omega];exact⟨l,m1,by rintro rfl;exact d m3,m4,m3,m5⟩
def Pl.rX(es:List aK)(f a b:Nat):List Pl.Rt:=if(a:Int)%Pl.span (b:Int)=0 then(Pl.rRt (Pl.wC es f) (Pl.wH es f) (Pl.tP es) f ((a:Int),(b:Int))).toList else []
def Pl.rB(es:List aK)(f a:Nat):Nat->List Pl.Rt
 |0=> []
 |k+1=>Pl.rB es f a k++Pl.rX es f a k
def Pl.rA(es:List aK)(f:Nat):Nat->List Pl.Rt
 |0=> []
 |k+1=>Pl.rA es f k++Pl.rB es f k 9
theorem Pl.QW{es:List aK}{f a b:Nat}(c:f<12){r:Pl.Rt}:r∈Pl.rX es f a b↔(a:Int)%Pl.span (b:Int)=0/\qQ (Pl.wC es f) (Pl.wH es f) (Pl.tP es) f ((a:Int),(b:Int)) 12=some r:=by
 unfold Pl.rX;rw [Yb es c];split
 ·rename_i h;simp [h,eq_comm]
 ·rename_i h;simp [h]
theorem Pl.aa3{es:List aK}{f a b:Nat}(c:f<12){r:Pl.Rt}(h:r∈Pl.rX es f a b):r.p=((a:Int),(b:Int)):=
 (BJ (FB es c) _ 12 (qh _) r ((QW c).1 h).2).2
theorem Pl.Dv{es:List aK}{f a:Nat}{r:Pl.Rt}:∀k,r∈Pl.rB es f a k↔∃b,b<k/\r∈Pl.rX es f a b
 |0=>by simp [Pl.rB]
 |k+1=>by
  unfold Pl.rB;rw [aab,Dv k];constructor
  ·rintro(⟨b,d,c⟩|h)
   ·exact⟨b,by omega,c⟩
   ·exact⟨k,by omega,h⟩
  ·rintro⟨b,d,c⟩;rcases xh b k with q|q
   ·exact .inl ⟨b,q,c⟩
   ·rw [show b=k by omega]at c;exact .inr c
theorem Pl.QX{es:List aK}{f:Nat}{r:Pl.Rt}:∀k,r∈Pl.rA es f k↔∃a,a<k/\r∈Pl.rB es f a 9
 |0=>by simp [Pl.rA]
 |k+1=>by
  unfold Pl.rA;rw [aab,QX k];constructor
  ·rintro(⟨b,d,c⟩|h)
   ·exact⟨b,by omega,c⟩
   ·exact⟨k,by omega,h⟩
  ·rintro⟨b,d,c⟩;rcases xh b k with q|q
   ·exact .inl ⟨b,q,c⟩
   ·rw [show b=k by omega]at c;exact .inr c
theorem Pl.adp(es:List aK)(f a b:Nat):eY (Pl.rX es f a b)/\(Pl.rX es f a b).length<=1:=by
 unfold Pl.rX;split
 ·cases Pl.rRt (Pl.wC es f) (Pl.wH es f) (Pl.tP es) f ((a:Int),(b:Int))with
  |none=>exact⟨Jk,by simp⟩
  |some r=>exact⟨List.pairwise_singleton _ _,by simp⟩
 ·exact⟨Jk,by simp⟩
theorem Pl.QH{es:List aK}{f:Nat}(d:f<12)(a:Nat):∀k,eY (Pl.rB es f a k)/\(Pl.rB es f a k).length<=k
 |0=>⟨Jk,by simp [Pl.rB]⟩
 |k+1=>by
  obtain⟨g,i⟩:=QH (es:=es) d a k;obtain⟨g1,g2⟩:=adp es f a k;unfold Pl.rB;refine⟨List.pairwise_append.2 ⟨g,g1,fun x c y e=> ?_⟩,by simp;omega⟩;obtain⟨b,h,c⟩:=(Dv k).1 c;rw [aa3 d c,aa3 d e,qw];right;exact⟨rfl,by show(b:Int)<(k:Int);omega⟩
theorem Pl.QI{es:List aK}{f:Nat}(e:f<12):∀k,eY (Pl.rA es f k)/\(Pl.rA es f k).length<=k*9
 |0=>⟨Jk,by simp [Pl.rA]⟩
 |k+1=>by
  obtain⟨h,i⟩:=QI (es:=es) e k;obtain⟨g1,g2⟩:=QH (es:=es) e k 9;unfold Pl.rA;refine⟨List.pairwise_append.2 ⟨h,g1,fun x d y g=> ?_⟩,by simp;omega⟩;obtain⟨a,ha,d⟩:=(QX k).1 d;obtain⟨b,_,d⟩:=(Dv 9).1 d;obtain⟨c,_,g⟩:=(Dv 9).1 g;rw [aa3 e d,aa3 e g,qw];left;show(a:Int)<(k:Int);omega
theorem Pl.XM{a b:List Pl.Rt}(ha:eY a)(e:eY b)(h:∀r,r∈a↔r∈b):a=b:=by
 refine FI ha e fun q=> ?_
 cases f:Pl.getR a q with
 |some r=>
  obtain⟨d,c⟩:=lC f;rw [<-c];exact(lT e ((h r).1 d)).symm
 |none=>
  cases g:Pl.getR b q with
  |none=>rfl
  |some r=>
   obtain⟨d,c⟩:=lC g;have:=lT ha ((h r).2 d);rw [c,f]at this
   cases this
theorem Pl.adr(es:List aK){f:Nat}(c:f<12):Pl.rA es f 256=wz es f:=by
 have d:=(Jw es c).1;refine XM (QI c 256).1 d.2.2 fun r=> ?_;rw [QX];constructor
 ·rintro⟨a,ha,h⟩;obtain⟨b,l,h⟩:=(Dv 9).1 h;obtain⟨_,i⟩:=(QW c).1 h;rw [<-Nv]at i;exact(lC i).1
 ·intro h;have j:=lT d.2.2 h;rw [Nv]at j;have g:=(ja r).1 (d.2.1 r h);have k:=gm g.1;have hm:r.p.1%Pl.span r.p.2=0:=by
   have:=g.1;unfold iH at this;split at this
   ·split at this
    ·assumption
    ·cases this
   ·cases this
  have e:r.p=((r.p.1.toNat:Int),(r.p.2.toNat:Int)):=by
   rw [show((r.p.1.toNat:Nat):Int)=r.p.1 by omega,show((r.p.2.toNat:Nat):Int)=r.p.2 by omega]
  refine⟨r.p.1.toNat,by omega,(Dv 9).2 ⟨r.p.2.toNat,by omega,(QW c).2 ⟨?_,?_⟩⟩⟩
  ·rw [show((r.p.1.toNat:Nat):Int)=r.p.1 by omega,show((r.p.2.toNat:Nat):Int)=r.p.2 by omega];exact hm
  ·rw [<-e];exact j
theorem WB{C B:Nat}{X W:qL}{d c u v:rU}{T:MJ}(f:X.heap[B]? =some (.cells #[d,c] T))(h:xk C (X.setCell ⟨B,1,none⟩ u) W)(hC:B<C):
  xk C (X.setCell ⟨B,1,none⟩ v) (W.setCell ⟨B,1,none⟩ v):=by
 have b:=h.size;simp only [Ah,VB]at b;have a:W.heap[B]? =some (.cells #[d,u] T):=(h.block B hC).trans (gK f u);refine⟨h.os,h.tape,h.output,by simp only [Ah,VB];exact b,fun k g=> ?_⟩;by_cases e:k=B
 ·subst e;rw [gK f v,gK a v]
 ·rw [IA _ _ _ _ e,IA _ _ _ _ e,h.block k g,IA _ _ _ _ e]
theorem RX{C B:Nat}{X:qL}{d c:rU}{T:MJ}(a:X.heap[B]? =some (.cells #[d,c] T)):xk C (X.setCell ⟨B,1,none⟩ c) X:=by
 refine⟨rfl,rfl,rfl,by simp [Ah],fun k b=> ?_⟩;by_cases e:k=B
 ·subst e;rw [gK a c,a]
 ·rw [IA _ _ _ _ e]
theorem Pl.NY(m:UInt8)(l:List UInt8):iP m l=Pl.pairsP m (BN l):=by
 unfold iP BN;split<;>rfl
theorem Pl.Gq(a:List ByteArray)(k:Nat)(h:k<a.length):Pl.lists (a.drop k)=a[k].data.toList::Pl.lists (a.drop (k+1)):=by
 rw [List.drop_eq_getElem_cons h];rfl
theorem Xn(s:ByteArray)(w:qL)(hs:s.size<=4398046511103):
  Tn xn 219 #[.string s] w fun e w'=>∃vl:rU,e= .returned (.tuple #[.agg #[.bool (uY s.data.toList),vl],.int .i64 (uZ s.data.toList)])/\
   aU 143 w' w.heap.size vl (qR s.data.toList)/\xk w.heap.size w w':=by
 obtain⟨F,HP⟩:=ai (CX s.data.toList);obtain⟨t,HH⟩:=ai (rG 33 s.data.toList);have ba:BG (s.size<=SN):=ae (by unfold SN;omega);obtain⟨rc,A⟩:=ai (uZ s.data.toList);obtain⟨rd,Z⟩:=ai (uY s.data.toList);obtain⟨rs,qM⟩:=ai (qR s.data.toList);rw [A.out,Z.out,qM.out];have D:BG (F=none->rc=4/\rd=false/\rs= []):=by
  refine ae fun h=> ?_;have hp:=HP.out;rw [h]at hp;have Q:uZ s.data.toList=4:=by unfold uZ;rw [hp]
  refine⟨A.out▸Q,?_,?_⟩
  ·rw [<-Z.out];unfold uY;rw [Q];rfl
  ·rw [<-qM.out];unfold qR;rw [Q];rfl
 have C:BG (∀ps,F=some ps->rc=qU ps/\(rc=0->rd=t/\rs=ps)/\(rc≠0->rd=false/\rs= [])):=by
  refine ae fun ps h=> ?_;have hp:=HP.out;rw [h]at hp;have Q:uZ s.data.toList=qU ps:=by unfold uZ;rw [hp]
  refine⟨A.out▸Q,fun h0=>⟨?_,?_⟩,fun h0=>⟨?_,?_⟩⟩
  ·rw [<-Z.out];unfold uY;rw [A.out,h0,HH.out];rfl
  ·rw [<-qM.out];unfold qR;rw [A.out,h0,hp];rfl
  ·rw [<-Z.out];unfold uY;rw [A.out];simp [h0]
  ·rw [<-qM.out];unfold qR;rw [A.out,ag h0]
 have aE:(∃h0:0<s.size,(s[0].toNat:Int)=33/\BG (t=true)/\BG ((s.extract 1 s.size).data.toList=qf 33 s.data.toList))\/(∃h0:0<s.size,((s[0].toNat:Int)==33)=false/\BG (t=false)/\BG (s.data.toList=qf 33 s.data.toList))\/(s.size=0/\BG (t=false)/\BG (s.data.toList=qf 33 s.data.toList)):=by
  rcases Nat.eq_zero_or_pos s.size with h0|h0
  ·right;right;have hl:s.data.toList= []:=List.length_eq_zero_iff.1 (by rw [bT];omega);refine⟨h0,ae ?_,ae ?_⟩
   ·rw [<-HH.out,hl];rfl
   ·rw [hl];rfl
  ·have hg:=GZ s h0;by_cases e:(s[0].toNat:Int)=33
   ·left;have e':s[0]=33:=by apply UInt8.toNat_inj.1;show _=33;omega
    have hh:rG 33 s.data.toList=true:=by unfold rG;rw [hg,e'];rfl
    refine⟨h0,e,ae (by rw [<-HH.out,hh]),ae ?_⟩;unfold qf;rw [hh,kH,List.take_of_length_le (by simp)];simp
   ·right;left;have hh:rG 33 s.data.toList=false:=by
     unfold rG;rw [hg];simp;intro h;rw [h]at e;exact e rfl
    refine⟨h0,by simpa using e,ae (by rw [<-HH.out,hh]),ae ?_⟩;unfold qf;rw [hh];rfl
 rcases aE with⟨h0,hc,H1,H2⟩|⟨h0,hc,H1,H2⟩|⟨h0,H1,H2⟩
 all_goals
  go_enter Tryz.func219,Tryz.ntmps219;go_wp2_with fail;refine(O5 _ _ (by first|(simp;omega)|omega)).mono ?_;rw [H2.out];rintro e d ⟨vk,c,rfl,I,K,J,M,O⟩;obtain⟨ak,a8,rfl,aR,ad,L⟩:=nZ.shape I;clear I;have Qk:=ae L;clear L;have aL:BG (∀x∈c,x.size<=SN):=ae fun x hx=>by have:=J x hx;(try simp at this);unfold SN;omega
  clear J;have aM:c.length<=s.size+1:=by(try simp at M);omega
  clear M;unfold SN at ad;have vT:BG (F=Pl.pairsP 61 (Pl.lists c)):=ae (by rw [<-HP.out];unfold CX;rw [NY,K]);clear K;have oW:xk (w.heap.size+2) ((w.alloc (.cells #[.bool false,.slice none 0 0] 141)).alloc (.cells #[.bool t,.slice none 0 0] 141)) d:=by
   rw [H1.out];simpa using O
  clear O;have o:w.heap.size+1<d.heap.size:=by have:=oW.size;simp at this;omega
  have HX:BG (d.heap[w.heap.size+1]? =some (.cells #[.bool t,.slice none 0 0] 141)):=by
   refine ae ((oW.block _ (by omega)).trans ?_);have:=bW (w.alloc (.cells #[.bool false,.slice none 0 0] 141)) (.cells #[.bool t,.slice none 0 0] 141);simpa using this
  have av:xk (w.heap.size+1) (w.alloc (.cells #[.bool false,.slice none 0 0] 141)) d:=((xx _ _).alloc (by simp) _).trans (oW.mono (by omega));clear oW;go_wp2_with fail;go_loopw [6] (fun i wr=>∃(k:Nat) (v:rU) (acc:List (Int×Int)),k<=c.length/\i= .int .i64 k/\BG (acc.length=k)/\BG (F=Pl.andThen acc (Pl.pairsP 61 (Pl.lists (c.drop k))))/\BG (xk d.heap.size (d.setCell ⟨w.heap.size+1,1,none⟩ v) wr)/\BG (aU 143 wr d.heap.size v acc)) (fun i _=>c.length-(Ee i).toNat)
  case atStart=>exact⟨0,_,[],PW _,rfl,ae rfl,ae (by rw [vT.out];cases h:Pl.pairsP 61 (Pl.lists c)<;>simp [Pl.andThen,h]),ae (RX HX.out),ae (aU.nil _ _ _)⟩
  case round=>
   obtain⟨k,v,acc,hk,rfl,P,HN,X,HO⟩:=hrel;have sU:=ae ((X.out.block _ o).trans (gK HX.out v));obtain⟨y0,y1,g0,g1,IG⟩:=aQ sU.out;have r:xk (w.heap.size+1) (w.alloc (.cells #[.bool false,.slice none 0 0] 141)) wr:=(av.setCell (by simp) _).trans (X.out.mono (by omega));obtain⟨x0,x1,xs,aq⟩:=vK r;obtain⟨f0,f1⟩:=BX r;have aD:d.heap.size<=wr.heap.size:=by have:=X.out.size;simpa [Ah]using this
   by_cases j:k<c.length
   ·obtain⟨b,rfl,ar,an,l⟩:∃b,ak=some ⟨b,0,none⟩/\w.heap.size+2<=b/\b<d.heap.size/\∀(i:Nat) (hi:i<c.length),d.cell? ⟨b,0+i,none⟩=some (.string c[i]):=by
     rcases Qk.out with rfl|⟨b,h1,h2,h3⟩
     ·simp at j
     ·exact⟨b,h1,by simpa using h2,h3⟩
    have a7:b<wr.heap.size:=by omega
    have f:wr.cell? ⟨b,0+k,none⟩=some (.string c[k]):=(X.out.cell (p:=⟨b,0+k,none⟩) an).trans ((World.cell?_of_block (w:=d) (IA _ _ _ _ (by simp;omega))).trans (l k j));clear l;rw [Nat.zero_add]at f;have E:=ae (aL.out c[k] (Xh j));obtain⟨q,W⟩:=ai (Pl.pairL 61 c[k].data.toList);obtain⟨kk,Fg⟩:=ai (c[k]);rw [Fg.out]at f E W
    cases q with
    |none=>
     have U:=ae (D.out (by rw [HN.out,Gq c k j,Fg.out,rD W.out];rfl));go_wp2_with fail;refine(uM kk 61 _ E.out).mono ?_;rw [W.out];rintro e w3 ⟨x,y,rfl,_,rfl⟩;go_wp2_with fail;exact GX (v:= .tuple #[.agg #[.bool false,.slice none 0 0],.int .i64 4]) (by simp [results,Tryz.results219,go_sem,x0,x1]) rfl ⟨_,by rw [U.out.1,U.out.2.1],by rw [U.out.2.2];exact aU.nil _ _ _,((aq.setCell (qh _) _).setCell (qh _) _)⟩
    |some p=>
     have U:BG (F=Pl.andThen (acc++ [p]) (Pl.pairsP 61 (Pl.lists (c.drop (k+1))))):=ae (by rw [HN.out,Gq c k j,Fg.out,rC W.out]);go_wp2_with fail;refine(uM kk 61 _ E.out).mono ?_;rw [W.out];rintro e w3 ⟨x,y,rfl,G,rfl⟩;obtain rfl:=G p rfl;clear G;go_wp2_with (at_builtin;refine dM Tryz.underlying139 OD rfl (.tmp 44) (.tmp 48) rfl d.heap.size v acc (x,y) rfl HO.out aD rfl (by have:=P.out;omega) ?_;intro v5 w5 iW N _;obtain⟨a5,n5,R,rfl⟩:=iW.slice;have oL:=ae iW;clear iW;have jP:=ae ((N.block _ o).trans sU.out);obtain⟨z0,z1,q0,q1,oq⟩:=aQ jP.out);go_roundw
     case rel=>exact⟨k+1,.slice a5 n5 R,acc++ [(x,y)],by omega,by go_num,ae (by simp [P.out]),U,ae (WB HX.out (X.out.trans N) o),ae (BD oL.out (by simpa using o) _)⟩
     case measure=>simp [Ee];omega
   ·obtain rfl:k=c.length:=by omega
    have T:BG (F=some acc):=ae (by rw [HN.out];simp [Pl.lists,Pl.pairsP,Pl.andThen]);have V:=ae (C.out acc T.out);have lD:BG (∀p∈acc,dJ p):=ae fun p hp=>gp (xZ (m:=61) (ps:=Pl.lists c) (a:=acc) (by rw [<-vT.out,T.out]) p hp);obtain⟨a3,S,rfl,H,_,_⟩:=aU.shape HO.out lD.out;have Ea:=ae H;clear H;obtain⟨cc,jD⟩:=ai (qU acc);obtain rfl:rc=cc:=by rw [V.out.1,jD.out]
    by_cases f:rc=0
    ·subst f;have n:=ae (V.out.2.1 rfl);clear V D C;go_wp2_with fail;refine(pK _ _ _ _ acc _ Ea.out).mono ?_;rw [jD.out];rintro e w4 ⟨rfl,g⟩;have Y:=r.trans (g.mono (by omega));obtain⟨z,u,aa,B⟩:=vK Y;obtain⟨ay,aw⟩:=BX Y;have z0:=(g.cell (p:=⟨w.heap.size+1,0,none⟩) IG).trans y0;have z1:=(g.cell (p:=⟨w.heap.size+1,1,none⟩) IG).trans y1;go_wp2_with fail;refine GX (v:= .tuple #[.agg #[.bool t,.slice a3 acc.length S],.int .i64 0]) (by simp [results,Tryz.results219,go_sem,z,u]) rfl ⟨_,by rw [n.out.1],?_,((B.setCell (qh _) _).setCell (qh _) _)⟩;rw [n.out.2];have h5:=HO.out.below g;exact aU.mono (base:=d.heap.size) (BD (BD h5 (by simp;omega) _) (by simp;omega) _) (by omega)
    ·have n:=ae (V.out.2.2 f);clear V D C;have a6:(rc==0)=false:=by simpa using f
     go_wp2_with fail;refine(pK _ _ _ _ acc _ Ea.out).mono ?_;rw [jD.out];rintro e w4 ⟨rfl,g⟩;have Y:=r.trans (g.mono (by omega));obtain⟨z,u,aa,B⟩:=vK Y;obtain⟨ay,aw⟩:=BX Y;go_wp2_with fail;exact GX (v:= .tuple #[.agg #[.bool false,.slice none 0 0],.int .i64 rc]) (by simp [results,Tryz.results219,go_sem,z,u]) rfl ⟨_,by rw [n.out.1],by rw [n.out.2];exact aU.nil _ _ _,((B.setCell (qh _) _).setCell (qh _) _)⟩
theorem Pl.ZN:uY ([]:List UInt8)=false/\qR ([]:List UInt8)= []:=by decide
theorem DY(a:Option Addr)(len cap:Nat)(es:List aK)(n:Nat)(w:qL)(h:bI w a len cap es)(h0:Pl.fault es=0)(hn:n<=1000):
  Tn xn 195 #[.slice a len cap,.int .i64 n] w fun e w'=>∃vl:rU,e= .returned (.agg #[.bool (uY (nJ es n).data.toList),vl])/\
   aU 143 w' w.heap.size vl (qR (nJ es n).data.toList)/\xk w.heap.size w w':=by
 have x:=ae h;clear h;have T:(nJ es n).size<=120:=BH _ _;obtain⟨g1,g2,g3⟩:=jm h0;have hlen:es.length=len:=x.out.1;have an:len<=60:=by omega
 have HA:BG (MV es):=g3;clear g1 g2 g3;have S:=ae (nC n (w.alloc (.cells #[.bool false,.slice none 0 0] 141)) (by omega));obtain⟨s,q⟩:=ai (aY n);have R:BG (s=⟨#[97,58]⟩++Pl.dec n):=ae q.out.symm;have B:BG (nJ es n=(if Pl.there es s then eF es (Pl.pos es s)else aK.none).val):=ae (by
  unfold nJ iT;rw [h0,af rfl,q.out])
 have k:=ae (fun w' (hb:xk w.heap.size w w')=>fK a len cap es s w' (x.out.below hb));rw [jJ HA.out]at k;rw [R.out]at k B;clear R q s;have aa:=jK n (by omega) (by omega);generalize Pl.dec (n:Int)=O at*;have b1:xk w.heap.size w (w.alloc (.cells #[.bool false,.slice none 0 0] 141)):=(xx _ _).alloc (qh _) _;obtain⟨t,P⟩:=ai (Pl.there es (⟨#[97,58]⟩++O));obtain⟨p,Q⟩:=ai (Pl.pos es (⟨#[97,58]⟩++O));rw [P.out,Q.out]at k B
 cases t
 ·have I:BG (nJ es n=ByteArray.empty):=ae B.out;have z:=ae ZN;simp only [UX,↓reduceIte]at k;rw [I.out];rw [show ByteArray.empty.data.toList=([]:List UInt8)from rfl,z.out.1,z.out.2];go_enter Tryz.func195,Tryz.ntmps195;go_wp2_with fail;refine S.out.mono ?_;rintro e j ⟨rfl,c⟩;have r:xk (w.heap.size+1) (w.alloc (.cells #[.bool false,.slice none 0 0] 141)) j:=by simpa using c
  have f:xk w.heap.size w j:=b1.trans (c.mono b1.size);clear c;go_wp2_with fail;refine(k.out j f).mono ?_;rintro e D ⟨rfl,d⟩;rw [d];clear d D;obtain⟨V,U,xs,m⟩:=vK r;obtain⟨f0,f1⟩:=BX r;go_wp2_with fail;have g:j.heap[w.heap.size]? =some (.cells #[.bool false,.slice none 0 0] 141):=(r.block _ (Jj _)).trans (bW w _);obtain⟨z0,C,_,_⟩:=aQ (gK (ve g (.bool false)) (.slice none 0 0));refine GX (v:= .agg #[.bool false,.slice none 0 0]) (by simp [results,Tryz.results195,go_sem,z0,C]) rfl ⟨_,rfl,aU.nil _ _ _,?_⟩;exact(m.setCell (qh _) _).setCell (qh _) _
 ·have ak:p<len:=by
   have:=P.out;unfold Pl.there at this;simp only [Pe,ik]at this;have:=Q.out;omega
  have I:BG (nJ es n=(eF es p).val):=ae B.out;simp only [↓reduceIte]at k;rw [I.out]at T⊢;obtain⟨b,off,rfl,G,L⟩:∃b off,a=some ⟨b,off,none⟩/\b<w.heap.size/\dN w b off es:=by
   rcases x.out.2.2.2.2 with h|h
   ·rw [h]at hlen;simp at hlen;omega
   ·exact h
  have N:=x.out.2.1;have hm:=x.out.2.2.1;unfold SN at hm;have HR:=ae L;clear L;obtain⟨A,y⟩:=ai ((eF es p).val);rw [y.out]at T⊢;obtain⟨rc,X⟩:=ai (uZ A.data.toList);obtain⟨rd,J⟩:=ai (uY A.data.toList);obtain⟨rs,K⟩:=ai (qR A.data.toList);rw [J.out,K.out];go_enter Tryz.func195,Tryz.ntmps195;go_wp2_with fail;refine S.out.mono ?_;rintro e j ⟨rfl,c⟩;have r:xk (w.heap.size+1) (w.alloc (.cells #[.bool false,.slice none 0 0] 141)) j:=by simpa using c
  have f:xk w.heap.size w j:=b1.trans (c.mono b1.size);clear c;go_wp2_with fail;refine(k.out j f).mono ?_;rintro e D ⟨rfl,d⟩;rw [d];clear d D;obtain⟨_,_,_,Y⟩:=HR.out.below G f p (by omega);rw [y.out]at Y;have M:(p:Int)<(len:Int):=by omega
  have ad:b<j.heap.size:=by have:=f.size;omega
  have F:=r.size;simp at F;go_wp2_with fail;refine(Xn A _ (by omega)).mono ?_;rw [X.out,J.out,K.out];rintro e w3 ⟨v3,rfl,l,o⟩;have H:xk (w.heap.size+1) (w.alloc (.cells #[.bool false,.slice none 0 0] 141)) w3:=r.trans (o.mono (by omega));obtain⟨a3,E,i,rfl⟩:=l.slice;have W:=ae l;obtain⟨V,U,xs,m⟩:=vK H;obtain⟨f0,f1⟩:=BX H;have Z:=o.size;clear l o;go_wp2_with fail;have g:w3.heap[w.heap.size]? =some (.cells #[.bool false,.slice none 0 0] 141):=(H.block _ (Jj _)).trans (bW w _);have u:=BF (gK (ve g (.bool rd)) (.slice a3 E i)) (.cells #[.bool rd,.slice a3 E i] 141);obtain⟨z0,C,_,_⟩:=aQ u;refine GX (v:= .agg #[.bool rd,.slice a3 E i]) (by simp [results,Tryz.results195,go_sem,z0,C]) rfl ⟨_,rfl,?_,?_⟩
  ·exact aU.mono (aae (BD (BD W.out (by simp;omega) _) (by simp;omega) _) _) (by omega)
  ·exact((m.setCell (qh _) _).setCell (qh _) _).alloc (by simp [Ah];omega) _
def Pl.sideN(ps:List (Int×Int)):Nat->Nat->Int->Int
 |0,_,_=>0
 |n+1,i,to=>if(Pl.pr ps i).1=to then(Pl.pr ps i).2 else Pl.sideN ps n (i+1) to
theorem Pl.mZ.lt{ps:List (Int×Int)}(h:mZ ps)(j:Nat):∀k,j<k->k<ps.length->(Pl.pr ps j).1<(Pl.pr ps k).1:=by
 intro k;induction k with
 |zero=>intro h;omega
 |succ k b=>
  intro e d;have a:=(h (k+1) d).2 (by omega);simp only [Nat.add_sub_cancel]at a;by_cases c:j=k
  ·subst c;exact a
  ·have:=b (by omega) (by omega);omega
theorem Pl.Ve{ps:List (Int×Int)}(h:mZ ps)(b k:Nat)(d:k<=ps.length)(a:∀j,j<k->(Pl.pr ps j).1≠(b:Int)):Pl.sayN ps k b=0:=by
 induction k with
 |zero=>rfl
 |succ k c=>
  have g:=a k (by omega);have f:=(h k (by omega)).1.1;show cZ (Pl.sayN ps k) (Pl.pr ps k).1.toNat (Pl.pr ps k).2 b=0;rw [jE _ _ (by omega)];exact c (by omega) fun j e=>a j (by omega)
theorem Pl.aaZ{ps:List (Int×Int)}(h:mZ ps)(b j k:Nat)(f:j<k)(d:k<=ps.length)(e:(Pl.pr ps j).1=(b:Int)):Pl.sayN ps k b=(Pl.pr ps j).2:=by
 induction k with
 |zero=>omega
 |succ k c=>
  show cZ (Pl.sayN ps k) (Pl.pr ps k).1.toNat (Pl.pr ps k).2 b=_;by_cases a:j=k
  ·subst a;rw [e,Zf,gU]
  ·have g:=h.lt j k (by omega) (by omega);rw [jE _ _ (by omega)];exact c (by omega) (by omega)
theorem Pl.Va{ps:List (Int×Int)}(h:mZ ps)(b:Nat):∀n i,i+n=ps.length->(∀j,j<i->(Pl.pr ps j).1≠(b:Int))->Pl.sideN ps n i b=Pl.say ps b:=by
 intro n;induction n with
 |zero=>intro i g a;exact(Ve h b ps.length (qh _) fun j f=>a j (by omega)).symm
 |succ n d=>
  intro i g a;unfold Pl.sideN;by_cases e:(Pl.pr ps i).1=(b:Int)
  ·rw [af e];exact(aaZ h b i ps.length (by omega) (qh _) e).symm
  ·rw [ag e];refine d (i+1) (by omega) fun j f=> ?_;by_cases c:j=i
   ·subst c;exact e
   ·exact a j (by omega)
theorem FP(d:Bool)(a:Option Addr)(len cap:Nat)(ps:List (Int×Int))(b:Nat)(w:qL)(h:di w a len cap ps)(hu:mZ ps):
  Tn xn 220 #[.agg #[.bool d,.slice a len cap],.int .i64 b] w fun e w'=>e= .returned (.int .i64 (Pl.say ps b))/\xk w.heap.size w w':=by
 obtain⟨hl,hc,hm,g,c⟩:=h;unfold SN at hm;have B:BG (Pl.say ps b=Pl.sideN ps len 0 b):=ae (Va hu b len 0 (by omega) (by omega)).symm;clear hu g;go_enter Tryz.func220,Tryz.ntmps220;go_wp2;go_loopw [5] (fun i wr=>∃k:Nat,k<=len/\i= .int .i64 k/\BG (Pl.say ps b=Pl.sideN ps (len-k) k b)/\BG (xk (w.heap.size+1) (w.alloc (.cells #[.bool d,.slice a len cap] 141)) wr)) (fun i _=>len-(Ee i).toNat)
 case atStart=>exact⟨0,PW _,rfl,B,xx _ _⟩
 case round=>
  obtain⟨k,E,rfl,u,v⟩:=hrel;obtain⟨D,C,xs,f⟩:=vK v.out;by_cases y:k<len
  ·obtain⟨A,off,rfl,j,m⟩:∃b off,a=some ⟨b,off,none⟩/\b<w.heap.size/\eP w b off ps:=by
    rcases c with rfl|h
    ·simp at hl;omega
    ·exact h
   clear c;obtain⟨c0,c1⟩:=m.below j f k (by omega);clear m;obtain⟨n,p⟩:∃n,len-k=n+1:=⟨len-k-1,by omega⟩
   have t:BG (len-k=n+1):=p;clear p;have z:A<wr.heap.size:=by omega
   obtain⟨l,r⟩:=ai ((Pl.pr ps k).1);obtain⟨x,q⟩:=ai ((Pl.pr ps k).2);rw [r.out]at c0;rw [q.out]at c1;have s:BG (Pl.say ps b=if l=(b:Int)then x else Pl.sideN ps n (k+1) b):=ae (by
    rw [u.out,t.out];show(if(Pl.pr ps k).1=(b:Int)then(Pl.pr ps k).2 else _)=_;rw [r.out,q.out])
   by_cases o:l=(b:Int)
   ·subst o;go_wp2;go_ret;exact⟨aF (by rw [s.out];simp),f⟩
   ·go_wp2;go_roundw
    case rel=>exact⟨k+1,by omega,by go_num,ae (by rw [s.out,ag o];congr 1;have:=t.out;omega),v⟩
    case measure=>simp [Ee];omega
  ·obtain rfl:k=len:=by omega
   go_wp2;go_ret;exact⟨aF (by rw [u.out];simp [Pl.sideN]),f⟩
def Pl.qP(ps:Nat->List (Int×Int)):Nat->Nat->Int:=fun a b=>if a=b then 0 else yN ps a b
theorem MI(a:Option Addr)(len cap:Nat)(es:List aK)(x y:Nat)(w:qL)(h:bI w a len cap es)(h0:Pl.fault es=0)(M:x<12)(L:y<12):
  Tn xn 196 #[.slice a len cap,.int .i64 x,.int .i64 y] w fun e w'=>e= .returned (.int .i64 (qP (Pl.tS es) x y))/\xk w.heap.size w w':=by
 have D:=ae h;have E:=ae h0;clear h h0;obtain⟨p,t⟩:=ai (Pl.say (Pl.tS es y) x);obtain⟨q,C⟩:=ai (Pl.say (Pl.tS es x) y);have H:0<=p:=by rw [<-t.out];exact(KO (lW _).ok x).1
 by_cases c:x=y
 ·subst c;have o:BG (qP (Pl.tS es) x x=0):=ae (by unfold qP;rw [af rfl]);go_enter Tryz.func196,Tryz.ntmps196;go_wp2_with fail;go_ret;exact⟨aF o.out.symm,xx _ _⟩
 ·have z:((x:Int)==(y:Int))=false:=by simp;omega
  go_enter Tryz.func196,Tryz.ntmps196;go_wp2_with fail;refine(DY a len cap es y w D.out E.out (by omega)).mono ?_;rintro e G ⟨vl,rfl,j,n⟩;obtain⟨a1,B,rfl,g,_,_⟩:=aU.shape j (lW _).ok.vG;have u:=ae g;have s:=ae n;clear j g n;go_wp2_with fail;refine(FP _ _ _ _ _ x G u.out (lW _)).mono ?_;rw [show Pl.say (qR (nJ es y).data.toList) x=p from t.out];rintro e F ⟨rfl,m⟩;have b:=ae (s.out.trans (m.mono s.out.size));clear m;by_cases d:p=0
  ·subst d;have o:BG (qP (Pl.tS es) x y=0):=ae (by unfold qP yN;rw [ag c,t.out,ag (by omega)]);go_wp2_with fail;go_ret;exact⟨aF o.out.symm,b.out⟩
  ·have I:(p==0)=false:=by simp [d]
   have o:BG (qP (Pl.tS es) x y=q):=ae (by unfold qP yN;rw [ag c,t.out,af (by omega),C.out]);go_wp2_with fail;refine(DY a len cap es x F (D.out.below b.out) E.out (by omega)).mono ?_;rintro e w3 ⟨vl,rfl,i,l⟩;obtain⟨a3,A,rfl,f,_,_⟩:=aU.shape i (lW _).ok.vG;have J:=ae f;have r:=ae (b.out.trans (l.mono b.out.size));clear i f l;go_wp2_with fail;refine(FP _ _ _ _ _ y w3 J.out (lW _)).mono ?_;rw [show Pl.say (qR (nJ es x).data.toList) y=q from C.out];rintro e K ⟨rfl,k⟩;have v:=ae (r.out.trans (k.mono r.out.size));clear k;go_wp2_with fail;go_ret;exact⟨aF o.out.symm,v.out⟩
def Pl.ug(L:Nat->Nat->Int)(k j:Nat):Nat->Nat->Int:=fun x y=>if x<k\/(x=k/\y<j)then L x y else 0
def BZ(D:Nat->Bool)(k:Nat)(o:Nat):rU:= .bool (decide (o<k)&&D o)
theorem Wy{w:qL}{B:Nat}{T:MJ}{D:Nat->Bool}{k:Nat}(h:aj w B T 12 (BZ D k)):aj (w.setCell ⟨B,k,none⟩ (.bool (D k))) B T 12 (BZ D (k+1)):=by
 refine(h.set k _).ext fun o a=> ?_;unfold cZ BZ;by_cases e:o=k
 ·subst e;rw [af rfl];simp
 ·rw [ag e,show decide (o<k+1)=decide (o<k)from decide_eq_decide.2 (by omega)]
theorem VY{w:qL}{B:Nat}{T:MJ}{L:Nat->Nat->Int}{k j:Nat}(h:mF w B T (ug L k j))(d:j<12):mF (w.setCell ⟨B,k*12+j,none⟩ (.int .i64 (L k j))) B T (ug L k (j+1)):=by
 refine(h.set k j d (L k j)).ext fun x y f e=> ?_;unfold cZ ug;by_cases c:x=k
 ·subst c;rw [af rfl];by_cases b:y=j
  ·subst b;rw [af rfl,af (Or.inr ⟨rfl,by omega⟩)]
  ·rw [ag b];by_cases a:y<j
   ·rw [af (.inr ⟨rfl,a⟩),af (.inr ⟨rfl,by omega⟩)]
   ·rw [ag (by omega),ag (by omega)]
 ·rw [ag c];by_cases a:x<k
  ·rw [af (.inl a),af (.inl a)]
  ·rw [ag (by omega),ag (by omega)]
theorem Rx{w:qL}{B:Nat}{T:MJ}{L:Nat->Nat->Int}{k:Nat}(h:mF w B T (ug L k 12)):mF w B T (ug L (k+1) 0):=by
 refine h.ext fun x y c b=> ?_;unfold ug;by_cases a:x<k\/x=k/\y<12
 ·rw [af a,af (by omega)]
 ·rw [ag a,ag (by omega)]
theorem Jo:O6=aaf (n:=144) fun i=>OU (fun _ _=>0) i.1:=by kernel_rfl
theorem mF.Vz(w:qL):mF (w.alloc (.cells O6 90)) w.heap.size 90 (fun _ _=>0):=by
 refine aj.new w _ _ _ _ (by rw [Jo];simp) fun i a=> ?_;simp only [Jo,Array.getElem_ofFn]
theorem WA(w:qL)(D:Nat->Bool)(cs:Array rU)(e:cs=aaf (n:=12) fun _=> .bool false):aj (w.alloc (.cells cs 206)) w.heap.size 206 12 (BZ D 0):=by
 refine aj.new w _ _ _ _ (by rw [e];simp) fun i a=> ?_;simp [e,BZ]
theorem IP(d v:rU)(w:qL):(aad 141 (.agg #[d,v]) 0).run xn w= .ok d w:=by
 simp [aad,part,isAgg,asAgg,underlying,go_sem,Tryz.underlying141,Tryz.underlying4]
def qO(c:Nat->Int)(o:Nat):rU:= .int .i64 (c o)
theorem Gn{w:qL}{S:Nat}{T:MJ}{c:Nat->Int}(h:aj w S T 12 (qO c))(k:Nat)(v:Int):aj (w.setCell ⟨S,k,none⟩ (.int .i64 v)) S T 12 (qO (cZ c k v)):=by
 refine(h.set k _).ext fun o a=> ?_;unfold cZ qO;by_cases e:o=k
 ·simp [e]
 ·simp [e]
def Pl.BB(b:Nat->Int)(N:Int):Prop:=∀v,-1<=b v/\b v<=N
theorem Pl.BB.afm{L:Nat->Nat->Int}{D:Nat->Bool}{f i j:Nat}{b:Nat->Int}{N:Int}(c:∀a b,0<=L a b/\L a b<=1000)(h:Pl.BB b N):Pl.BB (mW L D f i j b) (N+1000):=by
 intro v;have g:=h v;have e:=h i;have d:=c i j;unfold mW;split
 ·omega
 ·split
  ·unfold cZ;split
   ·omega
   ·omega
  ·omega
theorem Pl.BB.row{L:Nat->Nat->Int}{D:Nat->Bool}{f i:Nat}{b:Nat->Int}{N:Int}(d:∀a b,0<=L a b/\L a b<=1000)(h:Pl.BB b N)(j:Nat):Pl.BB (xC L D f i b j) (N+1000*j):=by
 induction j with
 |zero=>intro v;have:=h v;show-1<=b v/\b v<=_;omega
 |succ j c=>intro v;have:=Pl.BB.afm (D:=D) (f:=f) (i:=i) (j:=j) d c v;show-1<=mW L D f i j _ v/\mW L D f i j _ v<=_;omega
theorem Pl.BB.round{L:Nat->Nat->Int}{D:Nat->Bool}{f:Nat}{b:Nat->Int}{N:Int}(d:∀a b,0<=L a b/\L a b<=1000)(h:Pl.BB b N)(i:Nat):Pl.BB (kV L D f b i) (N+12000*i):=by
 induction i with
 |zero=>intro v;have:=h v;show-1<=b v/\b v<=_;omega
 |succ i c=>intro v;have:=Pl.BB.row (D:=D) (f:=f) (i:=i) d c 12 v;show-1<=xC L D f i _ 12 v/\xC L D f i _ 12 v<=_;omega
theorem Pl.BB.gY{L:Nat->Nat->Int}{D:Nat->Bool}{f:Nat}(first:Int)(c:∀a b,0<=L a b/\L a b<=1000)(r:Nat):Pl.BB (jl L D f first r) (1000+144000*r):=by
 induction r with
 |zero=>
  intro v;show-1<=rO L f first v/\rO L f first v<=_
  unfold rO;have:=c f v;split<;>omega
 |succ r d=>intro v;have:=Pl.BB.round (D:=D) (f:=f) c d 12 v;show-1<=kV L D f _ 12 v/\kV L D f _ 12 v<=_;omega
theorem Pl.Ug{ps:Nat->List (Int×Int)}(h:∀i,ng (ps i))(a b:Nat):0<=qP ps a b/\qP ps a b<=1000:=by
 unfold qP yN;have:=KO (h a) b;split
 ·omega
 ·split<;>omega
theorem Qx(w:qL):(Instr.makeSlice 37 (.int .i64 12) (.int .i64 12)).run xn w= .ok (.slice (some ⟨w.heap.size,0,none⟩) 12 12) (w.alloc (.cells (madeCells #[.int .i64 0] 12) 3)):=by
 obtain⟨i0,d,c,b,a⟩:=partsOf Uo;have:=run_make (P:=xn) w 37 3 i0 (.int .i64 0) Xc d c .i64 .i64 12 12 (by omega) (by omega) (by rw [a];decide) (by omega);rw [b]at this;exact this
theorem ady(w:qL):aj (w.alloc (.cells (madeCells #[.int .i64 0] 12) 3)) w.heap.size 3 12 (qO fun _=>0):=by
 refine aj.new w _ _ _ _ (size_madeCells _ _) fun i a=> ?_;simp [madeCells,qO,Nat.mod_one]
theorem Vq(a:Option Addr)(len cap:Nat)(es:List aK)(f t:Nat)(first:Int)(w:qL)(h:bI w a len cap es)(h0:Pl.fault es=0)(hf:f<12)(ht:t<12)(bx: -1<=first/\first<=11):
  Tn xn 169 #[.slice a len cap,.int .i64 f,.int .i64 t,.int .i64 first] w fun e w'=>e= .returned (.int .i64 (jl (qP (Pl.tS es)) (Pl.tD es) f first 12 t))/\xk w.heap.size w w':=by
 have HE:=ae h;have H0:=ae h0;clear h h0;have Ji:=ae (fun x y (hx:x<12) (hy:y<12) w' (hb:xk w.heap.size w w')=>MI a len cap es x y w' (HE.out.below hb) H0.out hx hy);obtain⟨L,HL⟩:=ai (qP (Pl.tS es));have bp:=ae (fun x (hx:x<12) w' (hb:xk w.heap.size w w')=>DY a len cap es x w' (HE.out.below hb) H0.out (by omega));obtain⟨D,HD⟩:=ai (Pl.tD es);have Ar:BG (∀x y,0<=L x y/\L x y<=1000):=ae (by rw [<-HL.out];exact Ug fun i=>(lW _).ok);rw [HL.out]at Ji⊢;rw [HD.out];go_enter Tryz.func169,Tryz.ntmps169;go_wp2_with fail;go_loopw [11] (fun i wr=>∃k:Nat,k<=12/\i= .int .i64 k/\BG (mF wr w.heap.size 90 (ug L k 0))/\BG (aj wr (w.heap.size+1) 206 12 (BZ D k))/\BG (xk w.heap.size w wr)) (fun i _=>12-(Ee i).toNat)
 case atStart=>
  refine⟨0,by omega,rfl,ae ?_,ae ?_,((xx _ _).alloc (qh _) _).alloc (by simp) _⟩
  ·exact(mF.ext (mF.Vz w) (fun x y _ _=>by unfold ug;rw [ag (by omega)])).alloc _
  ·have:=WA (w.alloc (.cells O6 90)) D #[.bool false,.bool false,.bool false,.bool false,.bool false,.bool false,.bool false,.bool false,.bool false,.bool false,.bool false,.bool false] (by kernel_rfl);rw [show(w.alloc (.cells O6 90)).heap.size=w.heap.size+1 by simp]at this;exact this
 case round=>
  obtain⟨k,hk,rfl,HG,HC,W⟩:=hrel;by_cases m:k<12
  ·go_wp2_with fail;refine(bp.out k m wr W.out).mono ?_;rw [show uY (nJ es k).data.toList=D k by rw [<-HD.out];rfl];rintro e w1 ⟨vl,rfl,Z,J⟩;obtain⟨a1,n1,ak,rfl⟩:=Z.slice;have PU:=ae (aj.below HG.out J);have yK:=ae (aj.below HC.out J);have M:=ae (W.out.trans (J.mono W.out.size));clear Z J;have c1:=aj.cell yK.out k m;have f1:=aj.soft yK.out k;have l1:=aj.lt yK.out;have l2:=aj.lt PU.out;have bz:=fun w=>IP (.bool (D k)) (.slice a1 n1 ak) w;go_wp2_with fail;go_loopw [12] (fun i wr=>∃j:Nat,j<=12/\i= .int .i64 j/\BG (mF wr w.heap.size 90 (ug L k j))/\BG (aj wr (w.heap.size+1) 206 12 (BZ D (k+1)))/\BG (xk w.heap.size w wr)) (fun i _=>12-(Ee i).toNat)
   case atStart=>
    exact⟨0,by omega,rfl,aj.but PU.out ((aI.refl (w.heap.size+1) _).setCell _ _) (by omega),Wy yK.out,M.out.setCell (Uz _) _⟩
   case round=>
    obtain⟨j,hj,rfl,ay,aM,u⟩:=hrel;by_cases z:j<12
    ·go_wp2_with fail;go_region_with (go_at_call 196;refine(Ji.out k j m z _ u.out.drew).mono ?_;rintro e w5 ⟨rfl,I⟩;have s:=ae (aj.below ay.out.drew I);have bm:=ae (aj.below (w:=wr.drew) aM.out I);have jP:=ae (u.out.drew.trans (I.mono u.out.drew.size));have c5:=mF.cell s.out k j m z;have f5:=aj.soft s.out (k*12+j);have l5:=aj.lt s.out;clear I)
     all_goals
      go_wp2_with fail;go_roundw
      case rel=>exact⟨j+1,by omega,by go_num,VY s.out z,aj.but bm.out ((aI.refl w.heap.size _).setCell _ _) (by omega),jP.out.setCell (qh _) _⟩
      case measure=>simp [Ee];omega
    ·obtain rfl:j=12:=by omega
     go_wp2_with fail;go_roundw
     case rel=>exact⟨k+1,by omega,by go_num,Rx ay.out,aM,u⟩
     case measure=>simp [Ee];omega
  ·have F:k=12:=by omega
   rw [F]at HG HC;have aa:¬((k:Int)<12):=by omega
   clear F hk;have a7:=Qx wr;have HM:=ae (ady wr);have aw:=ae (HG.out.alloc (.cells (madeCells #[.int .i64 0] 12) 3));have aL:=ae (aj.below HC.out ((xx _ _).alloc (qh _) (.cells (madeCells #[.int .i64 0] 12) 3)));have U:=ae (W.out.alloc W.out.size (.cells (madeCells #[.int .i64 0] 12) 3));have a8:=W.out.size;have ba:=aj.lt HC.out;go_wp2_with fail;clear a7;obtain⟨w3,bh⟩:=aV (wr.alloc (.cells (madeCells #[.int .i64 0] 12) 3));rw [<-bh.out]at HM aw aL U⊢;obtain⟨S,bj⟩:=aV (wr.heap.size);rw [<-bj.out]at HM a8 ba⊢;go_loopw [14] (fun i wr=>∃k:Nat,k<=12/\i= .int .i64 k/\BG (aj wr S 3 12 (qO fun o=>if o<k then rO L f first o else 0))/\BG (aI S w3 wr)) (fun i _=>12-(Ee i).toNat)
   case atStart=>exact⟨0,by omega,rfl,aj.ext HM.out (fun o _=>by simp [qO]),aI.refl _ _⟩
   case round=>
    obtain⟨k,hk,rfl,B,H⟩:=hrel;have av:=ae (aj.but aw.out H.out (by omega));have bo:=ae (aj.but aL.out H.out (by omega));by_cases m:k<12
    ·have c1:=aj.cell B.out k m;have f1:=aj.soft B.out k;have l1:=aj.lt B.out;have q:=ae (Gn B.out k (-1));have s:=ae (aj.but av.out ((aI.refl S wr).setCell k (.int .i64 (-1))) (by omega));have c2:=mF.cell s.out f k hf m;have l2:=aj.lt s.out;have c3:=aj.cell q.out k m;have f3:=aj.soft q.out k;have l3:=aj.lt q.out;rw [show ug L 12 0 f k=L f k by unfold ug;rw [af (.inl hf)]]at c2;obtain⟨x,G⟩:=ai (L f k);rw [G.out]at c2;have lD:BG (∀v,v=rO L f first k->∀o,qO (cZ (fun o=>if o<k then rO L f first o else 0) k v) o=qO (fun o=>if o<k+1 then rO L f first o else 0) o):=ae (by
      intro v hv o;unfold qO cZ;by_cases e:o=k
      ·subst e;simp only [af];rw [af (by omega),hv]
      ·rw [ag e];by_cases e2:o<k
       ·simp only [af e2];rw [af (by omega)]
       ·simp only [ag e2];rw [ag (by omega)])
     by_cases b:k≠f/\0<x/\(first<0\/first=(k:Int))
     ·have R:BG (x=rO L f first k):=ae (by unfold rO;rw [G.out,af b]);have A:=ae (Gn q.out k x);obtain⟨V,h2,h3⟩:=b;have N:((k:Int) != (f:Int))=true:=by simp;omega
      rcases(show first<0\/(¬first<0/\(first==(k:Int))=true)from by
       by_cases g:first<0
       ·exact .inl g
       ·exact .inr ⟨g,by simp;omega⟩)with ad|⟨ad,bb⟩
      all_goals
       clear h3;go_wp2_with fail;go_roundw
       case rel=>
        refine⟨k+1,by omega,by go_num,A.out.ext (fun o ho=> ?_),(H.out.setCell _ _).setCell _ _⟩;rw [<-lD.out x R.out o];unfold qO cZ;by_cases e:o=k
        ·simp [e]
        ·simp [e]
       case measure=>simp [Ee];omega
     ·have R:BG ((-1:Int)=rO L f first k):=ae (by unfold rO;rw [G.out,ag b]);rcases(by
       by_cases g1:k=f
       ·exact .inl (by rw [g1];simp)
       ·have n:((k:Int) != (f:Int))=true:=by simp;omega
        by_cases g2:0<x
        ·by_cases g3:first<0
         ·exact absurd ⟨g1,g2,.inl g3⟩ b
         ·refine .inr (.inr ⟨n,g2,g3,?_⟩);simp;intro g4;exact b ⟨g1,g2,.inr g4⟩
        ·exact .inr (.inl ⟨n,g2⟩):((k:Int) != (f:Int))=false\/(((k:Int) != (f:Int))=true/\¬0<x)\/(((k:Int) != (f:Int))=true/\0<x/\¬first<0/\(first==(k:Int))=false))with N|⟨N,bc⟩|⟨N,bc,ad,bb⟩
      all_goals
       clear b;go_wp2_with fail;go_roundw
       case rel=>exact⟨k+1,by omega,by go_num,q.out.ext (fun o ho=>lD.out (-1) R.out o),H.out.setCell _ _⟩
       case measure=>simp [Ee];omega
    ·have F:k=12:=by omega
     rw [F]at B;have aa:¬((k:Int)<12):=by omega
     clear F hk;have q:BG (aj wr S 3 12 (qO (jl L D f first 0))):=ae (B.out.ext fun o ho=>by unfold qO;simp only [af ho];rfl);have jP:BG (xk w.heap.size w wr):=ae (U.out.trans (H.out.below (by omega) U.out.size));rename qL=>w4
     go_wp2_with fail;go_loopw [15] (fun i wr=>∃r:Nat,r<=12/\i= .int .i64 r/\BG (aj wr S 3 12 (qO (jl L D f first r)))/\BG (aI S w4 wr)) (fun i _=>12-(Ee i).toNat)
     case atStart=>exact⟨0,by omega,rfl,q,aI.refl _ _⟩
     case round=>
      obtain⟨r,hr,rfl,A,aq⟩:=hrel;by_cases bs:r<12
      ·have sU:=ae (Pl.BB.gY (D:=D) (f:=f) first Ar.out r);obtain⟨b0,a6⟩:=ai (jl L D f first r);have bk:BG (jl L D f first (r+1)=kV L D f b0 12):=ae (by rw [<-a6.out];rfl);rw [a6.out]at A sU;have bg:decide ((r:Int)<12)=true:=zx (by omega);go_wp2_with fail
       (try rw [bg])
       go_loopw [16] (fun i wr=>∃Y:Nat,Y<=12/\i= .int .i64 Y/\BG (aj wr S 3 12 (qO (kV L D f b0 Y)))/\BG (aI S w4 wr)) (fun i _=>12-(Ee i).toNat)
       case atStart=>exact⟨0,by omega,rfl,A,aq⟩
       case round=>
        obtain⟨i,hi,rfl,Q,an⟩:=hrel;by_cases E:i<12
        ·have aR:=ae (Pl.BB.round (D:=D) (f:=f) Ar.out sU.out i);obtain⟨b1,M⟩:=ai (kV L D f b0 i);have bl:BG (kV L D f b0 (i+1)=xC L D f i b1 12):=ae (by rw [<-M.out];rfl);rw [M.out]at Q aR;have bd:decide ((i:Int)<12)=true:=zx (by omega);go_wp2_with fail
         (try rw [bd])
         go_loopw [17] (fun Y wr=>∃j:Nat,j<=12/\Y= .int .i64 j/\BG (aj wr S 3 12 (qO (xC L D f i b1 j)))/\BG (aI S w4 wr)) (fun i _=>12-(Ee i).toNat)
         case atStart=>exact⟨0,by omega,rfl,Q,an⟩
         case round=>
          obtain⟨j,hj,rfl,K,p⟩:=hrel;by_cases z:j<12
          ·have T:=ae (Pl.BB.row (D:=D) (f:=f) (i:=i) Ar.out aR.out j);obtain⟨C,u⟩:=ai (xC L D f i b1 j);have Jg:BG (xC L D f i b1 (j+1)=mW L D f i j C):=ae (by rw [<-u.out];rfl);rw [u.out]at K T;have ar:=ae (aj.but av.out p.out (by omega));have aE:=ae (aj.but bo.out p.out (by omega));have c1:=aj.cell K.out i E;have c2:=aj.cell K.out j z;have f2:=aj.soft K.out j;have c3:=mF.cell ar.out i j E z;have c4:=aj.cell aE.out i E;have l1:=aj.lt K.out;have l2:=aj.lt ar.out;have l3:=aj.lt aE.out;rw [show ug L 12 0 i j=L i j by unfold ug;rw [af (.inl E)]]at c3;rw [show BZ D 12 i= .bool (D i) by unfold BZ;simp [E]]at c4;obtain⟨x,G⟩:=ai (C i);obtain⟨y,HY⟩:=ai (C j);obtain⟨l,vP⟩:=ai (L i j);obtain⟨d,aD⟩:=ai (D i)
           rw [show qO C i= .int .i64 x by unfold qO;rw [G.out]]at c1;rw [show qO C j= .int .i64 y by unfold qO;rw [HY.out]]at c2;rw [vP.out]at c3;rw [aD.out]at c4;have br: -1<=x:=by rw [<-G.out];exact(T.out i).1
           have bq:x<=3000000:=by have:=(T.out i).2;rw [G.out]at this;omega
           have bw:0<=l:=by rw [<-vP.out];exact(Ar.out i j).1
           have bt:l<=1000:=by rw [<-vP.out];exact(Ar.out i j).2
           have P:BG (mW L D f i j C=if i=f\/j=f\/x<0\/d=true\/l=0 then C else if y<0\/x+l<y then cZ C j (x+l)else C):=ae (by
            unfold mW;rw [G.out,HY.out,vP.out,aD.out])
           by_cases c:i=f\/j=f\/x<0\/d=true\/l=0
           ·have X:BG (xC L D f i b1 (j+1)=C):=ae (by rw [Jg.out,P.out,af c]);rcases(by
             by_cases g1:i=f
             ·exact .inl (by rw [g1];simp)
             ·have n:((i:Int)==(f:Int))=false:=by simp;omega
              by_cases g2:j=f
              ·exact .inr (.inl ⟨n,by rw [g2];simp⟩)
              ·have O:((j:Int)==(f:Int))=false:=by simp;omega
               by_cases g3:x<0
               ·exact .inr (.inr (.inl ⟨n,O,g3⟩))
               ·cases d with
                |true=>exact .inr (.inr (.inr (.inl ⟨n,O,g3,rfl⟩)))
                |false=>
                 refine .inr (.inr (.inr (.inr ⟨n,O,g3,rfl,?_⟩)));rcases c with h|h|h|h|h
                 ·exact absurd h g1
                 ·exact absurd h g2
                 ·exact absurd h g3
                 ·cases h
                 ·simp [h]:((i:Int)==(f:Int))=true\/(((i:Int)==(f:Int))=false/\((j:Int)==(f:Int))=true)\/(((i:Int)==(f:Int))=false/\((j:Int)==(f:Int))=false/\x<0)\/(((i:Int)==(f:Int))=false/\((j:Int)==(f:Int))=false/\¬x<0/\d=true)\/(((i:Int)==(f:Int))=false/\((j:Int)==(f:Int))=false/\¬x<0/\d=false/\(l==0)=true))with V|⟨V,h2⟩|⟨V,h2,h3⟩|⟨V,h2,h3,h4⟩|⟨V,h2,h3,h4,h5⟩
            all_goals
             clear c;go_wp2_with fail;go_roundw
             case rel=>exact⟨j+1,by omega,by go_num,ae (by rw [X.out];exact K.out),p⟩
             case measure=>simp [Ee];omega
           ·have V:((i:Int)==(f:Int))=false:=by simp;omega
            have h2:((j:Int)==(f:Int))=false:=by simp;omega
            have h3:¬x<0:=by omega
            have h4:d=false:=by
             cases d with
             |false=>rfl
             |true=>exact absurd (.inr (.inr (.inr (.inl rfl)))) c
            have h5:(l==0)=false:=by
             have:¬l=0:=fun e=>c (.inr (.inr (.inr (.inr e))));simp [this]
            by_cases b:y<0\/x+l<y
            ·have X:BG (xC L D f i b1 (j+1)=cZ C j (x+l)):=ae (by rw [Jg.out,P.out,ag c,af b]);rcases(by
              by_cases g:y<0
              ·exact .inl g
              ·exact .inr ⟨g,by omega⟩:y<0\/(¬y<0/\x+l<y))with h6|⟨h6,h7⟩
             all_goals
              clear c b;go_wp2_with fail;go_region
              go_wp2_with fail;go_roundw
              case rel=>exact⟨j+1,by omega,by go_num,ae (by rw [X.out];exact Gn K.out j (x+l)),ae (by first|exact(p.out.setCell _ _).drew|exact p.out.drew.setCell _ _)⟩
              case measure=>simp [Ee];omega
            ·have X:BG (xC L D f i b1 (j+1)=C):=ae (by rw [Jg.out,P.out,ag c,ag b]);have h6:¬y<0:=by omega
             have h7:¬x+l<y:=by omega
             clear c b;go_wp2_with fail;go_region
             go_wp2_with fail;go_roundw
             case rel=>exact⟨j+1,by omega,by go_num,ae (by rw [X.out];exact K.out),ae p.out.drew⟩
             case measure=>simp [Ee];omega
          ·obtain rfl:j=12:=by omega
           go_wp2_with fail;go_roundw
           case rel=>exact⟨i+1,by omega,by go_num,ae (by rw [bl.out];exact K.out),p⟩
           case measure=>simp [Ee];omega
        ·obtain rfl:i=12:=by omega
         go_wp2_with fail;go_roundw
         case rel=>exact⟨r+1,by omega,by go_num,ae (by rw [bk.out];exact Q.out),an⟩
         case measure=>simp [Ee];omega
      ·obtain rfl:r=12:=by omega
       have c1:=aj.cell A.out t ht;have l1:=aj.lt A.out;obtain⟨x,G⟩:=ai (jl L D f first 12 t);rw [show qO (jl L D f first 12) t= .int .i64 x by unfold qO;rw [G.out]]at c1;go_wp2_with fail;go_ret;exact⟨aF G.out.symm,jP.out.trans (aq.out.below (by omega) jP.out.size)⟩
def Pl.afn(L:Nat->Nat->Int)(D:Nat->Bool)(f to:Nat)(c:Int)(k:Nat):Bool:=decide (to≠f/\0<=c/\jl L D f k 12 to=c)
def Pl.QE(L:Nat->Nat->Int)(D:Nat->Bool)(f to:Nat):Int:=if to=f then 0 else jl L D f (-1) 12 to
def Pl.refL(L:Nat->Nat->Int)(D:Nat->Bool)(f:Nat):Nat->List (Int×List Int)
 |0=> []
 |k+1=>Pl.refL L D f k++ [(QE L D f k,Pl.hopsL (afn L D f k (QE L D f k)) 12)]
def Pl.QF(es:List aK)(f:Int):List (Int×List Int):=if je es f=0 then Pl.refL (qP (Pl.tS es)) (Pl.tD es) f.toNat 12 else []
theorem Pl.OH{h g:Nat->Bool}(k:Nat)(e:∀i,i<k->h i=g i):Pl.hopsL h k=Pl.hopsL g k:=by
 induction k with
 |zero=>rfl
 |succ k a=>
  unfold Pl.hopsL;rw [e k (by omega),a fun i b=>e i (by omega)]
theorem Pl.GV{h:Nat->Bool}(e:∀i,h i=false)(j k:Nat):Pl.hopsL h j=Pl.hopsL h k:=by
 have key:∀m,Pl.hopsL h m= []:=by
  intro m;induction m with
  |zero=>rfl
  |succ m a=>rw [pR (e m)];exact a
 rw [key j,key k]
theorem Pl.UZ(es:List aK)(f:Int):KC es f=QF es f:=by
 unfold KC QF;by_cases h:je es f=0
 ·rw [af h,af h];have d:f.toNat<12:=by
   unfold je at h;split at h
   ·omega
   ·split at h
    ·omega
    ·omega
  have g:∀a b,a≠b->yN (Pl.tS es) a b=qP (Pl.tS es) a b:=fun a b e=>by unfold qP;rw [ag e]
  have j:∀a,qP (Pl.tS es) a a=0:=fun a=>by unfold qP;rw [af rfl]
  have h0:∀a b,0<=qP (Pl.tS es) a b:=fun a b=>(Ug (fun i=>(lW _).ok) a b).1;generalize f.toNat=n at*;have key:∀k,k<=12->EM (dB (yN (Pl.tS es)) (Pl.tD es) n 12) k=Pl.refL (qP (Pl.tS es)) (Pl.tD es) n k:=by
   intro k;induction k with
   |zero=>intro _;rfl
   |succ k l=>
    intro m;have hc:(dB (yN (Pl.tS es)) (Pl.tD es) n 12).cost k=QE (qP (Pl.tS es)) (Pl.tD es) n k:=by
     unfold QE;by_cases c:k=n
     ·rw [af c,c];exact J4 g j d
     ·rw [ag c];exact Vg g j h0 d (by omega) c
    unfold EM Pl.refL;rw [l (by omega),hc];congr 3
    refine OH 12 fun i o=> ?_;rw [Vf g j h0 d (by omega),hc];rfl
  exact key 12 (qh _)
 ·rw [ag h,ag h]
theorem SA(a:Option Addr)(len cap:Nat)(es:List aK)(f:Int)(w:qL)(h:bI w a len cap es):
  Tn xn 133 #[.slice a len cap,.int .i64 f] w fun e w'=>∃v ts,e= .returned (.tuple #[v,.int .i64 (je es f)])/\qV w' w.heap.size v ts/\Pl.flat ts=QF es f/\xk w.heap.size w w':=by
 have HE:=ae h;clear h;obtain⟨cd,Y⟩:=ai (Pl.fault es);go_enter Tryz.func133,Tryz.ntmps133;go_wp2_with fail;refine(bM a len cap es w HE.out).mono ?_;rw [Y.out];rintro e w1 ⟨rfl,aq⟩;have Q:=ae aq;clear aq;by_cases u:cd=0
 ·subst u;by_cases aD:0<=f/\f<=11
  ·obtain⟨n,rfl⟩:∃n:Nat,f=n:=⟨f.toNat,by omega⟩
   have hn:n<12:=by omega
   have s:decide (0<=(n:Int)/\(n:Int)<=11)=true:=by simp;omega
   have G:BG (je es n=0):=ae (by unfold je;rw [Y.out,ag (by simp),af (by omega)]);have sS:=ae (fun t (ht:t<12) first (aE: -1<=first/\first<=11) w' (hb:xk w.heap.size w w')=>Vq a len cap es n t first w' (HE.out.below hb) Y.out hn ht aE);have av:BG (QF es n=Pl.refL (qP (Pl.tS es)) (Pl.tD es) n 12):=ae (by unfold QF;rw [G.out,af rfl,Zf]);obtain⟨L,HL⟩:=ai (qP (Pl.tS es));obtain⟨D,HD⟩:=ai (Pl.tD es);rw [HL.out,HD.out]at sS av;go_wp2_with (go_at_call 73;refine(dZ _ _ _ _).mono ?_;rw [s];rintro e w' ⟨rfl,r⟩;rw [r];clear r w');go_loopw [7,8] (fun vl i wr=>∃(k:Nat) (v:rU) (ts:List (Int×rU×List Int)),v=vl/\k<=12/\i= .int .i64 k/\BG (qV wr w.heap.size v ts)/\BG (Pl.flat ts=Pl.refL L D n k)/\BG (ts.length=k)/\BG (xk w.heap.size w wr)) (fun _ i _=>12-(Ee i).toNat)
   case atStart=>exact⟨0,.slice none 0 0,[],rfl,by omega,rfl,qV.nil _ _,rfl,rfl,Q⟩
   case round=>
    obtain⟨k,v,ts,ay,hk,rfl,HO,HF,HN,U⟩:=hrel;subst ay;by_cases Z:k<12
    ·obtain⟨c,jD⟩:=ai (QE L D n k);obtain⟨H,HH⟩:=ai (afn L D n k c);have C:BG (∀j:Nat,H j=decide (k≠n/\0<=c/\jl L D n j 12 k=c)):=ae (by intro j;rw [<-HH.out];rfl);rename qL=>l
     have yw:=U.out.size;obtain⟨eb,ad⟩:∃e,((k:Int) != (n:Int))=e:=⟨_,rfl⟩
     have Fg:BG (eb=true↔k≠n):=ae (by rw [<-ad];simp;omega);have F:=bW l (.cells #[.int .i64 (-1),.slice none 0 0] 126);obtain⟨z0,z1,f0,f1,hA⟩:=aQ F;rcases(by
      by_cases g:k=n
      ·exact .inl ⟨by rw [g];simp,by rw [<-jD.out];unfold QE;rw [af g]⟩
      ·exact .inr ⟨by simp;omega,by rw [<-jD.out];unfold QE;rw [ag g]⟩:(((k:Int)==(n:Int))=true/\0=c)\/(((k:Int)==(n:Int))=false/\jl L D n (-1) 12 k=c))with⟨K,rfl⟩|⟨K,ak⟩
     ·have T:=ae (bW l (.cells #[.int .i64 0,.slice none 0 0] 126));have R:=ae ((xx l.heap.size l).alloc (qh _) (.cells #[.int .i64 0,.slice none 0 0] 126));have a8:((k:Int) != (n:Int))=false:=by simpa [bne]using K
      have Tj:BG (k=n):=ae (by simp at K;omega);clear ad Fg;go_wp2_with fail;go_loopw [10] (fun i wr=>∃(j:Nat) (J:rU),j<=12/\i= .int .i64 j/\BG (wr.heap[l.heap.size]? =some (.cells #[.int .i64 0,J] 126))/\BG (oh wr (l.heap.size+1) J (Pl.hopsL H j))/\BG (xk l.heap.size l wr)) (fun i _=>12-(Ee i).toNat)
      case atStart=>exact⟨0,.slice none 0 0,by omega,rfl,T,oh.nil _ _,R⟩
      case round=>
       obtain⟨j,J,hj,rfl,V,I,o⟩:=hrel;obtain⟨a3,d,rfl⟩:=I.out.slice;obtain⟨x0,x1,q0,q1,ar⟩:=aQ V.out;obtain⟨E,X⟩:=ai ((Pl.hopsL H j).length);rw [X.out]at V I x1;have IG:=o.out.size;have O:BG (Pl.hopsL H j=Pl.hopsL H 12):=ae (GV (fun i=>by
        rw [C.out];simp only [Ja];rintro⟨M,_⟩;exact M Tj.out) j 12)
       have HOr:=ae (HO.out.below o.out);have x:=ae (I.out.mono (PW _));rw [O.out]at x;by_cases M:j<12
       all_goals
        go_wp2_with (at_builtin;refine xE rfl (.tmp 65) (.tmp 67) rfl w.heap.size v ts 0 (.slice a3 E d) (Pl.hopsL H 12) rfl HOr.out x.out (by omega) rfl (by have:=HN.out;omega) ?_;intro v7 w7 y m;have W:=ae y;have IJ:=ae m;clear y m);go_roundw
        case rel=>
         refine⟨k+1,_,ts++ [(0,.slice a3 E d,Pl.hopsL H 12)],rfl,by omega,by go_num,W,ae ?_,ae (by simp [HN.out]),(U.out.trans (o.out.mono yw)).trans IJ.out⟩;show(ts++_).map _=Pl.refL L D n k++_;rw [aac,jD.out,HH.out,<-HF.out];rfl
        case measure=>simp [Ee];omega
     ·have a6:=ae ak;clear ak;go_wp2_with fail;refine(sS.out k Z (-1) (by omega) _ (U.out.alloc yw _)).mono ?_;rw [a6.out];rintro e w5 ⟨rfl,an⟩;have N:xk (l.heap.size+1) (l.alloc (.cells #[.int .i64 (-1),.slice none 0 0] 126)) w5:=by simpa using an
      have q:=(N.block _ (Jj _)).trans F;have T:=ae (ve q (.int .i64 c));have R:=ae ((((xx l.heap.size l).alloc (qh _) (.cells #[.int .i64 (-1),.slice none 0 0] 126)).trans (N.mono (Uz _))).setCell (p:=⟨l.heap.size,0,none⟩) (qh _) (.int .i64 c));obtain⟨y0,y1,g0,g1,bh⟩:=aQ q;clear an N q;go_wp2_with fail;go_loopw [10] (fun i wr=>∃(j:Nat) (J:rU),j<=12/\i= .int .i64 j/\BG (wr.heap[l.heap.size]? =some (.cells #[.int .i64 c,J] 126))/\BG (oh wr (l.heap.size+1) J (Pl.hopsL H j))/\BG (xk l.heap.size l wr)) (fun i _=>12-(Ee i).toNat)
      case atStart=>exact⟨0,.slice none 0 0,by omega,rfl,T,oh.nil _ _,R⟩
      case round=>
       obtain⟨j,J,hj,rfl,V,I,o⟩:=hrel;obtain⟨a3,d,rfl⟩:=I.out.slice;obtain⟨x0,x1,q0,q1,ar⟩:=aQ V.out;obtain⟨E,X⟩:=ai ((Pl.hopsL H j).length);rw [X.out]at V I x1;have IG:=o.out.size;by_cases z:j<12/\eb=true/\0<=(c:Int)
       ·obtain⟨bc,rfl,aL⟩:=z;have aa:k≠n:=Fg.out.1 rfl;obtain⟨b,Am⟩:=ai (jl L D n j 12 k);have hlen:=DT H j;have bb:E<=j:=by have:=X.out;omega
        go_wp2_with fail;go_region_with (go_at_call 169;refine(sS.out k Z j (by omega) _ ((U.out.trans (o.out.mono yw)).drew)).mono ?_;rw [Am.out];rintro e w6 ⟨rfl,B⟩;have S:=ae ((B.block l.heap.size (by simpa using ar)).trans V.out);have aw:=ae (oh.below (w:=wr.drew) I.out B);have vW:=ae (o.out.drew.trans (B.mono (by simpa using IG)));obtain⟨p0,p1,r0,r1,bg⟩:=aQ S.out;clear B)
        all_goals
         have E8:=vW.out.size;by_cases A:b=c
         ·have P:=ae (wW (h:=H) (k:=j) (by rw [C.out,Am.out];simp [aa,A,aL]));have aM:(b==c)=true:=by simp [A]
          go_wp2_with (at_builtin;refine nX Xc rfl (.tmp 60) (.tmp 62) rfl (l.heap.size+1) (.slice a3 E d) (Pl.hopsL H j) j rfl aw.out (by omega) rfl (by have:=X.out;omega) ?_;intro v7 w7 y m;obtain⟨a7,aR,rfl⟩:=y.slice;obtain⟨n7,CP⟩:=ai ((Pl.hopsL H j++ [(j:Int)]).length);rw [CP.out]at y;have W:=ae y;have IJ:=ae m;have h7:=(m.block l.heap.size (Jj _)).trans S.out;obtain⟨s0,s1,t0,t1,bd⟩:=aQ h7;have H7:=ae h7;rw [CP.out];clear y m h7);go_roundw
          case rel=>
           refine⟨j+1,.slice a7 n7 aR,by omega,by go_num,gK H7.out _,ae ?_,(vW.out.trans (IJ.out.mono (Uz _))).setCell (qh _) _⟩;rw [P.out];exact BD W.out (Jj _) _
          case measure=>simp [Ee];omega
         ·have P:=ae (pR (h:=H) (k:=j) (by rw [C.out,Am.out];simp [A]));have aM:(b==c)=false:=by simp [A]
          go_wp2_with fail;go_roundw
          case rel=>exact⟨j+1,.slice a3 E d,by omega,by go_num,S,ae (by rw [P.out];exact aw.out),vW⟩
          case measure=>simp [Ee];omega
       ·have O:BG (Pl.hopsL H j=Pl.hopsL H 12):=ae (by
         by_cases g:j<12
         ·refine GV (fun i=> ?_) j 12;rw [C.out];simp only [Ja];rintro⟨M,h2,_⟩;exact z ⟨g,Fg.out.2 M,h2⟩
         ·rw [show j=12 by omega])
        have HOr:=ae (HO.out.below o.out);have x:=ae (I.out.mono (PW _));rw [O.out]at x;rcases(by
         by_cases g1:j<12
         ·cases eb with
          |false=>exact .inr (.inl ⟨g1,rfl⟩)
          |true=>exact .inr (.inr ⟨g1,rfl,by
            rcases Int.lt_or_le (c:Int) 0 with h|h
            ·exact h
            ·exact absurd ⟨g1,rfl,h⟩ z⟩)
         ·exact .inl g1:¬j<12\/(j<12/\eb=false)\/(j<12/\eb=true/\(c:Int)<0))with M|⟨M,rfl⟩|⟨M,rfl,h2⟩
        all_goals
         clear z;go_wp2_with (at_builtin;refine xE rfl (.tmp 65) (.tmp 67) rfl w.heap.size v ts c (.slice a3 E d) (Pl.hopsL H 12) rfl HOr.out x.out (by omega) rfl (by have:=HN.out;omega) ?_;intro v7 w7 y m;have W:=ae y;have IJ:=ae m;clear y m);go_roundw
         case rel=>
          refine⟨k+1,_,ts++ [(c,.slice a3 E d,Pl.hopsL H 12)],rfl,by omega,by go_num,W,ae ?_,ae (by simp [HN.out]),(U.out.trans (o.out.mono yw)).trans IJ.out⟩;show(ts++_).map _=Pl.refL L D n k++_;rw [aac,jD.out,HH.out,<-HF.out];rfl
         case measure=>simp [Ee];omega
    ·obtain rfl:k=12:=by omega
     go_wp2_with fail;refine GX (WZ rfl _ _ _) rfl ⟨v,ts,ni rfl G.out.symm,HO.out,by rw [HF.out,av.out],U.out⟩
  ·have s:decide (0<=f/\f<=11)=false:=by simp;omega
   have G:BG (je es f=2):=ae (by unfold je;rw [Y.out,ag (by simp),ag aD]);go_wp2_with (go_at_call 73;refine(dZ _ _ _ _).mono ?_;rw [s];rintro e w' ⟨rfl,r⟩;rw [r];clear r w');refine GX (WZ rfl _ _ _) rfl ⟨_,[],ni rfl G.out.symm,qV.nil _ _,?_,Q.out⟩;unfold QF;rw [G.out,ag (by decide)];rfl
 ·have G:BG (je es f=cd):=ae (by unfold je;rw [Y.out,af u]);have bj:(cd==0)=false:=by simp [u]
  have ba:(cd != 0)=true:=by simp [u]
  go_wp2_with fail;refine GX (WZ rfl _ _ _) rfl ⟨_,[],ni rfl G.out.symm,qV.nil _ _,?_,Q.out⟩;unfold QF;rw [G.out,ag u];rfl
theorem Pl.XJ{es:List aK}{n:Nat}{p:Int×Int}(h:p∈Pl.tP es n):dJ p:=KT _ p h
theorem aff{Q:Exit->Tq->qL->Prop}{a0:Tq}{l:qL}{a:Option Addr}{len cap:Nat}{es:List aK}{n k b pb:Nat}{R:Bool}
  (S:a0.tmps.size=157)
  (E:a0.tmps[0]?.getD oC= .slice a len cap)
  (D:a0.tmps[1]?.getD oC= .int .i64 n)
  (r:a0.tmps[11]?.getD oC= .pointer (some ⟨pb,0,none⟩))
  (Z:bI l a len cap es)
  (T:Pl.fault es=0)
  (hn:n<12)
  (m:pb<l.heap.size)
  (X:l.cell? ⟨pb,0,none⟩=some (.int .i64 k))
  (V:l.cell? ⟨pb,1,none⟩=some (.int .i64 b))
  (Y:decide (((k:Int),(b:Int))∈Pl.tP es n)=R)
  (L:∀xs W,xs.length=5->xs.getD 4 oC= .bool R->xk l.heap.size l W->Q .normal {a0 with tmps:=setFrom a0.tmps 42 xs} W):
  ∀ops,dX Qi 13=some ops->(LM 13 ops true).wp xn Q a0 l:=by
 intro ops aH;have M:=Iy (aH.symm.trans (rfl:dX Qi 13=some _));subst M;clear aH;have f:42+5<=a0.tmps.size:=by omega
 refine OE (by kernel_rfl) ?_;refine cO (kC a0 42 5 5 (fun k=>some k) (VV 49 l.heap.size (Pl.tP es n) 2 true [.slice a len cap,.int .i64 n,oC,.agg #[.int .i64 k,.int .i64 b],.bool R]) (fun W=>xk l.heap.size l W)) ?_ ?_ _ _ _ _ (by decide+kernel) ?_ (bn _ _ _)
 ·rintro i listed q W C jS c;rw [Qe]at C;obtain⟨J,o,w,d⟩:=C;have sN:i<5:=(Array.getElem?_eq_some_iff.1 w).1;have H:=(c.out (k:=0) (by omega)).trans E;have G:=(c.out (k:=1) (by omega)).trans D;have s:=(c.out (k:=11) (by omega)).trans r;have F:=(c.cw.cell (p:=⟨pb,0,none⟩) m).trans X;have p1:=(c.cw.cell (p:=⟨pb,1,none⟩) m).trans V;have x:i=0\/i=1\/i=2\/i=3\/i=4:=by omega
  rcases x with rfl|rfl|rfl|rfl|rfl
  all_goals
   simp at w;subst w
  ·refine au rfl rfl ?_;simp [oP,go_sem,H];exact c.put (i:=0) (j:=0) rfl (by omega) (fun _ _ h=>h) (VV.of (by decide) rfl) c.cw
  ·refine au rfl rfl ?_;simp [oP,go_sem,G];exact c.put (i:=1) (j:=1) rfl (by omega) (fun _ _ h=>h) (VV.of (by decide) rfl) c.cw
  ·refine au rfl rfl ?_;have P:q.tmps[42]?.getD oC= .slice a len cap:=(c.at (k:=0) (j:=0) f rfl (by omega) (d ⟨0,.data⟩ (by simp) rfl)).eq (by decide);have O:q.tmps[43]?.getD oC= .int .i64 n:=(c.at (k:=1) (j:=1) f rfl (by omega) (d ⟨1,.data⟩ (by simp) rfl)).eq (by decide);simp [oP,go_sem,P,O];refine(qK a len cap es n W (Z.below c.cw) T (by omega)).mono ?_;rintro e U ⟨vl,rfl,v,g⟩;exact c.put (i:=2) (j:=2) rfl (by omega) (VV.grow g) (VV.own rfl (v.mono c.cw.size)) (c.cw.trans (g.mono c.cw.size))
  ·refine au rfl rfl ?_;simp [oP,go_sem,s,F,p1];exact c.put (i:=3) (j:=3) rfl (by omega) (fun _ _ h=>h) (VV.of (by decide) rfl) c.cw
  ·refine au rfl rfl ?_;have N:q.tmps[45]?.getD oC= .agg #[.int .i64 k,.int .i64 b]:=(c.at (k:=3) (j:=3) f rfl (by omega) (d ⟨3,.data⟩ (by simp) rfl)).eq (by decide);have hP:=(c.at (k:=2) (j:=2) f rfl (by omega) (d ⟨2,.data⟩ (by simp) rfl)).1 rfl rfl;obtain⟨B,A,z,u,_⟩:=hP.shape (fun p hp=>XJ hp);have z:q.tmps[44]?.getD oC= .slice B (Pl.tP es n).length A:=z;simp [oP,go_sem,z,N];refine(sO B _ A (Pl.tP es n) k b W u).mono ?_;rintro e U ⟨rfl,g⟩;rw [Y];exact c.put (i:=4) (j:=4) rfl (by omega) (VV.grow g) (VV.of (by decide) rfl) (c.cw.trans (g.mono c.cw.size))
 ·rintro listed q W I c;have y:=mX (by decide+kernel) c.ls I;obtain⟨xs,t,rfl,K⟩:=c.fr;exact L xs W t ((K 4 4 rfl (y 4 (by decide))).eq (by decide)) c.cw
 ·exact kC.start f (xx _ _).drew
theorem afe{Q:Exit->Tq->qL->Prop}{a0:Tq}{m:qL}{a:Option Addr}{len cap:Nat}{es:List aK}{n k b pb:Nat}{j g2 c2 rb:Nat}{c mm:Int}{b3 b4 b5:Bool}
  (aE:a0.tmps.size=157)
  (q0:a0.tmps[0]?.getD oC= .slice a len cap)
  (q1:a0.tmps[1]?.getD oC= .int .i64 n)
  (q6:a0.tmps[6]?.getD oC= .slice (some ⟨g2,0,none⟩) 12 c2)
  (y:a0.tmps[11]?.getD oC= .pointer (some ⟨pb,0,none⟩))
  (x:a0.tmps[12]?.getD oC= .pointer (some ⟨rb,0,none⟩))
  (w:a0.tmps[13]?.getD oC= .int .i64 j)
  (HE:bI m a len cap es)
  (XA:Pl.fault es=0)
  (v:pb<m.heap.size)
  (G:g2<m.heap.size)
  (B:rb<m.heap.size)
  (P0:m.cell? ⟨pb,0,none⟩=some (.int .i64 k))
  (P1:m.cell? ⟨pb,1,none⟩=some (.int .i64 b))
  (R3:m.cell? ⟨rb,3,none⟩=some (.int .i64 mm))
  (LJ:(j:Int)<12)
  (F:((j:Int) != (n:Int))=true)
  (Z0:m.cell? ⟨g2,j*2,none⟩=some (.int .i64 c))
  (I:0<=c)
  (ay:decide (((k:Int),(b:Int))∈Pl.tP es j)=b3)
  (K:decide (mm<0)=b4)
  (J:decide (c<mm)=b5)
  (hQ:∀xs W,xs.length=33->xs.getD 32 oC= .bool (b3&&(b4||b5))->xk m.heap.size m W->Q .normal {a0 with tmps:=setFrom a0.tmps 58 xs} W):
  ∀ops,dX Qi 19=some ops->(LM 19 ops true).wp xn Q a0 m:=by
 intro ops aH;have eo:=Iy (aH.symm.trans (rfl:dX Qi 19=some _));subst eo;clear aH;have g:58+33<=a0.tmps.size:=by omega
 refine OE (by kernel_rfl) ?_
 refine cO (kC a0 58 33 33 (fun k=>some k) (VV 49 m.heap.size (Pl.tP es j) 14 true [.int .i64 j,.int .i64 n,.bool true,.bool true,.slice (some ⟨g2,0,none⟩) 12 c2,.int .i64 j,.pointer (some ⟨g2,j*2,none⟩),.pointer (some ⟨g2,j*2,none⟩),.int .i64 c,.bool true,.bool true,.bool true,.slice a len cap,.int .i64 j,oC,.agg #[.int .i64 k,.int .i64 b],.bool b3,.bool b3,.bool b3,cond b3 (.pointer (some ⟨rb,3,none⟩)) oC,cond b3 (.int .i64 mm) oC,cond b3 (.bool b4) oC,cond b3 (.bool b4) oC,cond b3 (cond b4 oC (.slice (some ⟨g2,0,none⟩) 12 c2)) oC,cond b3 (cond b4 oC (.int .i64 j)) oC,cond b3 (cond b4 oC (.pointer (some ⟨g2,j*2,none⟩))) oC,cond b3 (cond b4 oC (.pointer (some ⟨g2,j*2,none⟩))) oC,cond b3 (cond b4 oC (.int .i64 c)) oC,cond b3 (cond b4 oC (.pointer (some ⟨rb,3,none⟩))) oC,cond b3 (cond b4 oC (.int .i64 mm)) oC,cond b3 (cond b4 oC (.bool b5)) oC,cond b3 (.bool (b4||b5)) oC,.bool (b3&&(b4||b5))]) (fun W=>xk m.heap.size m W)) ?_ ?_ _ _ _ _ (by decide+kernel) ?_ (bn _ _ _)
 ·rintro i listed l W hi jS f;rw [Qe]at hi;obtain⟨aD,o,E,d⟩:=hi;have sN:i<33:=(Array.getElem?_eq_some_iff.1 E).1;have o0:=(f.out (k:=0) (by omega)).trans q0;have o1:=(f.out (k:=1) (by omega)).trans q1;have o6:=(f.out (k:=6) (by omega)).trans q6;have z:=(f.out (k:=11) (by omega)).trans y;have u:=(f.out (k:=12) (by omega)).trans x;have r:=(f.out (k:=13) (by omega)).trans w;have p0:=(f.cw.cell (p:=⟨pb,0,none⟩) v).trans P0;have p1:=(f.cw.cell (p:=⟨pb,1,none⟩) v).trans P1;have z0:=(f.cw.cell (p:=⟨g2,j*2,none⟩) G).trans Z0;have r3:=(f.cw.cell (p:=⟨rb,3,none⟩) B).trans R3;have H:i=0\/i=1\/i=2\/i=3\/i=4\/i=5\/i=6\/i=7\/i=8\/i=9\/i=10\/i=11\/i=12\/i=13\/i=14\/i=15\/i=16\/i=17\/i=18\/i=19\/i=20\/i=21\/i=22\/i=23\/i=24\/i=25\/i=26\/i=27\/i=28\/i=29\/i=30\/i=31\/i=32:=by omega
  rcases H with rfl|rfl|rfl|rfl|rfl|rfl|rfl|rfl|rfl|rfl|rfl|rfl|rfl|rfl|rfl|rfl|rfl|rfl|rfl|rfl|rfl|rfl|rfl|rfl|rfl|rfl|rfl|rfl|rfl|rfl|rfl|rfl|rfl
  all_goals
   simp at E;subst E
  ·refine au rfl rfl ?_;simp [oP,go_sem,r];exact f.put (i:=0) (j:=0) rfl (by omega) (fun _ _ h=>h) (VV.of (by decide) rfl) f.cw
  ·refine au rfl rfl ?_;simp [oP,go_sem,o1];exact f.put (i:=1) (j:=1) rfl (by omega) (fun _ _ h=>h) (VV.of (by decide) rfl) f.cw
  ·refine au rfl rfl ?_;have e0:l.tmps[58]?.getD oC= .int .i64 j:=(f.at (k:=0) (j:=0) g rfl (by omega) (d ⟨0,.data⟩ (by simp) rfl)).eq (by decide);have e1:l.tmps[59]?.getD oC= .int .i64 n:=(f.at (k:=1) (j:=1) g rfl (by omega) (d ⟨1,.data⟩ (by simp) rfl)).eq (by decide);simp [oP,go_sem,e0,e1,F];exact f.put (i:=2) (j:=2) rfl (by omega) (fun _ _ h=>h) (VV.of (by decide) rfl) f.cw
  ·refine au rfl rfl ?_;have e2:l.tmps[60]?.getD oC= .bool true:=(f.at (k:=2) (j:=2) g rfl (by omega) (d ⟨2,.data⟩ (by simp) rfl)).eq (by decide);simp [oP,go_sem,e2];exact f.put (i:=3) (j:=3) rfl (by omega) (fun _ _ h=>h) (VV.of (by decide) rfl) f.cw
  ·refine aJ rfl ((aB (c:=true) rfl rfl rfl (show l.tmps[61]?.getD oC= .bool true from(f.at (k:=3) (j:=3) g rfl (by omega) (d ⟨3,.guard⟩ (by simp) rfl)).eq (by decide))).trans rfl) ?_;simp [oP,go_sem,o6];exact f.put (i:=4) (j:=4) rfl (by omega) (fun _ _ h=>h) (VV.of (by decide) rfl) f.cw
  ·refine aJ rfl ((aB (c:=true) rfl rfl rfl (show l.tmps[61]?.getD oC= .bool true from(f.at (k:=3) (j:=3) g rfl (by omega) (d ⟨3,.guard⟩ (by simp) rfl)).eq (by decide))).trans rfl) ?_;simp [oP,go_sem,r];exact f.put (i:=5) (j:=5) rfl (by omega) (fun _ _ h=>h) (VV.of (by decide) rfl) f.cw
  ·refine aJ rfl ((aB (c:=true) rfl rfl rfl (show l.tmps[61]?.getD oC= .bool true from(f.at (k:=3) (j:=3) g rfl (by omega) (d ⟨3,.guard⟩ (by simp) rfl)).eq (by decide))).trans rfl) ?_;have e4:l.tmps[62]?.getD oC= .slice (some ⟨g2,0,none⟩) 12 c2:=(f.at (k:=4) (j:=4) g rfl (by omega) (d ⟨4,.data⟩ (by simp) rfl)).eq (by decide);have e5:l.tmps[63]?.getD oC= .int .i64 j:=(f.at (k:=5) (j:=5) g rfl (by omega) (d ⟨5,.data⟩ (by simp) rfl)).eq (by decide);simp [oP,go_sem,e4,e5,LJ];exact f.put (i:=6) (j:=6) rfl (by omega) (fun _ _ h=>h) (VV.of (by decide) rfl) f.cw
  ·refine aJ rfl ((aB (c:=true) rfl rfl rfl (show l.tmps[61]?.getD oC= .bool true from(f.at (k:=3) (j:=3) g rfl (by omega) (d ⟨3,.guard⟩ (by simp) rfl)).eq (by decide))).trans rfl) ?_;have e6:l.tmps[64]?.getD oC= .pointer (some ⟨g2,j*2,none⟩):=(f.at (k:=6) (j:=6) g rfl (by omega) (d ⟨6,.data⟩ (by simp) rfl)).eq (by decide);simp [oP,go_sem,e6];exact f.put (i:=7) (j:=7) rfl (by omega) (fun _ _ h=>h) (VV.of (by decide) rfl) f.cw
  ·refine aJ rfl ((aB (c:=true) rfl rfl rfl (show l.tmps[61]?.getD oC= .bool true from(f.at (k:=3) (j:=3) g rfl (by omega) (d ⟨3,.guard⟩ (by simp) rfl)).eq (by decide))).trans rfl) ?_;have e7:l.tmps[65]?.getD oC= .pointer (some ⟨g2,j*2,none⟩):=(f.at (k:=7) (j:=7) g rfl (by omega) (d ⟨7,.data⟩ (by simp) rfl)).eq (by decide);simp [oP,go_sem,e7,z0];exact f.put (i:=8) (j:=8) rfl (by omega) (fun _ _ h=>h) (VV.of (by decide) rfl) f.cw
  ·refine aJ rfl ((aB (c:=true) rfl rfl rfl (show l.tmps[61]?.getD oC= .bool true from(f.at (k:=3) (j:=3) g rfl (by omega) (d ⟨3,.guard⟩ (by simp) rfl)).eq (by decide))).trans rfl) ?_;have e8:l.tmps[66]?.getD oC= .int .i64 c:=(f.at (k:=8) (j:=8) g rfl (by omega) (d ⟨8,.data⟩ (by simp) rfl)).eq (by decide);simp [oP,go_sem,e8,I];exact f.put (i:=9) (j:=9) rfl (by omega) (fun _ _ h=>h) (VV.of (by decide) rfl) f.cw
  ·refine au rfl rfl ?_;have e3:l.tmps[61]?.getD oC= .bool true:=(f.at (k:=3) (j:=3) g rfl (by omega) (d ⟨3,.data⟩ (by simp) rfl)).eq (by decide);have e9:l.tmps[67]?.getD oC= .bool true:=(f.at (k:=9) (j:=9) g rfl (by omega) (d ⟨9,.data⟩ (by simp) rfl)).eq (by decide);simp [oP,go_sem,e3,e9];exact f.put (i:=10) (j:=10) rfl (by omega) (fun _ _ h=>h) (VV.of (by decide) rfl) f.cw
  ·refine au rfl rfl ?_;have aw:l.tmps[68]?.getD oC= .bool true:=(f.at (k:=10) (j:=10) g rfl (by omega) (d ⟨10,.data⟩ (by simp) rfl)).eq (by decide);simp [oP,go_sem,aw];exact f.put (i:=11) (j:=11) rfl (by omega) (fun _ _ h=>h) (VV.of (by decide) rfl) f.cw
  ·refine aJ rfl ((aB (c:=true) rfl rfl rfl (show l.tmps[69]?.getD oC= .bool true from(f.at (k:=11) (j:=11) g rfl (by omega) (d ⟨11,.guard⟩ (by simp) rfl)).eq (by decide))).trans rfl) ?_;simp [oP,go_sem,o0];exact f.put (i:=12) (j:=12) rfl (by omega) (fun _ _ h=>h) (VV.of (by decide) rfl) f.cw
  ·refine aJ rfl ((aB (c:=true) rfl rfl rfl (show l.tmps[69]?.getD oC= .bool true from(f.at (k:=11) (j:=11) g rfl (by omega) (d ⟨11,.guard⟩ (by simp) rfl)).eq (by decide))).trans rfl) ?_;simp [oP,go_sem,r];exact f.put (i:=13) (j:=13) rfl (by omega) (fun _ _ h=>h) (VV.of (by decide) rfl) f.cw
  ·refine aJ rfl ((aB (c:=true) rfl rfl rfl (show l.tmps[69]?.getD oC= .bool true from(f.at (k:=11) (j:=11) g rfl (by omega) (d ⟨11,.guard⟩ (by simp) rfl)).eq (by decide))).trans rfl) ?_;have ar:l.tmps[70]?.getD oC= .slice a len cap:=(f.at (k:=12) (j:=12) g rfl (by omega) (d ⟨12,.data⟩ (by simp) rfl)).eq (by decide);have aq:l.tmps[71]?.getD oC= .int .i64 j:=(f.at (k:=13) (j:=13) g rfl (by omega) (d ⟨13,.data⟩ (by simp) rfl)).eq (by decide);simp [oP,go_sem,ar,aq];refine(qK a len cap es j W (HE.below f.cw) XA (by omega)).mono ?_;rintro e W' ⟨vl,rfl,D,q⟩;exact f.put (i:=14) (j:=14) rfl (by omega) (VV.grow q) (VV.own rfl (D.mono f.cw.size)) (f.cw.trans (q.mono f.cw.size))
  ·refine aJ rfl ((aB (c:=true) rfl rfl rfl (show l.tmps[69]?.getD oC= .bool true from(f.at (k:=11) (j:=11) g rfl (by omega) (d ⟨11,.guard⟩ (by simp) rfl)).eq (by decide))).trans rfl) ?_;simp [oP,go_sem,z,p0,p1];exact f.put (i:=15) (j:=15) rfl (by omega) (fun _ _ h=>h) (VV.of (by decide) rfl) f.cw
  ·refine aJ rfl ((aB (c:=true) rfl rfl rfl (show l.tmps[69]?.getD oC= .bool true from(f.at (k:=11) (j:=11) g rfl (by omega) (d ⟨11,.guard⟩ (by simp) rfl)).eq (by decide))).trans rfl) ?_;have an:l.tmps[73]?.getD oC= .agg #[.int .i64 k,.int .i64 b]:=(f.at (k:=15) (j:=15) g rfl (by omega) (d ⟨15,.data⟩ (by simp) rfl)).eq (by decide);have hP:=(f.at (k:=14) (j:=14) g rfl (by omega) (d ⟨14,.data⟩ (by simp) rfl)).1 rfl rfl;obtain⟨pa,pc,M,C,_⟩:=hP.shape (fun p hp=>XJ hp);have M:l.tmps[72]?.getD oC= .slice pa (Pl.tP es j).length pc:=M;simp [oP,go_sem,M,an];refine(sO pa _ pc (Pl.tP es j) k b W C).mono ?_;rintro e W' ⟨rfl,q⟩;rw [ay];exact f.put (i:=16) (j:=16) rfl (by omega) (VV.grow q) (VV.of (by decide) rfl) (f.cw.trans (q.mono f.cw.size))
  ·refine au rfl rfl ?_;have av:l.tmps[69]?.getD oC= .bool true:=(f.at (k:=11) (j:=11) g rfl (by omega) (d ⟨11,.data⟩ (by simp) rfl)).eq (by decide);have ak:l.tmps[74]?.getD oC= .bool b3:=(f.at (k:=16) (j:=16) g rfl (by omega) (d ⟨16,.data⟩ (by simp) rfl)).eq (by decide);simp [oP,go_sem,av,ak];exact f.put (i:=17) (j:=17) rfl (by omega) (fun _ _ h=>h) (VV.of (by decide) rfl) f.cw
  ·refine au rfl rfl ?_;have ad:l.tmps[75]?.getD oC= .bool b3:=(f.at (k:=17) (j:=17) g rfl (by omega) (d ⟨17,.data⟩ (by simp) rfl)).eq (by decide);simp [oP,go_sem,ad];exact f.put (i:=18) (j:=18) rfl (by omega) (fun _ _ h=>h) (VV.of (by decide) rfl) f.cw
  ·cases b3 with
   |false=>
    refine bZ rfl ((aB (c:=false) rfl rfl rfl (show l.tmps[76]?.getD oC= .bool false from(f.at (k:=18) (j:=18) g rfl (by omega) (d ⟨18,.guard⟩ (by simp) rfl)).eq (by decide))).trans rfl) ?_;exact f.put (i:=19) (j:=19) rfl (by omega) (fun _ _ h=>h) (VV.of (by decide) rfl) f.cw
   |true=>
    refine aJ rfl ((aB (c:=true) rfl rfl rfl (show l.tmps[76]?.getD oC= .bool true from(f.at (k:=18) (j:=18) g rfl (by omega) (d ⟨18,.guard⟩ (by simp) rfl)).eq (by decide))).trans rfl) ?_;simp [oP,go_sem,u];exact f.put (i:=19) (j:=19) rfl (by omega) (fun _ _ h=>h) (VV.of (by decide) rfl) f.cw
  ·cases b3 with
   |false=>
    refine bZ rfl ((aB (c:=false) rfl rfl rfl (show l.tmps[76]?.getD oC= .bool false from(f.at (k:=18) (j:=18) g rfl (by omega) (d ⟨18,.guard⟩ (by simp) rfl)).eq (by decide))).trans rfl) ?_;exact f.put (i:=20) (j:=20) rfl (by omega) (fun _ _ h=>h) (VV.of (by decide) rfl) f.cw
   |true=>
    refine aJ rfl ((aB (c:=true) rfl rfl rfl (show l.tmps[76]?.getD oC= .bool true from(f.at (k:=18) (j:=18) g rfl (by omega) (d ⟨18,.guard⟩ (by simp) rfl)).eq (by decide))).trans rfl) ?_;have aa:l.tmps[77]?.getD oC= .pointer (some ⟨rb,3,none⟩):=(f.at (k:=19) (j:=19) g rfl (by omega) (d ⟨19,.data⟩ (by simp) rfl)).eq (by decide);simp [oP,go_sem,aa,r3];exact f.put (i:=20) (j:=20) rfl (by omega) (fun _ _ h=>h) (VV.of (by decide) rfl) f.cw
  ·cases b3 with
   |false=>
    refine bZ rfl ((aB (c:=false) rfl rfl rfl (show l.tmps[76]?.getD oC= .bool false from(f.at (k:=18) (j:=18) g rfl (by omega) (d ⟨18,.guard⟩ (by simp) rfl)).eq (by decide))).trans rfl) ?_;exact f.put (i:=21) (j:=21) rfl (by omega) (fun _ _ h=>h) (VV.of (by decide) rfl) f.cw
   |true=>
    refine aJ rfl ((aB (c:=true) rfl rfl rfl (show l.tmps[76]?.getD oC= .bool true from(f.at (k:=18) (j:=18) g rfl (by omega) (d ⟨18,.guard⟩ (by simp) rfl)).eq (by decide))).trans rfl) ?_;have Z:l.tmps[78]?.getD oC= .int .i64 mm:=(f.at (k:=20) (j:=20) g rfl (by omega) (d ⟨20,.data⟩ (by simp) rfl)).eq (by decide);simp [oP,go_sem,Z,K];exact f.put (i:=21) (j:=21) rfl (by omega) (fun _ _ h=>h) (VV.of (by decide) rfl) f.cw
  ·cases b3 with
   |false=>
    refine bZ rfl ((aB (c:=false) rfl rfl rfl (show l.tmps[76]?.getD oC= .bool false from(f.at (k:=18) (j:=18) g rfl (by omega) (d ⟨18,.guard⟩ (by simp) rfl)).eq (by decide))).trans rfl) ?_;exact f.put (i:=22) (j:=22) rfl (by omega) (fun _ _ h=>h) (VV.of (by decide) rfl) f.cw
   |true=>
    refine aJ rfl ((aB (c:=true) rfl rfl rfl (show l.tmps[76]?.getD oC= .bool true from(f.at (k:=18) (j:=18) g rfl (by omega) (d ⟨18,.guard⟩ (by simp) rfl)).eq (by decide))).trans rfl) ?_;have Y:l.tmps[79]?.getD oC= .bool b4:=(f.at (k:=21) (j:=21) g rfl (by omega) (d ⟨21,.data⟩ (by simp) rfl)).eq (by decide);simp [oP,go_sem,Y];exact f.put (i:=22) (j:=22) rfl (by omega) (fun _ _ h=>h) (VV.of (by decide) rfl) f.cw
  ·cases b3 with
   |false=>
    refine bZ rfl (iy rfl rfl rfl (show l.tmps[80]?.getD oC=oC from(f.at (k:=22) (j:=22) g rfl (by omega) (d ⟨22,.guard⟩ (by simp) rfl)).eq (by decide))) ?_;exact f.put (i:=23) (j:=23) rfl (by omega) (fun _ _ h=>h) (VV.of (by decide) rfl) f.cw
   |true=>
    cases b4 with
    |false=>
     refine aJ rfl ((aB (c:=false) rfl rfl rfl (show l.tmps[80]?.getD oC= .bool false from(f.at (k:=22) (j:=22) g rfl (by omega) (d ⟨22,.guard⟩ (by simp) rfl)).eq (by decide))).trans rfl) ?_;simp [oP,go_sem,o6];exact f.put (i:=23) (j:=23) rfl (by omega) (fun _ _ h=>h) (VV.of (by decide) rfl) f.cw
    |true=>
     refine bZ rfl ((aB (c:=true) rfl rfl rfl (show l.tmps[80]?.getD oC= .bool true from(f.at (k:=22) (j:=22) g rfl (by omega) (d ⟨22,.guard⟩ (by simp) rfl)).eq (by decide))).trans rfl) ?_;exact f.put (i:=23) (j:=23) rfl (by omega) (fun _ _ h=>h) (VV.of (by decide) rfl) f.cw
  ·cases b3 with
   |false=>
    refine bZ rfl (iy rfl rfl rfl (show l.tmps[80]?.getD oC=oC from(f.at (k:=22) (j:=22) g rfl (by omega) (d ⟨22,.guard⟩ (by simp) rfl)).eq (by decide))) ?_;exact f.put (i:=24) (j:=24) rfl (by omega) (fun _ _ h=>h) (VV.of (by decide) rfl) f.cw
   |true=>
    cases b4 with
    |false=>
     refine aJ rfl ((aB (c:=false) rfl rfl rfl (show l.tmps[80]?.getD oC= .bool false from(f.at (k:=22) (j:=22) g rfl (by omega) (d ⟨22,.guard⟩ (by simp) rfl)).eq (by decide))).trans rfl) ?_;simp [oP,go_sem,r];exact f.put (i:=24) (j:=24) rfl (by omega) (fun _ _ h=>h) (VV.of (by decide) rfl) f.cw
    |true=>
     refine bZ rfl ((aB (c:=true) rfl rfl rfl (show l.tmps[80]?.getD oC= .bool true from(f.at (k:=22) (j:=22) g rfl (by omega) (d ⟨22,.guard⟩ (by simp) rfl)).eq (by decide))).trans rfl) ?_;exact f.put (i:=24) (j:=24) rfl (by omega) (fun _ _ h=>h) (VV.of (by decide) rfl) f.cw
  ·cases b3 with
   |false=>
    refine bZ rfl (iy rfl rfl rfl (show l.tmps[80]?.getD oC=oC from(f.at (k:=22) (j:=22) g rfl (by omega) (d ⟨22,.guard⟩ (by simp) rfl)).eq (by decide))) ?_;exact f.put (i:=25) (j:=25) rfl (by omega) (fun _ _ h=>h) (VV.of (by decide) rfl) f.cw
   |true=>
    cases b4 with
    |false=>
     refine aJ rfl ((aB (c:=false) rfl rfl rfl (show l.tmps[80]?.getD oC= .bool false from(f.at (k:=22) (j:=22) g rfl (by omega) (d ⟨22,.guard⟩ (by simp) rfl)).eq (by decide))).trans rfl) ?_;have X:l.tmps[81]?.getD oC= .slice (some ⟨g2,0,none⟩) 12 c2:=(f.at (k:=23) (j:=23) g rfl (by omega) (d ⟨23,.data⟩ (by simp) rfl)).eq (by decide);have V:l.tmps[82]?.getD oC= .int .i64 j:=(f.at (k:=24) (j:=24) g rfl (by omega) (d ⟨24,.data⟩ (by simp) rfl)).eq (by decide);simp [oP,go_sem,X,V,LJ];exact f.put (i:=25) (j:=25) rfl (by omega) (fun _ _ h=>h) (VV.of (by decide) rfl) f.cw
    |true=>
     refine bZ rfl ((aB (c:=true) rfl rfl rfl (show l.tmps[80]?.getD oC= .bool true from(f.at (k:=22) (j:=22) g rfl (by omega) (d ⟨22,.guard⟩ (by simp) rfl)).eq (by decide))).trans rfl) ?_;exact f.put (i:=25) (j:=25) rfl (by omega) (fun _ _ h=>h) (VV.of (by decide) rfl) f.cw
  ·cases b3 with
   |false=>
    refine bZ rfl (iy rfl rfl rfl (show l.tmps[80]?.getD oC=oC from(f.at (k:=22) (j:=22) g rfl (by omega) (d ⟨22,.guard⟩ (by simp) rfl)).eq (by decide))) ?_;exact f.put (i:=26) (j:=26) rfl (by omega) (fun _ _ h=>h) (VV.of (by decide) rfl) f.cw
   |true=>
    cases b4 with
    |false=>
     refine aJ rfl ((aB (c:=false) rfl rfl rfl (show l.tmps[80]?.getD oC= .bool false from(f.at (k:=22) (j:=22) g rfl (by omega) (d ⟨22,.guard⟩ (by simp) rfl)).eq (by decide))).trans rfl) ?_;have U:l.tmps[83]?.getD oC= .pointer (some ⟨g2,j*2,none⟩):=(f.at (k:=25) (j:=25) g rfl (by omega) (d ⟨25,.data⟩ (by simp) rfl)).eq (by decide);simp [oP,go_sem,U];exact f.put (i:=26) (j:=26) rfl (by omega) (fun _ _ h=>h) (VV.of (by decide) rfl) f.cw
    |true=>
     refine bZ rfl ((aB (c:=true) rfl rfl rfl (show l.tmps[80]?.getD oC= .bool true from(f.at (k:=22) (j:=22) g rfl (by omega) (d ⟨22,.guard⟩ (by simp) rfl)).eq (by decide))).trans rfl) ?_;exact f.put (i:=26) (j:=26) rfl (by omega) (fun _ _ h=>h) (VV.of (by decide) rfl) f.cw
  ·cases b3 with
   |false=>
    refine bZ rfl (iy rfl rfl rfl (show l.tmps[80]?.getD oC=oC from(f.at (k:=22) (j:=22) g rfl (by omega) (d ⟨22,.guard⟩ (by simp) rfl)).eq (by decide))) ?_;exact f.put (i:=27) (j:=27) rfl (by omega) (fun _ _ h=>h) (VV.of (by decide) rfl) f.cw
   |true=>
    cases b4 with
    |false=>
     refine aJ rfl ((aB (c:=false) rfl rfl rfl (show l.tmps[80]?.getD oC= .bool false from(f.at (k:=22) (j:=22) g rfl (by omega) (d ⟨22,.guard⟩ (by simp) rfl)).eq (by decide))).trans rfl) ?_;have T:l.tmps[84]?.getD oC= .pointer (some ⟨g2,j*2,none⟩):=(f.at (k:=26) (j:=26) g rfl (by omega) (d ⟨26,.data⟩ (by simp) rfl)).eq (by decide);simp [oP,go_sem,T,z0];exact f.put (i:=27) (j:=27) rfl (by omega) (fun _ _ h=>h) (VV.of (by decide) rfl) f.cw
    |true=>
     refine bZ rfl ((aB (c:=true) rfl rfl rfl (show l.tmps[80]?.getD oC= .bool true from(f.at (k:=22) (j:=22) g rfl (by omega) (d ⟨22,.guard⟩ (by simp) rfl)).eq (by decide))).trans rfl) ?_;exact f.put (i:=27) (j:=27) rfl (by omega) (fun _ _ h=>h) (VV.of (by decide) rfl) f.cw
  ·cases b3 with
   |false=>
    refine bZ rfl (iy rfl rfl rfl (show l.tmps[80]?.getD oC=oC from(f.at (k:=22) (j:=22) g rfl (by omega) (d ⟨22,.guard⟩ (by simp) rfl)).eq (by decide))) ?_;exact f.put (i:=28) (j:=28) rfl (by omega) (fun _ _ h=>h) (VV.of (by decide) rfl) f.cw
   |true=>
    cases b4 with
    |false=>
     refine aJ rfl ((aB (c:=false) rfl rfl rfl (show l.tmps[80]?.getD oC= .bool false from(f.at (k:=22) (j:=22) g rfl (by omega) (d ⟨22,.guard⟩ (by simp) rfl)).eq (by decide))).trans rfl) ?_;simp [oP,go_sem,u];exact f.put (i:=28) (j:=28) rfl (by omega) (fun _ _ h=>h) (VV.of (by decide) rfl) f.cw
    |true=>
     refine bZ rfl ((aB (c:=true) rfl rfl rfl (show l.tmps[80]?.getD oC= .bool true from(f.at (k:=22) (j:=22) g rfl (by omega) (d ⟨22,.guard⟩ (by simp) rfl)).eq (by decide))).trans rfl) ?_;exact f.put (i:=28) (j:=28) rfl (by omega) (fun _ _ h=>h) (VV.of (by decide) rfl) f.cw
  ·cases b3 with
   |false=>
    refine bZ rfl (iy rfl rfl rfl (show l.tmps[80]?.getD oC=oC from(f.at (k:=22) (j:=22) g rfl (by omega) (d ⟨22,.guard⟩ (by simp) rfl)).eq (by decide))) ?_;exact f.put (i:=29) (j:=29) rfl (by omega) (fun _ _ h=>h) (VV.of (by decide) rfl) f.cw
   |true=>
    cases b4 with
    |false=>
     refine aJ rfl ((aB (c:=false) rfl rfl rfl (show l.tmps[80]?.getD oC= .bool false from(f.at (k:=22) (j:=22) g rfl (by omega) (d ⟨22,.guard⟩ (by simp) rfl)).eq (by decide))).trans rfl) ?_;have R:l.tmps[86]?.getD oC= .pointer (some ⟨rb,3,none⟩):=(f.at (k:=28) (j:=28) g rfl (by omega) (d ⟨28,.data⟩ (by simp) rfl)).eq (by decide);simp [oP,go_sem,R,r3];exact f.put (i:=29) (j:=29) rfl (by omega) (fun _ _ h=>h) (VV.of (by decide) rfl) f.cw
    |true=>
     refine bZ rfl ((aB (c:=true) rfl rfl rfl (show l.tmps[80]?.getD oC= .bool true from(f.at (k:=22) (j:=22) g rfl (by omega) (d ⟨22,.guard⟩ (by simp) rfl)).eq (by decide))).trans rfl) ?_;exact f.put (i:=29) (j:=29) rfl (by omega) (fun _ _ h=>h) (VV.of (by decide) rfl) f.cw
  ·cases b3 with
   |false=>
    refine bZ rfl (iy rfl rfl rfl (show l.tmps[80]?.getD oC=oC from(f.at (k:=22) (j:=22) g rfl (by omega) (d ⟨22,.guard⟩ (by simp) rfl)).eq (by decide))) ?_;exact f.put (i:=30) (j:=30) rfl (by omega) (fun _ _ h=>h) (VV.of (by decide) rfl) f.cw
   |true=>
    cases b4 with
    |false=>
     refine aJ rfl ((aB (c:=false) rfl rfl rfl (show l.tmps[80]?.getD oC= .bool false from(f.at (k:=22) (j:=22) g rfl (by omega) (d ⟨22,.guard⟩ (by simp) rfl)).eq (by decide))).trans rfl) ?_;have S:l.tmps[85]?.getD oC= .int .i64 c:=(f.at (k:=27) (j:=27) g rfl (by omega) (d ⟨27,.data⟩ (by simp) rfl)).eq (by decide);have P:l.tmps[87]?.getD oC= .int .i64 mm:=(f.at (k:=29) (j:=29) g rfl (by omega) (d ⟨29,.data⟩ (by simp) rfl)).eq (by decide);simp [oP,go_sem,S,P,J];exact f.put (i:=30) (j:=30) rfl (by omega) (fun _ _ h=>h) (VV.of (by decide) rfl) f.cw
    |true=>
     refine bZ rfl ((aB (c:=true) rfl rfl rfl (show l.tmps[80]?.getD oC= .bool true from(f.at (k:=22) (j:=22) g rfl (by omega) (d ⟨22,.guard⟩ (by simp) rfl)).eq (by decide))).trans rfl) ?_;exact f.put (i:=30) (j:=30) rfl (by omega) (fun _ _ h=>h) (VV.of (by decide) rfl) f.cw
  ·cases b3 with
   |false=>
    refine bZ rfl ((aB (c:=false) rfl rfl rfl (show l.tmps[76]?.getD oC= .bool false from(f.at (k:=18) (j:=18) g rfl (by omega) (d ⟨18,.guard⟩ (by simp) rfl)).eq (by decide))).trans rfl) ?_;exact f.put (i:=31) (j:=31) rfl (by omega) (fun _ _ h=>h) (VV.of (by decide) rfl) f.cw
   |true=>
    refine aJ rfl ((aB (c:=true) rfl rfl rfl (show l.tmps[76]?.getD oC= .bool true from(f.at (k:=18) (j:=18) g rfl (by omega) (d ⟨18,.guard⟩ (by simp) rfl)).eq (by decide))).trans rfl) ?_
    cases b4 with
    |false=>
     have s:l.tmps[80]?.getD oC= .bool false:=(f.at (k:=22) (j:=22) g rfl (by omega) (d ⟨22,.data⟩ (by simp) rfl)).eq (by decide);have O:l.tmps[88]?.getD oC= .bool b5:=(f.at (k:=30) (j:=30) g rfl (by omega) (d ⟨30,.data⟩ (by simp) rfl)).eq (by decide);simp [oP,go_sem,s,O];exact f.put (i:=31) (j:=31) rfl (by omega) (fun _ _ h=>h) (VV.of (by decide) rfl) f.cw
    |true=>
     have s:l.tmps[80]?.getD oC= .bool true:=(f.at (k:=22) (j:=22) g rfl (by omega) (d ⟨22,.data⟩ (by simp) rfl)).eq (by decide);simp [oP,go_sem,s];exact f.put (i:=31) (j:=31) rfl (by omega) (fun _ _ h=>h) (VV.of (by decide) rfl) f.cw
  ·cases b3 with
   |false=>
    refine au rfl rfl ?_;have t:l.tmps[76]?.getD oC= .bool false:=(f.at (k:=18) (j:=18) g rfl (by omega) (d ⟨18,.data⟩ (by simp) rfl)).eq (by decide);simp [oP,go_sem,t];exact f.put (i:=32) (j:=32) rfl (by omega) (fun _ _ h=>h) (VV.of (by decide) rfl) f.cw
   |true=>
    refine au rfl rfl ?_;have t:l.tmps[76]?.getD oC= .bool true:=(f.at (k:=18) (j:=18) g rfl (by omega) (d ⟨18,.data⟩ (by simp) rfl)).eq (by decide);have N:l.tmps[89]?.getD oC= .bool (b4||b5):=(f.at (k:=31) (j:=31) g rfl (by omega) (d ⟨31,.data⟩ (by simp) rfl)).eq (by decide);simp [oP,go_sem,t,N];exact f.put (i:=32) (j:=32) rfl (by omega) (fun _ _ h=>h) (VV.of (by decide) rfl) f.cw
 ·rintro listed l W hr f;have L:=mX (by decide+kernel) f.ls hr;obtain⟨xs,A,rfl,hf⟩:=f.fr;exact hQ xs W A ((hf 32 32 rfl (L 32 (by decide))).eq (by decide)) f.cw
 ·exact kC.start g (xx _ _).drew
theorem afd{Q:Exit->Tq->qL->Prop}{a0:Tq}{q:qL}{a:Option Addr}{len cap:Nat}{es:List aK}{n k b pb:Nat}{j g2 c2 rb hh hl ch:Nat}{ah:Option Addr}{mm:Int}{b3 b4:Bool}
  (ba:a0.tmps.size=157)
  (q0:a0.tmps[0]?.getD oC= .slice a len cap)
  (q1:a0.tmps[1]?.getD oC= .int .i64 n)
  (q6:a0.tmps[6]?.getD oC= .slice (some ⟨g2,0,none⟩) 12 c2)
  (D:a0.tmps[11]?.getD oC= .pointer (some ⟨pb,0,none⟩))
  (C:a0.tmps[12]?.getD oC= .pointer (some ⟨rb,0,none⟩))
  (B:a0.tmps[14]?.getD oC= .int .i64 hh)
  (A:a0.tmps[15]?.getD oC= .bool false)
  (y:a0.tmps[16]?.getD oC= .int .i64 j)
  (HE:bI q a len cap es)
  (XA:Pl.fault es=0)
  (t:pb<q.heap.size)
  (w:g2<q.heap.size)
  (J:rb<q.heap.size)
  (P0:q.cell? ⟨pb,0,none⟩=some (.int .i64 k))
  (P1:q.cell? ⟨pb,1,none⟩=some (.int .i64 b))
  (R3:q.cell? ⟨rb,3,none⟩=some (.int .i64 mm))
  (LJ:(j:Int)<12)
  (N:((j:Int) != (n:Int))=true)
  (Z0:q.cell? ⟨g2,j*2,none⟩=some (.int .i64 mm))
  (Z1:q.cell? ⟨g2,j*2+1,none⟩=some (.slice ah hl ch))
  (a6:fV q ah hl ch (Pl.wH es n j))
  (a8:decide (((k:Int),(b:Int))∈Pl.tP es j)=b3)
  (a7:decide ((hh:Int)∈Pl.wH es n j)=b4)
  (hQ:∀xs W,xs.length=32->True->xk q.heap.size q W->Q .normal {a0 with tmps:=setFrom (a0.tmps.setIfInBounds 15 (.bool (b3&&b4))) 110 xs} W):
  ∀ops,dX Qi 28=some ops->(LM 28 ops true).wp xn Q a0 q:=by
 intro ops aH;have eo:=Iy (aH.symm.trans (rfl:dX Qi 28=some _));subst eo;clear aH;have g:110+32<=a0.tmps.size:=by omega
 refine OE (by kernel_rfl) ?_
 refine cO (oQ a0 110 32 33 15 32 (fun k=>if k=32 then none else some k) (VV 49 q.heap.size (Pl.tP es j) 18 true [.bool false,.bool false,.int .i64 j,.int .i64 n,.bool true,.bool true,.slice (some ⟨g2,0,none⟩) 12 c2,.int .i64 j,.pointer (some ⟨g2,j*2,none⟩),.pointer (some ⟨g2,j*2,none⟩),.int .i64 mm,.pointer (some ⟨rb,3,none⟩),.int .i64 mm,.bool true,.bool true,.bool true,.slice a len cap,.int .i64 j,oC,.agg #[.int .i64 k,.int .i64 b],.bool b3,.bool b3,.bool b3,cond b3 (.slice (some ⟨g2,0,none⟩) 12 c2) oC,cond b3 (.int .i64 j) oC,cond b3 (.pointer (some ⟨g2,j*2,none⟩)) oC,cond b3 (.pointer (some ⟨g2,j*2+1,none⟩)) oC,cond b3 (.slice ah hl ch) oC,cond b3 (.int .i64 hh) oC,cond b3 (.bool b4) oC,.bool (b3&&b4),.bool (b3&&b4)]) (.bool (b3&&b4)) (fun W=>xk q.heap.size q W)) ?_ ?_ _ _ _ _ (by decide+kernel) ?_ (bn _ _ _)
 ·rintro i listed l W hi jS f;rw [Qe]at hi;obtain⟨v,o,M,d⟩:=hi;have sN:i<33:=(Array.getElem?_eq_some_iff.1 M).1;have o0:=(f.out (k:=0) (by omega) (by decide)).trans q0;have o1:=(f.out (k:=1) (by omega) (by decide)).trans q1;have o6:=(f.out (k:=6) (by omega) (by decide)).trans q6;have H:=(f.out (k:=11) (by omega) (by decide)).trans D;have G:=(f.out (k:=12) (by omega) (by decide)).trans C;have F:=(f.out (k:=14) (by omega) (by decide)).trans B;have r:=(f.out (k:=16) (by omega) (by decide)).trans y;have p0:=(f.cw.cell (p:=⟨pb,0,none⟩) t).trans P0;have p1:=(f.cw.cell (p:=⟨pb,1,none⟩) t).trans P1;have z0:=(f.cw.cell (p:=⟨g2,j*2,none⟩) w).trans Z0;have r3:=(f.cw.cell (p:=⟨rb,3,none⟩) J).trans R3;have z1:=(f.cw.cell (p:=⟨g2,j*2+1,none⟩) w).trans Z1
  have O:i=0\/i=1\/i=2\/i=3\/i=4\/i=5\/i=6\/i=7\/i=8\/i=9\/i=10\/i=11\/i=12\/i=13\/i=14\/i=15\/i=16\/i=17\/i=18\/i=19\/i=20\/i=21\/i=22\/i=23\/i=24\/i=25\/i=26\/i=27\/i=28\/i=29\/i=30\/i=31\/i=32:=by omega
  rcases O with rfl|rfl|rfl|rfl|rfl|rfl|rfl|rfl|rfl|rfl|rfl|rfl|rfl|rfl|rfl|rfl|rfl|rfl|rfl|rfl|rfl|rfl|rfl|rfl|rfl|rfl|rfl|rfl|rfl|rfl|rfl|rfl|rfl
  all_goals
   simp at M;subst M
  ·refine au rfl rfl ?_;have R:listed.getD 32 false=false:=by
    cases h:listed.getD 32 false with
    |false=>rfl
    |true=>
     exfalso;have x:=jS 32 _ rfl h ⟨0,.phase⟩ (by simp) rfl;have u:0<listed.size:=by rw [f.ls];omega
     simp [u]at v x;rw [v]at x
     cases x
   have E:=(f.ahQ (by omega) (by omega) R).trans A;simp [oP,go_sem,E];exact f.put (i:=0) (j:=0) rfl (by omega) (by decide) (fun _ _ h=>h) (VV.of (by decide) rfl) f.cw
  ·refine au rfl rfl ?_;have x:l.tmps[110]?.getD oC= .bool false:=(f.at (k:=0) (j:=0) g rfl (by omega) (d ⟨0,.data⟩ (by simp) rfl)).eq (by decide);simp [oP,go_sem,x];exact f.put (i:=1) (j:=1) rfl (by omega) (by decide) (fun _ _ h=>h) (VV.of (by decide) rfl) f.cw
  ·refine aJ rfl ((aB (c:=false) rfl rfl rfl (show l.tmps[111]?.getD oC= .bool false from(f.at (k:=1) (j:=1) g rfl (by omega) (d ⟨1,.guard⟩ (by simp) rfl)).eq (by decide))).trans rfl) ?_;simp [oP,go_sem,r];exact f.put (i:=2) (j:=2) rfl (by omega) (by decide) (fun _ _ h=>h) (VV.of (by decide) rfl) f.cw
  ·refine aJ rfl ((aB (c:=false) rfl rfl rfl (show l.tmps[111]?.getD oC= .bool false from(f.at (k:=1) (j:=1) g rfl (by omega) (d ⟨1,.guard⟩ (by simp) rfl)).eq (by decide))).trans rfl) ?_;simp [oP,go_sem,o1];exact f.put (i:=3) (j:=3) rfl (by omega) (by decide) (fun _ _ h=>h) (VV.of (by decide) rfl) f.cw
  ·refine aJ rfl ((aB (c:=false) rfl rfl rfl (show l.tmps[111]?.getD oC= .bool false from(f.at (k:=1) (j:=1) g rfl (by omega) (d ⟨1,.guard⟩ (by simp) rfl)).eq (by decide))).trans rfl) ?_;have e2:l.tmps[112]?.getD oC= .int .i64 j:=(f.at (k:=2) (j:=2) g rfl (by omega) (d ⟨2,.data⟩ (by simp) rfl)).eq (by decide);have e3:l.tmps[113]?.getD oC= .int .i64 n:=(f.at (k:=3) (j:=3) g rfl (by omega) (d ⟨3,.data⟩ (by simp) rfl)).eq (by decide);simp [oP,go_sem,e2,e3,N];exact f.put (i:=4) (j:=4) rfl (by omega) (by decide) (fun _ _ h=>h) (VV.of (by decide) rfl) f.cw
  ·refine aJ rfl ((aB (c:=false) rfl rfl rfl (show l.tmps[111]?.getD oC= .bool false from(f.at (k:=1) (j:=1) g rfl (by omega) (d ⟨1,.guard⟩ (by simp) rfl)).eq (by decide))).trans rfl) ?_;have e4:l.tmps[114]?.getD oC= .bool true:=(f.at (k:=4) (j:=4) g rfl (by omega) (d ⟨4,.data⟩ (by simp) rfl)).eq (by decide);simp [oP,go_sem,e4];exact f.put (i:=5) (j:=5) rfl (by omega) (by decide) (fun _ _ h=>h) (VV.of (by decide) rfl) f.cw
  ·refine aJ rfl ((aB (c:=true) rfl rfl rfl (show l.tmps[115]?.getD oC= .bool true from(f.at (k:=5) (j:=5) g rfl (by omega) (d ⟨5,.guard⟩ (by simp) rfl)).eq (by decide))).trans rfl) ?_;simp [oP,go_sem,o6];exact f.put (i:=6) (j:=6) rfl (by omega) (by decide) (fun _ _ h=>h) (VV.of (by decide) rfl) f.cw
  ·refine aJ rfl ((aB (c:=true) rfl rfl rfl (show l.tmps[115]?.getD oC= .bool true from(f.at (k:=5) (j:=5) g rfl (by omega) (d ⟨5,.guard⟩ (by simp) rfl)).eq (by decide))).trans rfl) ?_;simp [oP,go_sem,r];exact f.put (i:=7) (j:=7) rfl (by omega) (by decide) (fun _ _ h=>h) (VV.of (by decide) rfl) f.cw
  ·refine aJ rfl ((aB (c:=true) rfl rfl rfl (show l.tmps[115]?.getD oC= .bool true from(f.at (k:=5) (j:=5) g rfl (by omega) (d ⟨5,.guard⟩ (by simp) rfl)).eq (by decide))).trans rfl) ?_;have e6:l.tmps[116]?.getD oC= .slice (some ⟨g2,0,none⟩) 12 c2:=(f.at (k:=6) (j:=6) g rfl (by omega) (d ⟨6,.data⟩ (by simp) rfl)).eq (by decide);have e7:l.tmps[117]?.getD oC= .int .i64 j:=(f.at (k:=7) (j:=7) g rfl (by omega) (d ⟨7,.data⟩ (by simp) rfl)).eq (by decide);simp [oP,go_sem,e6,e7,LJ];exact f.put (i:=8) (j:=8) rfl (by omega) (by decide) (fun _ _ h=>h) (VV.of (by decide) rfl) f.cw
  ·refine aJ rfl ((aB (c:=true) rfl rfl rfl (show l.tmps[115]?.getD oC= .bool true from(f.at (k:=5) (j:=5) g rfl (by omega) (d ⟨5,.guard⟩ (by simp) rfl)).eq (by decide))).trans rfl) ?_;have e8:l.tmps[118]?.getD oC= .pointer (some ⟨g2,j*2,none⟩):=(f.at (k:=8) (j:=8) g rfl (by omega) (d ⟨8,.data⟩ (by simp) rfl)).eq (by decide);simp [oP,go_sem,e8];exact f.put (i:=9) (j:=9) rfl (by omega) (by decide) (fun _ _ h=>h) (VV.of (by decide) rfl) f.cw
  ·refine aJ rfl ((aB (c:=true) rfl rfl rfl (show l.tmps[115]?.getD oC= .bool true from(f.at (k:=5) (j:=5) g rfl (by omega) (d ⟨5,.guard⟩ (by simp) rfl)).eq (by decide))).trans rfl) ?_;have e9:l.tmps[119]?.getD oC= .pointer (some ⟨g2,j*2,none⟩):=(f.at (k:=9) (j:=9) g rfl (by omega) (d ⟨9,.data⟩ (by simp) rfl)).eq (by decide);simp [oP,go_sem,e9,z0];exact f.put (i:=10) (j:=10) rfl (by omega) (by decide) (fun _ _ h=>h) (VV.of (by decide) rfl) f.cw
  ·refine aJ rfl ((aB (c:=true) rfl rfl rfl (show l.tmps[115]?.getD oC= .bool true from(f.at (k:=5) (j:=5) g rfl (by omega) (d ⟨5,.guard⟩ (by simp) rfl)).eq (by decide))).trans rfl) ?_;simp [oP,go_sem,G];exact f.put (i:=11) (j:=11) rfl (by omega) (by decide) (fun _ _ h=>h) (VV.of (by decide) rfl) f.cw
  ·refine aJ rfl ((aB (c:=true) rfl rfl rfl (show l.tmps[115]?.getD oC= .bool true from(f.at (k:=5) (j:=5) g rfl (by omega) (d ⟨5,.guard⟩ (by simp) rfl)).eq (by decide))).trans rfl) ?_;have aM:l.tmps[121]?.getD oC= .pointer (some ⟨rb,3,none⟩):=(f.at (k:=11) (j:=11) g rfl (by omega) (d ⟨11,.data⟩ (by simp) rfl)).eq (by decide);simp [oP,go_sem,aM,r3];exact f.put (i:=12) (j:=12) rfl (by omega) (by decide) (fun _ _ h=>h) (VV.of (by decide) rfl) f.cw
  ·refine aJ rfl ((aB (c:=true) rfl rfl rfl (show l.tmps[115]?.getD oC= .bool true from(f.at (k:=5) (j:=5) g rfl (by omega) (d ⟨5,.guard⟩ (by simp) rfl)).eq (by decide))).trans rfl) ?_;have aR:l.tmps[120]?.getD oC= .int .i64 mm:=(f.at (k:=10) (j:=10) g rfl (by omega) (d ⟨10,.data⟩ (by simp) rfl)).eq (by decide);have aL:l.tmps[122]?.getD oC= .int .i64 mm:=(f.at (k:=12) (j:=12) g rfl (by omega) (d ⟨12,.data⟩ (by simp) rfl)).eq (by decide);simp [oP,go_sem,aR,aL];exact f.put (i:=13) (j:=13) rfl (by omega) (by decide) (fun _ _ h=>h) (VV.of (by decide) rfl) f.cw
  ·refine aJ rfl ((aB (c:=false) rfl rfl rfl (show l.tmps[111]?.getD oC= .bool false from(f.at (k:=1) (j:=1) g rfl (by omega) (d ⟨1,.guard⟩ (by simp) rfl)).eq (by decide))).trans rfl) ?_;have e5:l.tmps[115]?.getD oC= .bool true:=(f.at (k:=5) (j:=5) g rfl (by omega) (d ⟨5,.data⟩ (by simp) rfl)).eq (by decide);have aE:l.tmps[123]?.getD oC= .bool true:=(f.at (k:=13) (j:=13) g rfl (by omega) (d ⟨13,.data⟩ (by simp) rfl)).eq (by decide);simp [oP,go_sem,e5,aE];exact f.put (i:=14) (j:=14) rfl (by omega) (by decide) (fun _ _ h=>h) (VV.of (by decide) rfl) f.cw
  ·refine aJ rfl ((aB (c:=false) rfl rfl rfl (show l.tmps[111]?.getD oC= .bool false from(f.at (k:=1) (j:=1) g rfl (by omega) (d ⟨1,.guard⟩ (by simp) rfl)).eq (by decide))).trans rfl) ?_;have aD:l.tmps[124]?.getD oC= .bool true:=(f.at (k:=14) (j:=14) g rfl (by omega) (d ⟨14,.data⟩ (by simp) rfl)).eq (by decide);simp [oP,go_sem,aD];exact f.put (i:=15) (j:=15) rfl (by omega) (by decide) (fun _ _ h=>h) (VV.of (by decide) rfl) f.cw
  ·refine aJ rfl ((aB (c:=true) rfl rfl rfl (show l.tmps[125]?.getD oC= .bool true from(f.at (k:=15) (j:=15) g rfl (by omega) (d ⟨15,.guard⟩ (by simp) rfl)).eq (by decide))).trans rfl) ?_;simp [oP,go_sem,o0];exact f.put (i:=16) (j:=16) rfl (by omega) (by decide) (fun _ _ h=>h) (VV.of (by decide) rfl) f.cw
  ·refine aJ rfl ((aB (c:=true) rfl rfl rfl (show l.tmps[125]?.getD oC= .bool true from(f.at (k:=15) (j:=15) g rfl (by omega) (d ⟨15,.guard⟩ (by simp) rfl)).eq (by decide))).trans rfl) ?_;simp [oP,go_sem,r];exact f.put (i:=17) (j:=17) rfl (by omega) (by decide) (fun _ _ h=>h) (VV.of (by decide) rfl) f.cw
  ·refine aJ rfl ((aB (c:=true) rfl rfl rfl (show l.tmps[125]?.getD oC= .bool true from(f.at (k:=15) (j:=15) g rfl (by omega) (d ⟨15,.guard⟩ (by simp) rfl)).eq (by decide))).trans rfl) ?_;have aw:l.tmps[126]?.getD oC= .slice a len cap:=(f.at (k:=16) (j:=16) g rfl (by omega) (d ⟨16,.data⟩ (by simp) rfl)).eq (by decide);have av:l.tmps[127]?.getD oC= .int .i64 j:=(f.at (k:=17) (j:=17) g rfl (by omega) (d ⟨17,.data⟩ (by simp) rfl)).eq (by decide);simp [oP,go_sem,aw,av];refine(qK a len cap es j W (HE.below f.cw) XA (by omega)).mono ?_;rintro e W' ⟨vl,rfl,L,m⟩;exact f.put (i:=18) (j:=18) rfl (by omega) (by decide) (VV.grow m) (VV.own rfl (L.mono f.cw.size)) (f.cw.trans (m.mono f.cw.size))
  ·refine aJ rfl ((aB (c:=true) rfl rfl rfl (show l.tmps[125]?.getD oC= .bool true from(f.at (k:=15) (j:=15) g rfl (by omega) (d ⟨15,.guard⟩ (by simp) rfl)).eq (by decide))).trans rfl) ?_;simp [oP,go_sem,H,p0,p1];exact f.put (i:=19) (j:=19) rfl (by omega) (by decide) (fun _ _ h=>h) (VV.of (by decide) rfl) f.cw
  ·refine aJ rfl ((aB (c:=true) rfl rfl rfl (show l.tmps[125]?.getD oC= .bool true from(f.at (k:=15) (j:=15) g rfl (by omega) (d ⟨15,.guard⟩ (by simp) rfl)).eq (by decide))).trans rfl) ?_;have ar:l.tmps[129]?.getD oC= .agg #[.int .i64 k,.int .i64 b]:=(f.at (k:=19) (j:=19) g rfl (by omega) (d ⟨19,.data⟩ (by simp) rfl)).eq (by decide);have hP:=(f.at (k:=18) (j:=18) g rfl (by omega) (d ⟨18,.data⟩ (by simp) rfl)).1 rfl rfl;obtain⟨pa,pc,S,K,_⟩:=hP.shape (fun p hp=>XJ hp);have S:l.tmps[128]?.getD oC= .slice pa (Pl.tP es j).length pc:=S;simp [oP,go_sem,S,ar];refine(sO pa _ pc (Pl.tP es j) k b W K).mono ?_;rintro e W' ⟨rfl,m⟩;rw [a8];exact f.put (i:=20) (j:=20) rfl (by omega) (by decide) (VV.grow m) (VV.of (by decide) rfl) (f.cw.trans (m.mono f.cw.size))
  ·refine aJ rfl ((aB (c:=false) rfl rfl rfl (show l.tmps[111]?.getD oC= .bool false from(f.at (k:=1) (j:=1) g rfl (by omega) (d ⟨1,.guard⟩ (by simp) rfl)).eq (by decide))).trans rfl) ?_;have ay:l.tmps[125]?.getD oC= .bool true:=(f.at (k:=15) (j:=15) g rfl (by omega) (d ⟨15,.data⟩ (by simp) rfl)).eq (by decide);have aq:l.tmps[130]?.getD oC= .bool b3:=(f.at (k:=20) (j:=20) g rfl (by omega) (d ⟨20,.data⟩ (by simp) rfl)).eq (by decide);simp [oP,go_sem,ay,aq];exact f.put (i:=21) (j:=21) rfl (by omega) (by decide) (fun _ _ h=>h) (VV.of (by decide) rfl) f.cw
  ·refine aJ rfl ((aB (c:=false) rfl rfl rfl (show l.tmps[111]?.getD oC= .bool false from(f.at (k:=1) (j:=1) g rfl (by omega) (d ⟨1,.guard⟩ (by simp) rfl)).eq (by decide))).trans rfl) ?_;have an:l.tmps[131]?.getD oC= .bool b3:=(f.at (k:=21) (j:=21) g rfl (by omega) (d ⟨21,.data⟩ (by simp) rfl)).eq (by decide);simp [oP,go_sem,an];exact f.put (i:=22) (j:=22) rfl (by omega) (by decide) (fun _ _ h=>h) (VV.of (by decide) rfl) f.cw
  ·cases b3 with
   |false=>
    refine bZ rfl ((aB (c:=false) rfl rfl rfl (show l.tmps[132]?.getD oC= .bool false from(f.at (k:=22) (j:=22) g rfl (by omega) (d ⟨22,.guard⟩ (by simp) rfl)).eq (by decide))).trans rfl) ?_;exact f.put (i:=23) (j:=23) rfl (by omega) (by decide) (fun _ _ h=>h) (VV.of (by decide) rfl) f.cw
   |true=>
    refine aJ rfl ((aB (c:=true) rfl rfl rfl (show l.tmps[132]?.getD oC= .bool true from(f.at (k:=22) (j:=22) g rfl (by omega) (d ⟨22,.guard⟩ (by simp) rfl)).eq (by decide))).trans rfl) ?_;simp [oP,go_sem,o6];exact f.put (i:=23) (j:=23) rfl (by omega) (by decide) (fun _ _ h=>h) (VV.of (by decide) rfl) f.cw
  ·cases b3 with
   |false=>
    refine bZ rfl ((aB (c:=false) rfl rfl rfl (show l.tmps[132]?.getD oC= .bool false from(f.at (k:=22) (j:=22) g rfl (by omega) (d ⟨22,.guard⟩ (by simp) rfl)).eq (by decide))).trans rfl) ?_;exact f.put (i:=24) (j:=24) rfl (by omega) (by decide) (fun _ _ h=>h) (VV.of (by decide) rfl) f.cw
   |true=>
    refine aJ rfl ((aB (c:=true) rfl rfl rfl (show l.tmps[132]?.getD oC= .bool true from(f.at (k:=22) (j:=22) g rfl (by omega) (d ⟨22,.guard⟩ (by simp) rfl)).eq (by decide))).trans rfl) ?_;simp [oP,go_sem,r];exact f.put (i:=24) (j:=24) rfl (by omega) (by decide) (fun _ _ h=>h) (VV.of (by decide) rfl) f.cw
  ·cases b3 with
   |false=>
    refine bZ rfl ((aB (c:=false) rfl rfl rfl (show l.tmps[132]?.getD oC= .bool false from(f.at (k:=22) (j:=22) g rfl (by omega) (d ⟨22,.guard⟩ (by simp) rfl)).eq (by decide))).trans rfl) ?_;exact f.put (i:=25) (j:=25) rfl (by omega) (by decide) (fun _ _ h=>h) (VV.of (by decide) rfl) f.cw
   |true=>
    refine aJ rfl ((aB (c:=true) rfl rfl rfl (show l.tmps[132]?.getD oC= .bool true from(f.at (k:=22) (j:=22) g rfl (by omega) (d ⟨22,.guard⟩ (by simp) rfl)).eq (by decide))).trans rfl) ?_;have ak:l.tmps[133]?.getD oC= .slice (some ⟨g2,0,none⟩) 12 c2:=(f.at (k:=23) (j:=23) g rfl (by omega) (d ⟨23,.data⟩ (by simp) rfl)).eq (by decide);have ad:l.tmps[134]?.getD oC= .int .i64 j:=(f.at (k:=24) (j:=24) g rfl (by omega) (d ⟨24,.data⟩ (by simp) rfl)).eq (by decide);simp [oP,go_sem,ak,ad,LJ];exact f.put (i:=25) (j:=25) rfl (by omega) (by decide) (fun _ _ h=>h) (VV.of (by decide) rfl) f.cw
  ·cases b3 with
   |false=>
    refine bZ rfl ((aB (c:=false) rfl rfl rfl (show l.tmps[132]?.getD oC= .bool false from(f.at (k:=22) (j:=22) g rfl (by omega) (d ⟨22,.guard⟩ (by simp) rfl)).eq (by decide))).trans rfl) ?_;exact f.put (i:=26) (j:=26) rfl (by omega) (by decide) (fun _ _ h=>h) (VV.of (by decide) rfl) f.cw
   |true=>
    refine aJ rfl ((aB (c:=true) rfl rfl rfl (show l.tmps[132]?.getD oC= .bool true from(f.at (k:=22) (j:=22) g rfl (by omega) (d ⟨22,.guard⟩ (by simp) rfl)).eq (by decide))).trans rfl) ?_;have aa:l.tmps[135]?.getD oC= .pointer (some ⟨g2,j*2,none⟩):=(f.at (k:=25) (j:=25) g rfl (by omega) (d ⟨25,.data⟩ (by simp) rfl)).eq (by decide);simp [oP,go_sem,aa];exact f.put (i:=26) (j:=26) rfl (by omega) (by decide) (fun _ _ h=>h) (VV.of (by decide) rfl) f.cw
  ·cases b3 with
   |false=>
    refine bZ rfl ((aB (c:=false) rfl rfl rfl (show l.tmps[132]?.getD oC= .bool false from(f.at (k:=22) (j:=22) g rfl (by omega) (d ⟨22,.guard⟩ (by simp) rfl)).eq (by decide))).trans rfl) ?_;exact f.put (i:=27) (j:=27) rfl (by omega) (by decide) (fun _ _ h=>h) (VV.of (by decide) rfl) f.cw
   |true=>
    refine aJ rfl ((aB (c:=true) rfl rfl rfl (show l.tmps[132]?.getD oC= .bool true from(f.at (k:=22) (j:=22) g rfl (by omega) (d ⟨22,.guard⟩ (by simp) rfl)).eq (by decide))).trans rfl) ?_;have Z:l.tmps[136]?.getD oC= .pointer (some ⟨g2,j*2+1,none⟩):=(f.at (k:=26) (j:=26) g rfl (by omega) (d ⟨26,.data⟩ (by simp) rfl)).eq (by decide);simp [oP,go_sem,Z,z1];exact f.put (i:=27) (j:=27) rfl (by omega) (by decide) (fun _ _ h=>h) (VV.of (by decide) rfl) f.cw
  ·cases b3 with
   |false=>
    refine bZ rfl ((aB (c:=false) rfl rfl rfl (show l.tmps[132]?.getD oC= .bool false from(f.at (k:=22) (j:=22) g rfl (by omega) (d ⟨22,.guard⟩ (by simp) rfl)).eq (by decide))).trans rfl) ?_;exact f.put (i:=28) (j:=28) rfl (by omega) (by decide) (fun _ _ h=>h) (VV.of (by decide) rfl) f.cw
   |true=>
    refine aJ rfl ((aB (c:=true) rfl rfl rfl (show l.tmps[132]?.getD oC= .bool true from(f.at (k:=22) (j:=22) g rfl (by omega) (d ⟨22,.guard⟩ (by simp) rfl)).eq (by decide))).trans rfl) ?_;simp [oP,go_sem,F];exact f.put (i:=28) (j:=28) rfl (by omega) (by decide) (fun _ _ h=>h) (VV.of (by decide) rfl) f.cw
  ·cases b3 with
   |false=>
    refine bZ rfl ((aB (c:=false) rfl rfl rfl (show l.tmps[132]?.getD oC= .bool false from(f.at (k:=22) (j:=22) g rfl (by omega) (d ⟨22,.guard⟩ (by simp) rfl)).eq (by decide))).trans rfl) ?_;exact f.put (i:=29) (j:=29) rfl (by omega) (by decide) (fun _ _ h=>h) (VV.of (by decide) rfl) f.cw
   |true=>
    refine aJ rfl ((aB (c:=true) rfl rfl rfl (show l.tmps[132]?.getD oC= .bool true from(f.at (k:=22) (j:=22) g rfl (by omega) (d ⟨22,.guard⟩ (by simp) rfl)).eq (by decide))).trans rfl) ?_;have Y:l.tmps[137]?.getD oC= .slice ah hl ch:=(f.at (k:=27) (j:=27) g rfl (by omega) (d ⟨27,.data⟩ (by simp) rfl)).eq (by decide);have X:l.tmps[138]?.getD oC= .int .i64 hh:=(f.at (k:=28) (j:=28) g rfl (by omega) (d ⟨28,.data⟩ (by simp) rfl)).eq (by decide);simp [oP,go_sem,Y,X];refine(OQ ah _ ch (Pl.wH es n j) hh W (a6.below f.cw)).mono ?_;rintro e W' ⟨rfl,m⟩;rw [a7];exact f.put (i:=29) (j:=29) rfl (by omega) (by decide) (VV.grow m) (VV.of (by decide) rfl) (f.cw.trans (m.mono f.cw.size))
  ·refine aJ rfl ((aB (c:=false) rfl rfl rfl (show l.tmps[111]?.getD oC= .bool false from(f.at (k:=1) (j:=1) g rfl (by omega) (d ⟨1,.guard⟩ (by simp) rfl)).eq (by decide))).trans rfl) ?_
   cases b3 with
   |false=>
    have s:l.tmps[132]?.getD oC= .bool false:=(f.at (k:=22) (j:=22) g rfl (by omega) (d ⟨22,.data⟩ (by simp) rfl)).eq (by decide);simp [oP,go_sem,s];exact f.put (i:=30) (j:=30) rfl (by omega) (by decide) (fun _ _ h=>h) (VV.of (by decide) rfl) f.cw
   |true=>
    have s:l.tmps[132]?.getD oC= .bool true:=(f.at (k:=22) (j:=22) g rfl (by omega) (d ⟨22,.data⟩ (by simp) rfl)).eq (by decide);have V:l.tmps[139]?.getD oC= .bool b4:=(f.at (k:=29) (j:=29) g rfl (by omega) (d ⟨29,.data⟩ (by simp) rfl)).eq (by decide);simp [oP,go_sem,s,V];exact f.put (i:=30) (j:=30) rfl (by omega) (by decide) (fun _ _ h=>h) (VV.of (by decide) rfl) f.cw
  ·refine au rfl rfl ?_;have e1:l.tmps[111]?.getD oC= .bool false:=(f.at (k:=1) (j:=1) g rfl (by omega) (d ⟨1,.data⟩ (by simp) rfl)).eq (by decide);have U:l.tmps[140]?.getD oC= .bool (b3&&b4):=(f.at (k:=30) (j:=30) g rfl (by omega) (d ⟨30,.data⟩ (by simp) rfl)).eq (by decide);simp [oP,go_sem,e1,U];exact f.put (i:=31) (j:=31) rfl (by omega) (by decide) (fun _ _ h=>h) (VV.of (by decide) rfl) f.cw
  ·refine au rfl rfl ?_;have T:l.tmps[141]?.getD oC= .bool (b3&&b4):=(f.at (k:=31) (j:=31) g rfl (by omega) (d ⟨31,.data⟩ (by simp) rfl)).eq (by decide);simp [oP,go_sem,T];exact f.last rfl (by omega) (by omega)
 ·rintro listed l W hr f;have P:=mX (by decide+kernel) f.ls hr;obtain⟨z,xs,I,rfl,_,hz⟩:=f.fr;rw [af (P 32 (by decide))]at hz;subst hz;exact hQ xs W I trivial f.cw
 ·exact oQ.start g (xx _ _).drew
end Go.Proofs.YtjjelkdajdeikaaGreatDoor
