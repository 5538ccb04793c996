/-
  Facts put together.
-/
import Derived.Test.YtjjelkdajdeikaaGreatDoorNetRunsC14
open Nat renaming le_refl→oC,le_trans→BG,zero_le→LM,lt_or_ge→OO,lt_of_lt_of_le→Qe,lt_succ_self→Z5,zero_mul→aac,zero_add→aad
open Go.RowKit.Below renaming refl→oP
open Go renaming undef→qh,World→qL,Value→xh,getD_set_ne→BD,maxLen→Iy,bodyPost_ret→IA,wp_region_any→MJ,wpList_load_mid→Pe,mem_ready→Qi,all_oneCell_toArray→Rw,Calls→SN,wp_ret→SQ,Act→Uz,wp_store_mid→WZ,wp_load_mid→Zf
open Go.Oper renaming wp→rU
open List renaming getD_eq_getElem?_getD→xk,getElem?_eq_none→Jk,getElem?_take→PW,length_map→Tn,getElem?_eq_getElem→UQ,length→VB,take_length→Xh,length_take→X6,map_append→aab
open Go.RowKit renaming Below→xn,Hid→Eb,intOf→Tq
open Go.Proofs.Tryz renaming prog→xx,zeroCells34→Ah,underlying34→GM,f13→OG,f47→Rq,underlying33→Xc
open Go.Act renaming eval→Ee
open Option.some renaming inj→GX
open Go.World.ownsRow renaming lt→Jj,alloc→Tf
open Go.Code renaming wp→OE,ret→OI,region→OM
open Array renaming getElem?_toList→O6,getElem?_setIfInBounds_ne→Ru
open Bool renaming false_eq_true→Qd
open Int renaming toNat_natCast→Rz
open Go.World renaming cell?→UX,ownsRow_nil→Wq
open Go.Value renaming int→aae,agg→aaf
set_option maxHeartbeats 8000000
namespace Go.Proofs.YtjjelkdajdeikaaGreatDoor
open Pl
open Go.RowKit
set_option maxRecDepth 20000
theorem ZO{Q:Exit->Uz->qL->Prop}{a0:Uz}{p:qL}{w:qL}{s:Pl.Nt}{P K T:Nat->xh}{x:Pl.Ac}{c co:Int}{keys:List ByteArray}{vk:xh}{a:Nat}
  (X:a0.tmps.size=421)
  (q6:a0.tmps[6]?.getD qh= .pointer (some ⟨w.heap.size+1+1+1+1,0,none⟩))
  (q3:a0.tmps[3]?.getD qh= .pointer (some ⟨w.heap.size+1,0,none⟩))
  (V:x.a=(a:Int))
  (ha:a<12)
  (F:w.heap.size+5<=p.heap.size)
  (aw:Cf w p s P K T x c co (.slice none 0 0) vk)
  (Zh:bF p (w.heap.size+5) vk keys)
  (ad:keys.length<=1000)
  (hQ:∀xs W v,xs.length=9->Cf w W s P K T x c co (.slice none 0 0) v->bF W (w.heap.size+5) v (keys++ [(aY (a:Int))])->Q .normal {a0 with tmps:=setFrom a0.tmps 277 xs} W):
  ∀ops,dX Rq 62=some ops->(OM 62 ops true).wp xx Q a0 p:=by
 intro ops aH;have eo:=GX (aH.symm.trans (rfl:dX Rq 62=some _));subst eo;clear aH;have f:=iE ([some 277,some 278,some 279,some 280,some 281,some 282,some 283,some 284,some 285,none]:List (Option Nat)) rfl;refine MJ (by kernel_rfl) ?_;refine cO (pI a0 10 (fun k=>([some 277,some 278,some 279,some 280,some 281,some 282,some 283,some 284,some 285,none]:List (Option Nat)).getD k none) (V2 [6] [7] (Ag p.heap.size (aY (a:Int))) (fun u W=>bF W (w.heap.size+5) u (keys++ [(aY (a:Int))])) [.pointer (some ⟨w.heap.size+1+1+1+1,3,none⟩),vk,.pointer (some ⟨w.heap.size+1,1,none⟩),.int .i64 (a:Int),.string (Pl.dec (a:Int)),.string (aY (a:Int)),qh,qh,.pointer (some ⟨w.heap.size+1+1+1+1,3,none⟩),qh]) (Je w p s P K T x c co keys (aY (a:Int)) vk)) ?_ ?_ _ _ _ _ (by decide+kernel) ?_ (bn _ _ _)
 ·rintro i listed y W hi U b;rw [Qi]at hi;obtain⟨j,o,H,d⟩:=hi;have sN:i<10:=(Array.getElem?_eq_some_iff.1 H).1;have aM:=b.ls;have o6:=(b.fr 6 (jX rfl)).trans q6;have o3:=(b.fr 3 (jX rfl)).trans q3;have ar:i=0\/i=1\/i=2\/i=3\/i=4\/i=5\/i=6\/i=7\/i=8\/i=9:=by omega
  rcases ar with rfl|rfl|rfl|rfl|rfl|rfl|rfl|rfl|rfl|rfl
  all_goals
   simp at H;subst H
  ·refine au rfl rfl ?_;simp [rU,go_sem,o6];exact b.put (i:=0) (t:=277) (by omega) rfl (f 0 277 rfl) (by omega) rfl (fun _ _ _ h=>h) (b.cw.keep (by omega) (by omega) (oP _ _))
  ·refine au rfl rfl ?_;have ay:y.tmps[277]?.getD qh= .pointer (some ⟨w.heap.size+1+1+1+1,3,none⟩):=b.vl 0 277 rfl (d ⟨0,.data⟩ (by simp) rfl);have A:listed.getD 9 false=false:=by
    cases G:listed.getD 9 false
    ·rfl
    ·have r:=U 9 _ rfl G ⟨1,.phase⟩ (by simp) rfl;have l:1<listed.size:=by omega
     simp [l]at r j;rw [r]at j;cases j
   have z:=b.cw.1 A;obtain⟨⟨z0,z1,z2,z3⟩,zf,zl⟩:=aS z.gV;simp [rU,go_sem,ay,z3];exact b.put (i:=1) (t:=278) (by omega) rfl (f 1 278 rfl) (by omega) rfl (fun _ _ _ h=>h) (b.cw.keep (by omega) (by omega) (oP _ _))
  ·refine au rfl rfl ?_;simp [rU,go_sem,o3];exact b.put (i:=2) (t:=279) (by omega) rfl (f 2 279 rfl) (by omega) rfl (fun _ _ _ h=>h) (b.cw.keep (by omega) (by omega) (oP _ _))
  ·refine au rfl rfl ?_;have O:y.tmps[279]?.getD qh= .pointer (some ⟨w.heap.size+1,1,none⟩):=b.vl 2 279 rfl (d ⟨2,.data⟩ (by simp) rfl);have A:listed.getD 9 false=false:=by
    cases G:listed.getD 9 false
    ·rfl
    ·have r:=U 9 _ rfl G ⟨3,.phase⟩ (by simp) rfl;have l:3<listed.size:=by omega
     simp [l]at r j;rw [r]at j;cases j
   have z:=b.cw.1 A;have E:=(kz z.act).2.1;rw [V]at E;simp [rU,go_sem,O,E];exact b.put (i:=3) (t:=280) (by omega) rfl (f 3 280 rfl) (by omega) rfl (fun _ _ _ h=>h) (b.cw.keep (by omega) (by omega) (oP _ _))
  ·refine au rfl rfl ?_;have N:y.tmps[280]?.getD qh= .int .i64 (a:Int):=b.vl 3 280 rfl (d ⟨3,.data⟩ (by simp) rfl);simp [rU,go_sem,N];refine(nC a W (by omega)).mono ?_;rintro e W' ⟨rfl,m⟩;exact b.put (i:=4) (t:=281) (by omega) rfl (f 4 281 rfl) (by omega) rfl (V2.step (Ag.keep fun g _ hl=>m.block g hl) (fun u h=>bF.below h m)) (b.cw.keep (by omega) (by omega) m)
  ·refine au rfl rfl ?_;have aD:y.tmps[281]?.getD qh= .string (Pl.dec (a:Int)):=b.vl 4 281 rfl (d ⟨4,.data⟩ (by simp) rfl);have hz:¬9223372036854775807<2+(Pl.dec (a:Int)).size:=by
    have:=jK (a:Int) (by omega) (by omega);omega
   simp [rU,go_sem,aD,hz];exact b.put (i:=5) (t:=282) (by omega) rfl (f 5 282 rfl) (by omega) rfl (fun _ _ _ h=>h) (b.cw.keep (by omega) (by omega) (oP _ _))
  ·refine au rfl rfl ?_;have aE:y.tmps[282]?.getD qh= .string (aY (a:Int)):=b.vl 5 282 rfl (d ⟨5,.data⟩ (by simp) rfl);have m:xn W.heap.size W (W.alloc (.cells #[.string (aY (a:Int))] 9)):=(oP _ _).alloc (oC _) _;have C:p.heap.size<=W.heap.size:=b.cw.2.2.2;simp [rU,go_sem,aE];exact b.put (i:=6) (t:=283) (by omega) rfl (f 6 283 rfl) (by omega) ⟨W.heap.size,rfl,C,by simp⟩ (V2.step (Ag.keep fun g _ hl=>m.block g hl) (fun u h=>bF.below h m)) (b.cw.keep (by omega) (by omega) m)
  ·refine au rfl rfl ?_;have R:y.tmps[278]?.getD qh=vk:=b.vl 1 278 rfl (d ⟨1,.data⟩ (by simp) rfl);have M:=b.vl 6 283 rfl (d ⟨6,.data⟩ (by simp) rfl);have A:listed.getD 9 false=false:=by
    cases G:listed.getD 9 false
    ·rfl
    ·have r:=U 9 _ rfl G ⟨7,.phase⟩ (by simp) rfl;have l:7<listed.size:=by omega
     simp [l]at r j;rw [r]at j;cases j
   have z:=b.cw.1 A;have n7:listed.getD 7 false=false:=by
    have l:7<listed.size:=by omega
    simp [l]at j⊢;exact j
   have D:=b.cw.2.1 n7;have C:p.heap.size<=W.heap.size:=b.cw.2.2.2;obtain⟨g,eg,aR,an⟩:Ag p.heap.size (aY (a:Int)) (y.tmps[283]?.getD qh) W:=M;refine yU (.tmp 278) (.tmp 283) rfl (w.heap.size+5) vk keys (aY (a:Int)) (by simpa [Ee]using R) D (by have:=z.sz;omega) g (by simpa [Ee]using eg) an ad ?_;intro v' W' Y B;have aa:=Jj Zh;have GY:∀g,p.heap.size<=g->g<W.heap.size->W'.heap[g]? =W.heap[g]? :=fun g r h2=>B.block g h2 (fun q=>by have:=(aa g q.symm).2;omega);refine b.put (i:=7) (t:=284) (by omega) rfl (f 7 284 rfl) (by omega) ?_ (V2.step1 (Ag.keep GY) n7) ?_
   ·show bF W' (w.heap.size+5) v' (keys++ [(aY (a:Int))]);exact Y
   ·unfold Je;rw [BD false (show 7≠9 by omega),lh (by omega)];refine⟨fun _=>z.grown D B (oC _) (by decide),fun q=>(by cases q),fun q=>(by rw [A]at q;cases q),BG C B.size⟩
  ·refine au rfl rfl ?_;simp [rU,go_sem,o6];exact b.put (i:=8) (t:=285) (by omega) rfl (f 8 285 rfl) (by omega) rfl (fun _ _ _ h=>h) (b.cw.keep (by omega) (by omega) (oP _ _))
  ·refine au rfl rfl ?_;have J:y.tmps[285]?.getD qh= .pointer (some ⟨w.heap.size+1+1+1+1,3,none⟩):=b.vl 8 285 rfl (d ⟨8,.data⟩ (by simp) rfl);have L:=b.vl 7 284 rfl (d ⟨7,.data⟩ (by simp) rfl);have l7:listed.getD 7 false=true:=d ⟨7,.data⟩ (by simp) rfl;have A:listed.getD 9 false=false:=by
    have l:9<listed.size:=by omega
    simp [l]at j⊢;exact j
   have z:=b.cw.1 A;have D:bF W (w.heap.size+5) (y.tmps[284]?.getD qh) (keys++ [(aY (a:Int))]):=L;obtain⟨va,vc,ev⟩:=az D;obtain⟨nn,Z⟩:∃n,(keys++ [(aY (a:Int))]).length=n:=⟨_,rfl⟩
   rw [Z]at ev;rw [ev]at D;obtain⟨⟨z0,z1,z2,z3⟩,zf,zl⟩:=aS z.gV;have S:aI (w.heap.size+1+1+1+1) W (W.setCell ⟨w.heap.size+1+1+1+1,3,none⟩ (.slice va nn vc)):=(aI.refl _ _).setCell _ _;have I:iG W (w.heap.size+1+1+1+1):=iG.rp z.gV;have aL:w.heap.size+1+1+1+1<p.heap.size:=by have:=F;omega
   simp [rU,go_sem,J,ev,z3,zf];refine b.skip (i:=9) rfl (V2.step (Ag.keep fun g r h2=>S.block g h2 (by omega)) (fun u h=>bC h S I (by decide))) ?_;unfold Je;rw [BD false (show 9≠7 by omega),lh (by omega),l7];refine⟨fun q=>(by cases q),fun q=>(by cases q),fun _=>⟨_,z.uH _,bC D S I (by decide)⟩,BG b.cw.2.2.2 S.size⟩
 ·rintro listed y W hr b;have av:=dm (by decide+kernel) b.ls hr;obtain⟨-,-,h9,-⟩:=b.cw;obtain⟨v,hs,H⟩:=h9 (av 9 (by decide));have aq:∀t,¬(277<=t/\t<277+9)->y.tmps[t]?.getD qh=a0.tmps[t]?.getD qh:=fun t r=>b.fr t fun k hk=>by
   have ak:k<10:=by rcases OO k 10 with h|h;exact h;(rw [xk,Jk (by simpa using h)]at hk;cases hk)
   have key:∀k:Fin 10,(([some 277,some 278,some 279,some 280,some 281,some 282,some 283,some 284,some 285,none]:List (Option Nat)).getD k.1 none).all (fun t=>decide (277<=t)&&decide (t<286))=true:=by decide+kernel
   have:=key ⟨k,ak⟩;rw [hk]at this;simp at this;omega
  rw [DU 277 9 b.sz b.df aq];exact hQ _ W v (iq _ _ _) hs H
 ·exact pI.start ⟨fun _=>aw.below ((oP _ _).drew),fun _=>bF.below Zh ((oP _ _).drew),fun q=>(by rw [ed]at q;cases q),oC _⟩
theorem Pz{Q:Exit->Uz->qL->Prop}{a0:Uz}{p:qL}{w:qL}{s:Pl.Nt}{P K T:Nat->xh}{x:Pl.Ac}{c co:Int}{keys:List ByteArray}{vk:xh}{a:Nat}
  (Y:a0.tmps.size=421)
  (q6:a0.tmps[6]?.getD qh= .pointer (some ⟨w.heap.size+1+1+1+1,0,none⟩))
  (q3:a0.tmps[3]?.getD qh= .pointer (some ⟨w.heap.size+1,0,none⟩))
  (X:x.a=(a:Int))
  (ha:a<12)
  (F:w.heap.size+5<=p.heap.size)
  (ay:Cf w p s P K T x c co (.slice none 0 0) vk)
  (Zh:bF p (w.heap.size+5) vk keys)
  (ak:keys.length<=1000)
  (hQ:∀xs W v,xs.length=9->Cf w W s P K T x c co (.slice none 0 0) v->bF W (w.heap.size+5) v (keys++ [(aW (a:Int))])->Q .normal {a0 with tmps:=setFrom a0.tmps 287 xs} W):
  ∀ops,dX Rq 64=some ops->(OM 64 ops true).wp xx Q a0 p:=by
 intro ops aH;have eo:=GX (aH.symm.trans (rfl:dX Rq 64=some _));subst eo;clear aH;have f:=iE ([some 287,some 288,some 289,some 290,some 291,some 292,some 293,some 294,some 295,none]:List (Option Nat)) rfl;refine MJ (by kernel_rfl) ?_;refine cO (pI a0 10 (fun k=>([some 287,some 288,some 289,some 290,some 291,some 292,some 293,some 294,some 295,none]:List (Option Nat)).getD k none) (V2 [6] [7] (Ag p.heap.size (aW (a:Int))) (fun u W=>bF W (w.heap.size+5) u (keys++ [(aW (a:Int))])) [.pointer (some ⟨w.heap.size+1+1+1+1,3,none⟩),vk,.pointer (some ⟨w.heap.size+1,1,none⟩),.int .i64 (a:Int),.string (Pl.dec (a:Int)),.string (aW (a:Int)),qh,qh,.pointer (some ⟨w.heap.size+1+1+1+1,3,none⟩),qh]) (Je w p s P K T x c co keys (aW (a:Int)) vk)) ?_ ?_ _ _ _ _ (by decide+kernel) ?_ (bn _ _ _)
 ·rintro i listed y W hi V b;rw [Qi]at hi;obtain⟨j,o,H,d⟩:=hi;have sN:i<10:=(Array.getElem?_eq_some_iff.1 H).1;have aM:=b.ls;have o6:=(b.fr 6 (jX rfl)).trans q6;have o3:=(b.fr 3 (jX rfl)).trans q3;have av:i=0\/i=1\/i=2\/i=3\/i=4\/i=5\/i=6\/i=7\/i=8\/i=9:=by omega
  rcases av with rfl|rfl|rfl|rfl|rfl|rfl|rfl|rfl|rfl|rfl
  all_goals
   simp at H;subst H
  ·refine au rfl rfl ?_;simp [rU,go_sem,o6];exact b.put (i:=0) (t:=287) (by omega) rfl (f 0 287 rfl) (by omega) rfl (fun _ _ _ h=>h) (b.cw.keep (by omega) (by omega) (oP _ _))
  ·refine au rfl rfl ?_;have S:y.tmps[287]?.getD qh= .pointer (some ⟨w.heap.size+1+1+1+1,3,none⟩):=b.vl 0 287 rfl (d ⟨0,.data⟩ (by simp) rfl);have A:listed.getD 9 false=false:=by
    cases G:listed.getD 9 false
    ·rfl
    ·have r:=V 9 _ rfl G ⟨1,.phase⟩ (by simp) rfl;have l:1<listed.size:=by omega
     simp [l]at r j;rw [r]at j;cases j
   have z:=b.cw.1 A;obtain⟨⟨z0,z1,z2,z3⟩,zf,zl⟩:=aS z.gV;simp [rU,go_sem,S,z3];exact b.put (i:=1) (t:=288) (by omega) rfl (f 1 288 rfl) (by omega) rfl (fun _ _ _ h=>h) (b.cw.keep (by omega) (by omega) (oP _ _))
  ·refine au rfl rfl ?_;simp [rU,go_sem,o3];exact b.put (i:=2) (t:=289) (by omega) rfl (f 2 289 rfl) (by omega) rfl (fun _ _ _ h=>h) (b.cw.keep (by omega) (by omega) (oP _ _))
  ·refine au rfl rfl ?_;have O:y.tmps[289]?.getD qh= .pointer (some ⟨w.heap.size+1,1,none⟩):=b.vl 2 289 rfl (d ⟨2,.data⟩ (by simp) rfl);have A:listed.getD 9 false=false:=by
    cases G:listed.getD 9 false
    ·rfl
    ·have r:=V 9 _ rfl G ⟨3,.phase⟩ (by simp) rfl;have l:3<listed.size:=by omega
     simp [l]at r j;rw [r]at j;cases j
   have z:=b.cw.1 A;have E:=(kz z.act).2.1;rw [X]at E;simp [rU,go_sem,O,E];exact b.put (i:=3) (t:=290) (by omega) rfl (f 3 290 rfl) (by omega) rfl (fun _ _ _ h=>h) (b.cw.keep (by omega) (by omega) (oP _ _))
  ·refine au rfl rfl ?_;have N:y.tmps[290]?.getD qh= .int .i64 (a:Int):=b.vl 3 290 rfl (d ⟨3,.data⟩ (by simp) rfl);simp [rU,go_sem,N];refine(nC a W (by omega)).mono ?_;rintro e W' ⟨rfl,m⟩;exact b.put (i:=4) (t:=291) (by omega) rfl (f 4 291 rfl) (by omega) rfl (V2.step (Ag.keep fun g _ hl=>m.block g hl) (fun u h=>bF.below h m)) (b.cw.keep (by omega) (by omega) m)
  ·refine au rfl rfl ?_;have M:y.tmps[291]?.getD qh= .string (Pl.dec (a:Int)):=b.vl 4 291 rfl (d ⟨4,.data⟩ (by simp) rfl);have hz:¬9223372036854775807<2+(Pl.dec (a:Int)).size:=by
    have:=jK (a:Int) (by omega) (by omega);omega
   simp [rU,go_sem,M,hz];exact b.put (i:=5) (t:=292) (by omega) rfl (f 5 292 rfl) (by omega) rfl (fun _ _ _ h=>h) (b.cw.keep (by omega) (by omega) (oP _ _))
  ·refine au rfl rfl ?_;have aD:y.tmps[292]?.getD qh= .string (aW (a:Int)):=b.vl 5 292 rfl (d ⟨5,.data⟩ (by simp) rfl);have m:xn W.heap.size W (W.alloc (.cells #[.string (aW (a:Int))] 9)):=(oP _ _).alloc (oC _) _;have C:p.heap.size<=W.heap.size:=b.cw.2.2.2;simp [rU,go_sem,aD];exact b.put (i:=6) (t:=293) (by omega) rfl (f 6 293 rfl) (by omega) ⟨W.heap.size,rfl,C,by simp⟩ (V2.step (Ag.keep fun g _ hl=>m.block g hl) (fun u h=>bF.below h m)) (b.cw.keep (by omega) (by omega) m)
  ·refine au rfl rfl ?_;have R:y.tmps[288]?.getD qh=vk:=b.vl 1 288 rfl (d ⟨1,.data⟩ (by simp) rfl);have aE:=b.vl 6 293 rfl (d ⟨6,.data⟩ (by simp) rfl);have A:listed.getD 9 false=false:=by
    cases G:listed.getD 9 false
    ·rfl
    ·have r:=V 9 _ rfl G ⟨7,.phase⟩ (by simp) rfl;have l:7<listed.size:=by omega
     simp [l]at r j;rw [r]at j;cases j
   have z:=b.cw.1 A;have n7:listed.getD 7 false=false:=by
    have l:7<listed.size:=by omega
    simp [l]at j⊢;exact j
   have D:=b.cw.2.1 n7;have C:p.heap.size<=W.heap.size:=b.cw.2.2.2;obtain⟨g,eg,aR,aq⟩:Ag p.heap.size (aW (a:Int)) (y.tmps[293]?.getD qh) W:=aE;refine yU (.tmp 288) (.tmp 293) rfl (w.heap.size+5) vk keys (aW (a:Int)) (by simpa [Ee]using R) D (by have:=z.sz;omega) g (by simpa [Ee]using eg) aq ak ?_;intro v' W' Z B;have ad:=Jj Zh;have GY:∀g,p.heap.size<=g->g<W.heap.size->W'.heap[g]? =W.heap[g]? :=fun g r h2=>B.block g h2 (fun q=>by have:=(ad g q.symm).2;omega);refine b.put (i:=7) (t:=294) (by omega) rfl (f 7 294 rfl) (by omega) ?_ (V2.step1 (Ag.keep GY) n7) ?_
   ·show bF W' (w.heap.size+5) v' (keys++ [(aW (a:Int))]);exact Z
   ·unfold Je;rw [BD false (show 7≠9 by omega),lh (by omega)];refine⟨fun _=>z.grown D B (oC _) (by decide),fun q=>(by cases q),fun q=>(by rw [A]at q;cases q),BG C B.size⟩
  ·refine au rfl rfl ?_;simp [rU,go_sem,o6];exact b.put (i:=8) (t:=295) (by omega) rfl (f 8 295 rfl) (by omega) rfl (fun _ _ _ h=>h) (b.cw.keep (by omega) (by omega) (oP _ _))
  ·refine au rfl rfl ?_;have J:y.tmps[295]?.getD qh= .pointer (some ⟨w.heap.size+1+1+1+1,3,none⟩):=b.vl 8 295 rfl (d ⟨8,.data⟩ (by simp) rfl);have L:=b.vl 7 294 rfl (d ⟨7,.data⟩ (by simp) rfl);have l7:listed.getD 7 false=true:=d ⟨7,.data⟩ (by simp) rfl;have A:listed.getD 9 false=false:=by
    have l:9<listed.size:=by omega
    simp [l]at j⊢;exact j
   have z:=b.cw.1 A;have D:bF W (w.heap.size+5) (y.tmps[294]?.getD qh) (keys++ [(aW (a:Int))]):=L;obtain⟨va,vc,ev⟩:=az D;obtain⟨nn,aa⟩:∃n,(keys++ [(aW (a:Int))]).length=n:=⟨_,rfl⟩
   rw [aa]at ev;rw [ev]at D;obtain⟨⟨z0,z1,z2,z3⟩,zf,zl⟩:=aS z.gV;have U:aI (w.heap.size+1+1+1+1) W (W.setCell ⟨w.heap.size+1+1+1+1,3,none⟩ (.slice va nn vc)):=(aI.refl _ _).setCell _ _;have I:iG W (w.heap.size+1+1+1+1):=iG.rp z.gV;have aL:w.heap.size+1+1+1+1<p.heap.size:=by have:=F;omega
   simp [rU,go_sem,J,ev,z3,zf];refine b.skip (i:=9) rfl (V2.step (Ag.keep fun g r h2=>U.block g h2 (by omega)) (fun u h=>bC h U I (by decide))) ?_;unfold Je;rw [BD false (show 9≠7 by omega),lh (by omega),l7];refine⟨fun q=>(by cases q),fun q=>(by cases q),fun _=>⟨_,z.uH _,bC D U I (by decide)⟩,BG b.cw.2.2.2 U.size⟩
 ·rintro listed y W hr b;have aw:=dm (by decide+kernel) b.ls hr;obtain⟨-,-,h9,-⟩:=b.cw;obtain⟨v,hs,H⟩:=h9 (aw 9 (by decide));have ar:∀t,¬(287<=t/\t<287+9)->y.tmps[t]?.getD qh=a0.tmps[t]?.getD qh:=fun t r=>b.fr t fun k hk=>by
   have an:k<10:=by rcases OO k 10 with h|h;exact h;(rw [xk,Jk (by simpa using h)]at hk;cases hk)
   have key:∀k:Fin 10,(([some 287,some 288,some 289,some 290,some 291,some 292,some 293,some 294,some 295,none]:List (Option Nat)).getD k.1 none).all (fun t=>decide (287<=t)&&decide (t<296))=true:=by decide+kernel
   have:=key ⟨k,an⟩;rw [hk]at this;simp at this;omega
  rw [DU 287 9 b.sz b.df ar];exact hQ _ W v (iq _ _ _) hs H
 ·exact pI.start ⟨fun _=>ay.below ((oP _ _).drew),fun _=>bF.below Zh ((oP _ _).drew),fun q=>(by rw [ed]at q;cases q),oC _⟩
def Il(w w0:qL)(A M:Nat)(s:Pl.Nt)(P K T:Nat->xh)(x:Pl.Ac)(d hD:Bool)(hP hK hT:xh)(me:Nat->Int)(hv:xh)(sd:List (Int×Int))(p:Int×Int)(l:Array Bool)(W:qL):Prop:=
 Cf w W s P K T x 0 0 (.slice none 0 0) (.slice none 0 0)/\vM W M hD hP hK hT me/\(l.getD 11 false=false->W.heap[A]? =some (.cells #[.bool d,hv] 141))/\(l.getD 9 false=false->aU 143 W (A+1) hv sd)/\
  (l.getD 11 false=true->∃v,W.heap[A]? =some (.cells #[.bool d,v] 141)/\aU 143 W (A+1) v (sd++ [p]))/\w0.heap.size<=W.heap.size
theorem Il.keep{w m W r:qL}{A M:Nat}{s:Pl.Nt}{P K T:Nat->xh}{x:Pl.Ac}{d hD:Bool}{hP hK hT:xh}{me:Nat->Int}{o:xh}{n:List (Int×Int)}{p:Int×Int}{l:Array Bool}{i:Nat}(h:Il w m A M s P K T x d hD hP hK hT me o n p l W)(t:i≠9)(j:i≠11)(k:xn W.heap.size W r):Il w m A M s P K T x d hD hP hK hT me o n p (l.setIfInBounds i true) r:=by
 obtain⟨a,b,c,e,f,g⟩:=h;unfold Il;rw [BD false t,BD false j];exact⟨a.below k,aj.below b k,fun q=>(k.block _ (aG (c q))).trans (c q),fun q=>(e q).below k,fun q=>by obtain⟨v,u1,u2⟩:=f q;exact⟨v,(k.block _ (aG u1)).trans u1,u2.below k⟩,BG g k.size⟩
theorem WM{Q:Exit->Uz->qL->Prop}{a0:Uz}{p:qL}{w:qL}{s:Pl.Nt}{P K T:Nat->xh}{x:Pl.Ac}{A M k hl hc:Nat}{d hD:Bool}{hP hK hT:xh}{me:Nat->Int}{ha:Option Addr}{r:List (Int×Int)}
  (ar:a0.tmps.size=421)
  (an:a0.tmps[12]?.getD qh= .pointer (some ⟨A,0,none⟩))
  (q7:a0.tmps[7]?.getD qh= .pointer (some ⟨M,0,none⟩))
  (ak:a0.tmps[13]?.getD qh= .int .i64 (k:Int))
  (L:k<12)
  (bp:M<A)
  (br:w.heap.size+5<=A)
  (bq:A<p.heap.size)
  (bc:Cf w p s P K T x 0 0 (.slice none 0 0) (.slice none 0 0))
  (bd:vM p M hD hP hK hT me)
  (bh:p.heap[A]? =some (.cells #[.bool d,.slice ha hl hc] 141))
  (Zh:aU 143 p (A+1) (.slice ha hl hc) r)
  (aq:r.length<=1000)
  (hQ:∀xs W v,xs.length=11->Cf w W s P K T x 0 0 (.slice none 0 0) (.slice none 0 0)->vM W M hD hP hK hT me->W.heap[A]? =some (.cells #[.bool d,v] 141)->aU 143 W (A+1) v (r++ [((k:Int),me k)])->Q .normal {a0 with tmps:=setFrom a0.tmps 216 xs} W):
  ∀ops,dX Rq 51=some ops->(OM 51 ops true).wp xx Q a0 p:=by
 intro ops aH;have eo:=GX (aH.symm.trans (rfl:dX Rq 51=some _));subst eo;clear aH;have c:=iE ([some 216,some 217,some 218,some 219,some 220,some 221,some 222,some 223,some 224,some 225,some 226,none]:List (Option Nat)) rfl;refine MJ (by kernel_rfl) ?_
 refine cO (pI a0 12 (fun k=>([some 216,some 217,some 218,some 219,some 220,some 221,some 222,some 223,some 224,some 225,some 226,none]:List (Option Nat)).getD k none) (V2 [8] [9] (PM p.heap.size ((k:Int),me k)) (fun u W=>aU 143 W (A+1) u (r++ [((k:Int),me k)])) [.pointer (some ⟨A,1,none⟩),.slice ha hl hc,.int .i64 (k:Int),.int .i64 (k:Int),.pointer (some ⟨M,4,none⟩),.pointer (some ⟨M,4+k,none⟩),.int .i64 (me k),.agg #[.int .i64 (k:Int),.int .i64 (me k)],qh,qh,.pointer (some ⟨A,1,none⟩),qh]) (Il w p A M s P K T x d hD hP hK hT me (.slice ha hl hc) r ((k:Int),me k))) ?_ ?_ _ _ _ _ (by decide+kernel) ?_ (bn _ _ _)
 ·rintro i listed l W hi jS a;rw [Qi]at hi;obtain⟨f,o,J,b⟩:=hi;have sN:i<12:=(Array.getElem?_eq_some_iff.1 J).1;have bm:=a.ls;have I:=(a.fr 12 (jX rfl)).trans an;have o7:=(a.fr 7 (jX rfl)).trans q7;have H:=(a.fr 13 (jX rfl)).trans ak;have ba:i=0\/i=1\/i=2\/i=3\/i=4\/i=5\/i=6\/i=7\/i=8\/i=9\/i=10\/i=11:=by omega
  rcases ba with rfl|rfl|rfl|rfl|rfl|rfl|rfl|rfl|rfl|rfl|rfl|rfl
  all_goals
   simp at J;subst J
  ·refine au rfl rfl ?_;simp [rU,go_sem,I];exact a.put (i:=0) (t:=216) (by omega) rfl (c 0 216 rfl) (by omega) rfl (fun _ _ _ h=>h) (a.cw.keep (by omega) (by omega) (oP _ _))
  ·refine au rfl rfl ?_;have ad:l.tmps[216]?.getD qh= .pointer (some ⟨A,1,none⟩):=a.vl 0 216 rfl (b ⟨0,.data⟩ (by simp) rfl);have n11:listed.getD 11 false=false:=by
    cases hq:listed.getD 11 false
    ·rfl
    ·have E:=jS 11 _ rfl hq ⟨1,.phase⟩ (by simp) rfl;have j:1<listed.size:=by omega
     simp [j]at E f;rw [E]at f;cases f
   obtain⟨z0,z1,f0,f1,bg⟩:=aQ (a.cw.2.2.1 n11);simp [rU,go_sem,ad,z1];exact a.put (i:=1) (t:=217) (by omega) rfl (c 1 217 rfl) (by omega) rfl (fun _ _ _ h=>h) (a.cw.keep (by omega) (by omega) (oP _ _))
  ·refine au rfl rfl ?_;simp [rU,go_sem,H];exact a.put (i:=2) (t:=218) (by omega) rfl (c 2 218 rfl) (by omega) rfl (fun _ _ _ h=>h) (a.cw.keep (by omega) (by omega) (oP _ _))
  ·refine au rfl rfl ?_;simp [rU,go_sem,H];exact a.put (i:=3) (t:=219) (by omega) rfl (c 3 219 rfl) (by omega) rfl (fun _ _ _ h=>h) (a.cw.keep (by omega) (by omega) (oP _ _))
  ·refine au rfl rfl ?_;simp [rU,go_sem,o7];exact a.put (i:=4) (t:=220) (by omega) rfl (c 4 220 rfl) (by omega) rfl (fun _ _ _ h=>h) (a.cw.keep (by omega) (by omega) (oP _ _))
  ·refine au rfl rfl ?_;have Y:l.tmps[220]?.getD qh= .pointer (some ⟨M,4,none⟩):=a.vl 4 220 rfl (b ⟨4,.data⟩ (by simp) rfl);have Z:l.tmps[219]?.getD qh= .int .i64 (k:Int):=a.vl 3 219 rfl (b ⟨3,.data⟩ (by simp) rfl);have aR:(k:Int)<12:=by omega
   simp [rU,go_sem,Y,Z,aR];exact a.put (i:=5) (t:=221) (by omega) rfl (c 5 221 rfl) (by omega) rfl (fun _ _ _ h=>h) (a.cw.keep (by omega) (by omega) (oP _ _))
  ·refine au rfl rfl ?_;have X:l.tmps[221]?.getD qh= .pointer (some ⟨M,4+k,none⟩):=a.vl 5 221 rfl (b ⟨5,.data⟩ (by simp) rfl);have aD:=a.cw.2.1.line k L;simp [rU,go_sem,X,aD];exact a.put (i:=6) (t:=222) (by omega) rfl (c 6 222 rfl) (by omega) rfl (fun _ _ _ h=>h) (a.cw.keep (by omega) (by omega) (oP _ _))
  ·refine au rfl rfl ?_;have bk:l.tmps[218]?.getD qh= .int .i64 (k:Int):=a.vl 2 218 rfl (b ⟨2,.data⟩ (by simp) rfl);have V:l.tmps[222]?.getD qh= .int .i64 (me k):=a.vl 6 222 rfl (b ⟨6,.data⟩ (by simp) rfl);simp [rU,go_sem,bk,V];exact a.put (i:=7) (t:=223) (by omega) rfl (c 7 223 rfl) (by omega) rfl (fun _ _ _ h=>h) (a.cw.keep (by omega) (by omega) (oP _ _))
  ·refine au rfl rfl ?_;have U:l.tmps[223]?.getD qh= .agg #[.int .i64 (k:Int),.int .i64 (me k)]:=a.vl 7 223 rfl (b ⟨7,.data⟩ (by simp) rfl);have F:xn W.heap.size W (W.alloc (.cells #[.int .i64 (k:Int),.int .i64 (me k)] 143)):=(oP _ _).alloc (oC _) _;have y:p.heap.size<=W.heap.size:=a.cw.2.2.2.2.2;simp [rU,go_sem,U];exact a.put (i:=8) (t:=224) (by omega) rfl (c 8 224 rfl) (by omega) ⟨W.heap.size,rfl,y,by simp,by simp⟩ (V2.step (PM.keep fun g _ hl=>F.block g hl) (fun u h=>aU.below h F)) (a.cw.keep (by omega) (by omega) F)
  ·refine au rfl rfl ?_;have aa:l.tmps[217]?.getD qh= .slice ha hl hc:=a.vl 1 217 rfl (b ⟨1,.data⟩ (by simp) rfl);have S:=a.vl 8 224 rfl (b ⟨8,.data⟩ (by simp) rfl);have n11:listed.getD 11 false=false:=by
    cases hq:listed.getD 11 false
    ·rfl
    ·have E:=jS 11 _ rfl hq ⟨9,.phase⟩ (by simp) rfl;have j:9<listed.size:=by omega
     simp [j]at E f;rw [E]at f;cases f
   have n9:listed.getD 9 false=false:=by
    have j:9<listed.size:=by omega
    simp [j]at f⊢;exact f
   obtain⟨N,z,B,D,-,y⟩:=a.cw;have B:=B n11;have D:=D n9;obtain⟨g,eg,bo,a7,a6⟩:PM p.heap.size ((k:Int),me k) (l.tmps[224]?.getD qh) W:=S;refine Fj (.tmp 217) (.tmp 224) rfl (A+1) (.slice ha hl hc) r ((k:Int),me k) (by simpa [Ee]using aa) D (by omega) g (by simpa [Ee]using eg) a7 a6 aq ?_;intro v' W' av C;have aL:=Jj Zh;have aE:=Jj D;have GY:∀g,p.heap.size<=g->g<W.heap.size->W'.heap[g]? =W.heap[g]? :=fun g E h2=>C.block g h2 (fun q=>by have:=(aL g q.symm).2;omega);have Y8:∀i,i<=A->W'.heap[i]? =W.heap[i]? :=fun i E=>C.block i (by omega) (fun q=>by have:=(aE i q.symm).1;omega);refine a.put (i:=9) (t:=225) (by omega) rfl (c 9 225 rfl) (by omega) ?_ (V2.step1 (PM.keep GY) n9) ?_
   ·show aU 143 W' (A+1) v' (r++ [((k:Int),me k)]);exact av
   ·unfold Il;rw [BD false (show 9≠11 by omega),lh (by omega)];refine⟨N.grown D C (by omega) (by decide),(Y8 M (by omega)).trans z,fun _=>(Y8 A (oC _)).trans B,fun q=>(by cases q),fun q=>(by rw [n11]at q;cases q),BG y C.size⟩
  ·refine au rfl rfl ?_;simp [rU,go_sem,I];exact a.put (i:=10) (t:=226) (by omega) rfl (c 10 226 rfl) (by omega) rfl (fun _ _ _ h=>h) (a.cw.keep (by omega) (by omega) (oP _ _))
  ·refine au rfl rfl ?_;have R:l.tmps[226]?.getD qh= .pointer (some ⟨A,1,none⟩):=a.vl 10 226 rfl (b ⟨10,.data⟩ (by simp) rfl);have bl:=a.vl 9 225 rfl (b ⟨9,.data⟩ (by simp) rfl);have l9:listed.getD 9 false=true:=b ⟨9,.data⟩ (by simp) rfl;have n11:listed.getD 11 false=false:=by
    have j:11<listed.size:=by omega
    simp [j]at f⊢;exact f
   obtain⟨N,z,B,-,-,y⟩:=a.cw;have B:=B n11;have D:aU 143 W (A+1) (l.tmps[225]?.getD qh) (r++ [((k:Int),me k)]):=bl;obtain⟨va,vc,ev⟩:=az D;obtain⟨nn,ay⟩:∃n,(r++ [((k:Int),me k)]).length=n:=⟨_,rfl⟩
   rw [ay]at ev;rw [ev]at D;obtain⟨z0,z1,f0,f1,bg⟩:=aQ B;have G:aI A W (W.setCell ⟨A,1,none⟩ (.slice va nn vc)):=(aI.refl _ _).setCell _ _;have aw:iG W A:=fun e he cur m q=>by
    rw [B]at q;simp at q;rw [<-q.2.1]at he;revert he;decide
   have O:∀u,aU 143 W (A+1) u (r++ [((k:Int),me k)])->aU 143 (W.setCell ⟨A,1,none⟩ (.slice va nn vc)) (A+1) u (r++ [((k:Int),me k)]):=fun u h=>dL h G (Z5 _);simp [rU,go_sem,R,ev,z1,f1];refine a.skip (i:=11) rfl (V2.step (PM.keep fun g E h2=>G.block g h2 (by omega)) O) ?_;unfold Il;rw [BD false (show 11≠9 by omega),lh (by omega),l9];refine⟨N.other G (by omega) aw,aj.but z G (by omega),fun q=>(by cases q),fun q=>(by cases q),fun _=>⟨_,gK B _,O _ D⟩,BG y G.size⟩
 ·rintro listed l W hr a;have bb:=dm (by decide+kernel) a.ls hr;obtain⟨N,z,-,-,bj,-⟩:=a.cw;obtain⟨v,B,J⟩:=bj (bb 11 (by decide));have a8:∀t,¬(216<=t/\t<216+11)->l.tmps[t]?.getD qh=a0.tmps[t]?.getD qh:=fun t E=>a.fr t fun k L=>by
   have aM:k<12:=by rcases OO k 12 with h|h;exact h;(rw [xk,Jk (by simpa using h)]at L;cases L)
   have key:∀k:Fin 12,(([some 216,some 217,some 218,some 219,some 220,some 221,some 222,some 223,some 224,some 225,some 226,none]:List (Option Nat)).getD k.1 none).all (fun t=>decide (216<=t)&&decide (t<227))=true:=by decide+kernel
   have:=key ⟨k,aM⟩;rw [L]at this;simp at this;omega
  rw [DU 216 11 a.sz a.df a8];exact hQ _ W v (iq _ _ _) N z B J
 ·exact pI.start ⟨bc.below ((oP _ _).drew),aj.below bd ((oP _ _).drew),fun _=>bh,fun _=>aU.below Zh ((oP _ _).drew),fun q=>(by rw [ed]at q;cases q),oC _⟩
theorem adC(xs:List xh)(h:xs.length=3):∃c b a,xs= [c,b,a]:=by
 obtain⟨c,i,rfl,h0⟩:=aA h;obtain⟨b,g,rfl,e⟩:=aA h0;obtain⟨a,f,rfl,d⟩:=aA e;obtain rfl:=List.length_eq_zero_iff.1 d;exact⟨c,b,a,rfl⟩
theorem adB(xs:List xh)(h:xs.length=4):∃d c b a,xs= [d,c,b,a]:=by
 obtain⟨d,l,rfl,h0⟩:=aA h;obtain⟨c,k,rfl,g⟩:=aA h0;obtain⟨b,j,rfl,f⟩:=aA g;obtain⟨a,i,rfl,e⟩:=aA f;obtain rfl:=List.length_eq_zero_iff.1 e;exact⟨d,c,b,a,rfl⟩
theorem Lt(xs:List xh)(h:xs.length=9):∃j i g f e d c b a,xs= [j,i,g,f,e,d,c,b,a]:=by
 obtain⟨j,A,rfl,h0⟩:=aA h;obtain⟨i,z,rfl,r⟩:=aA h0;obtain⟨g,y,rfl,q⟩:=aA r;obtain⟨f,x,rfl,p⟩:=aA q;obtain⟨e,w,rfl,o⟩:=aA p;obtain⟨d,v,rfl,n⟩:=aA o;obtain⟨c,u,rfl,m⟩:=aA n;obtain⟨b,t,rfl,l⟩:=aA m;obtain⟨a,s,rfl,k⟩:=aA l;obtain rfl:=List.length_eq_zero_iff.1 k;exact⟨j,i,g,f,e,d,c,b,a,rfl⟩
theorem aa9(xs:List xh)(h:xs.length=13):∃n m l k j i g f e d c b a,xs= [n,m,l,k,j,i,g,f,e,d,c,b,a]:=by
 obtain⟨n,M,rfl,h0⟩:=aA h;obtain⟨m,L,rfl,C⟩:=aA h0;obtain⟨l,K,rfl,B⟩:=aA C;obtain⟨k,J,rfl,A⟩:=aA B;obtain⟨j,I,rfl,z⟩:=aA A;obtain⟨i,H,rfl,y⟩:=aA z;obtain⟨g,G,rfl,x⟩:=aA y;obtain⟨f,F,rfl,w⟩:=aA x;obtain⟨e,E,rfl,v⟩:=aA w;obtain⟨d,D,rfl,u⟩:=aA v;obtain⟨c,t,rfl,q⟩:=aA u;obtain⟨b,s,rfl,p⟩:=aA q;obtain⟨a,r,rfl,o⟩:=aA p;obtain rfl:=List.length_eq_zero_iff.1 o;exact⟨n,m,l,k,j,i,g,f,e,d,c,b,a,rfl⟩
theorem Pl.aa4(es:List aK)(n:Int)(a v1 b v2:ByteArray){c1 c2:Int}{m q:List aK}{b1 o:Bool}(l:Pl.stands es n a v1=b1)(f:wo es n a v1=c1)(e:vZ es n a v1=m)(k:Pl.stands m n b v2=o)(d:wo m n b v2=c2)(c:vZ m n b v2=q):
  (c1≠0->(Pl.putsS es n [(a,v1),(b,v2)] 2).1=c1)/\(c1=0->c2≠0->(Pl.putsS es n [(a,v1),(b,v2)] 2).1=c2)/\
   (c1=0->c2=0->Pl.putsS es n [(a,v1),(b,v2)] 2=(0,q,(if(!b1)then [a]else [])++(if(!o)then [b]else []))):=by
 unfold wo at f d;unfold vZ at e c;rw [l]at f e;rw [k]at d c;have i:Pl.putsS es n [(a,v1),(b,v2)] 1=if b1=true then(0,es,[])else if eQ es n a v1≠0 then(eQ es n a v1,es,[])else(0,jH es n a v1,[a]):=by
  show(if(0:Int)≠0 then(0,es,[])else if Pl.stands es n a v1=true then(0,es,[])else if eQ es n a v1≠0 then(eQ es n a v1,es,[])else(0,jH es n a v1,[]++ [a]))=_;rw [ag (fun h=>h rfl),l];rfl
 have p:Pl.putsS es n [(a,v1),(b,v2)] 2=if(Pl.putsS es n [(a,v1),(b,v2)] 1).1≠0 then Pl.putsS es n [(a,v1),(b,v2)] 1 else if Pl.stands (Pl.putsS es n [(a,v1),(b,v2)] 1).2.1 n b v2=true then Pl.putsS es n [(a,v1),(b,v2)] 1 else if eQ (Pl.putsS es n [(a,v1),(b,v2)] 1).2.1 n b v2≠0 then(eQ (Pl.putsS es n [(a,v1),(b,v2)] 1).2.1 n b v2,(Pl.putsS es n [(a,v1),(b,v2)] 1).2.1,(Pl.putsS es n [(a,v1),(b,v2)] 1).2.2)else(0,jH (Pl.putsS es n [(a,v1),(b,v2)] 1).2.1 n b v2,(Pl.putsS es n [(a,v1),(b,v2)] 1).2.2++ [b]):=rfl
 cases b1
 ·simp only [Qd,if_false]at f e i;rw [f,e]at i;by_cases j:c1=0
  ·rw [ag (fun h=>h j)]at i;rw [p,i];simp only;rw [ag (fun h=>h rfl),k]
   cases o
   ·simp only [Qd,if_false]at d c⊢;rw [d,c];by_cases g:c2=0
    ·rw [ag (fun h=>h g)];exact⟨fun h=>absurd j h,fun _ h=>absurd g h,fun _ _=>rfl⟩
    ·rw [af g];exact⟨fun h=>absurd j h,fun _ _=>rfl,fun _ h=>absurd h g⟩
   ·simp only [if_true]at d c⊢;exact⟨fun h=>absurd j h,fun _ h=>absurd d.symm h,fun _ _=>by rw [c];rfl⟩
  ·rw [af j]at i;rw [p,i];simp only;rw [af j];exact⟨fun _=>rfl,fun h=>absurd h j,fun h=>absurd h j⟩
 ·simp only [if_true]at f e i;subst f;subst e;rw [p,i];simp only;rw [ag (fun h=>h rfl),k]
  cases o
  ·simp only [Qd,if_false]at d c⊢;rw [d,c];by_cases g:c2=0
   ·rw [ag (fun h=>h g)];exact⟨fun h=>absurd rfl h,fun _ h=>absurd g h,fun _ _=>rfl⟩
   ·rw [af g];exact⟨fun h=>absurd rfl h,fun _ _=>rfl,fun _ h=>absurd h g⟩
  ·simp only [if_true]at d c⊢;exact⟨fun h=>absurd rfl h,fun _ h=>absurd d.symm h,fun _ _=>by rw [c];rfl⟩
theorem Sj(s:Pl.Nt)(P K T:Nat->xh)(x:Pl.Ac)(w:qL)(hK:Kn w s P K T)(hk:x.kind=6)(ha:0<=x.a/\x.a<=11)(c:Int)(Q:List ByteArray)(sn:Pl.Nt)(hg:fZ s)(hc:(Pl.putsS (s.K x.a.toNat) x.a.toNat (kX s x.a.toNat) 2).1=c)(aD:nR s x.a.toNat (kX s x.a.toNat)=Q)(aw:tJ s x.a.toNat (kX s x.a.toNat)=sn):
  SN xx 47 #[.agg (ax s.D P K T s.L).toArray,.agg x.cells] w (Ap w c [] 0 Q sn):=by
 obtain⟨u,kD⟩:=aV (_);obtain⟨lS,oq⟩:=IC.new (w:=w) (s:=s) (P:=P) (K:=K) (T:=T) (x:=x) kD.out;obtain⟨kind,xa,b,n,m,⟨p1,p2⟩,key,val⟩:=x;simp only at hk ha hc aD aw⊢;subst hk;obtain⟨a,rfl⟩:∃k:Nat,xa=k:=⟨xa.toNat,by omega⟩
 have t:a<12:=by omega
 have c4:(a:Int)<12:=by omega
 have cR:=ae oq;have cQ:w.heap.size<u.heap.size:=by omega
 have cY:w.heap.size+1<u.heap.size:=by omega
 have cT:w.heap.size+1+1+1+1<u.heap.size:=by omega
 obtain⟨m0,m1,m2,m3,m4,m5,m6,m7,m8⟩:=lS.nine;have iO:=ae (lS.net.place a t);obtain⟨H,vS⟩:=aV ((u.alloc (.cells #[.slice none 0 0,.bool false,.slice none 0 0,.slice none 0 0,.int .i64 0,.int .i64 0,.int .i64 0,.int .i64 0,.int .i64 0,.int .i64 0,.int .i64 0,.int .i64 0,.int .i64 0,.int .i64 0,.int .i64 0,.int .i64 0] 33)).setCells u.heap.size 0 (bP (s.D a) (P a) (K a) (T a) (s.L a)));obtain⟨aL,bl,E8,av⟩:=sH lS rfl vS.out;rw [<-aP (s.D a) (P a) (K a) (T a) (s.L a)]at av;have yJ:=ae av;have r:=ae (St.of aL hK);have Ec:=ae bl;have nI:=ae (zk (D:=s.D a) (L:=s.L a) (hK.XP a t) (hK.XQ a t) (hK.XO a t));obtain⟨k0,k1,k2,k3,k4,k5,k6,k7,k8⟩:=aL.nine;have JX:=r.out.net.lt;have S:=r.out.net.soft;obtain⟨⟨z0,z1,z2,z3⟩,zf,zl⟩:=aS r.out.gV;have cW:w.heap.size+1<H.heap.size:=by omega
 simp only at m0 m1 m2 m3 m4 m5 m6 m7 m8 k0 k1 k2 k3 k4 k5 k6 k7 k8;unfold Pl.Ac.cells at kD⊢;simp only at kD⊢;clear oq lS aL bl av;have HC:=ae hc;have uB:=ae aD;have HS:=ae aw;have HG:=ae hg;have MQ:Eb (Pl.fault (s.K a)=0):=ae (hg.K a);obtain⟨bx,bz⟩:=xQ (L:=s.L a) (fun i _=>hg.L a i) 12 (oC _);have cK:=ae bx;have cJ:Eb (∀p∈Pl.sidesK (s.L a) 12,dJ p):=ae fun p hp=>by
  obtain⟨_,q1,q2,q3,q4⟩:=bz p hp;exact gp (by omega)
 have bL:Eb (∀p∈s.P a,dJ p):=ae fun p hp=>gp (by have:=gm ((pO (hg.P a)).2.1 p hp);omega);have cH:=ae (hg.P a);have cF:Eb ((aY (a:Int)).size<=Iy):=ae (BG (EJ (a:Int) (by omega) (by omega)) (by unfold Iy;omega));have cE:Eb ((aW (a:Int)).size<=Iy):=ae (BG (Eo (a:Int) (by omega) (by omega)) (by unfold Iy;omega));have cD:Eb ((iF (s.D a) (Pl.sidesK (s.L a) 12)).size<=Iy):=ae (BG (zB (d:=s.D a) (L:=s.L a) (fun i _=>hg.L a i)) (by unfold Iy;omega));have cC:Eb ((fB (s.P a)).size<=Iy):=ae (BG (zh (hg.P a)) (by unfold Iy;omega));obtain⟨sa,sc,ev,-,-,-⟩:=(r.out.kn.2.1 a t).shape (Pl.Good.ok ((bK _).1 MQ.out));obtain⟨nK,CE⟩:=ai ((s.K a).length);rw [CE.out]at ev
 have Fg:Eb (K a= .slice sa nK sc):=ae ev;obtain⟨pa,pc,aR,-,-,-⟩:=(r.out.kn.1 a t).shape bL.out;obtain⟨nP,vT⟩:=ai ((s.P a).length);rw [vT.out]at aR;have bN:Eb (P a= .slice pa nP pc):=ae aR;have bp:=Ec.out.yB;have hM:=aj.lt Ec.out;have cL:Eb (w.heap.size+5<=H.heap.size):=ae r.out.sz;obtain⟨d,HD⟩:=ai (s.D a);rw [HD.out]at bp;clear hc aD aw hg bx bz ev aR;go_enter Tryz.func47,Tryz.ntmps47;go_wp2_with fail;rw [<-show u=_ from kD.out];refine(kW _ 1 10 _ (by omega)).mono ?_;rintro e w' ⟨rfl,B⟩;rw [B];clear B w';go_wp2_with (first
  |(go_at_call 74;refine(dK _ _).mono ?_;rw [zx ha];rintro e w' ⟨rfl,B⟩;rw [B];clear B w')
  |refine Pe rfl 33 (.tmp 51) rfl w.heap.size (a*16) rfl (bP (s.D a) (P a) (K a) (T a) (s.L a)) _ iO.out Xc rfl (by rw [aP];exact gq) ?_
  |refine aX rfl 33 (.tmp 7) (.tmp 52) rfl u.heap.size 0 (bP (s.D a) (P a) (K a) (T a) (s.L a)) rfl rfl yJ.out (by rw [aP];exact gq) nI.out vS.out ?_)
 obtain⟨W7,V⟩:=aV (H.alloc (.cells #[.bool d,.slice none 0 0] 141));have IJ:Eb (xn H.heap.size H W7):=ae (by rw [V.out];exact(oP _ _).alloc (oC _) _);have cG:Eb (W7.heap[H.heap.size]? =some (.cells #[.bool d,.slice none 0 0] 141)):=ae (by rw [V.out];exact bW _ _);have cS:H.heap.size<W7.heap.size:=by rw [V.out];simp
 have cl:u.heap.size<H.heap.size:=hM;rw [<-V.out];clear bp hM JX;clear k0 k1 k2 k3 k4 k5 k6 k7 k8 z0 z1 z2 z3 zf zl S;go_loopw [13] (fun vi wr=>∃(k:Nat) (hv:xh),k<=12/\vi= .int .i64 k/\Eb (Cf w wr s P K T ⟨6,(a:Int),b,n,m,(p1,p2),key,val⟩ 0 0 (.slice none 0 0) (.slice none 0 0))/\Eb (vM wr u.heap.size (s.D a) (P a) (K a) (T a) (s.L a))/\Eb (wr.heap[H.heap.size]? =some (.cells #[.bool d,hv] 141))/\Eb (aU 143 wr (H.heap.size+1) hv (Pl.sidesK (s.L a) k))) (fun vi _=>12-(Tq vi).toNat)
 case atStart=>exact⟨0,.slice none 0 0,LM _,rfl,ae (r.out.zero.below IJ.out),ae (aj.below Ec.out IJ.out),cG,ae (aU.nil _ _ _)⟩
 case round=>
  obtain⟨k,hv,hk,rfl,bh,Z,J,HO⟩:=hrel;obtain⟨a3,c3,rfl⟩:=az HO.out;have hlen:=uG (s.L a) k;obtain⟨n3,pW⟩:=ai ((Pl.sidesK (s.L a) k).length);rw [pW.out]at J hlen;have aM:=HO.out;rw [pW.out]at aM;have Td:=ae aM;have ct:=aG J.out;have c5:u.heap.size<wr.heap.size:=by omega
  clear HO aM;by_cases bm:k<12
  ·have cV:(k:Int)<12:=by omega
   have cU:=Z.out.line k bm;by_cases hp:0<s.L a k
   ·have cg:decide (0<s.L a k)=true:=by simpa using hp
    have yS:Eb (Pl.sidesK (s.L a) (k+1)=Pl.sidesK (s.L a) k++ [((k:Int),s.L a k)]):=ae (by show(if _ then _ else _)=_;rw [af hp]);clear hp;go_wp2_with fail;rename_i K1 cr;refine WM (A:=H.heap.size) (M:=u.heap.size) (k:=k) (d:=d) (hD:=s.D a) (hP:=P a) (hK:=K a) (hT:=T a) (me:=s.L a) rfl rfl rfl rfl bm cl cL.out ct bh.out Z.out J.out Td.out (by have:=pW.out;omega) ?_ _ (by kernel_rfl);intro xs W v g hS ck hA ho;obtain⟨x0,x1,x2,x3,x4,x5,x6,x7,x8,x9,cM,rfl⟩:=abg xs g;simp only [dC,spl];refine cr _ W ?_;go_wp2_with fail;go_roundw
    case rel=>exact⟨k+1,v,by omega,by go_num,ae hS,ae ck,ae hA,ae (by rw [yS.out];exact ho)⟩
    case measure=>simp [Tq];omega
   ·have cg:decide (0<s.L a k)=false:=by simpa using hp
    have yS:Eb (Pl.sidesK (s.L a) (k+1)=Pl.sidesK (s.L a) k):=ae (by show(if _ then _ else _)=_;rw [ag hp]);clear hp;go_wp2_with fail;go_roundw
    case rel=>exact⟨k+1,_,by omega,by go_num,bh,Z,J,ae (by rw [yS.out];exact Td.out)⟩
    case measure=>simp [Tq];omega
  ·obtain rfl:k=12:=by omega
   have MN:=ae (Cf.with bh.out (dI.nil _ _) (bF.nil _ _));obtain⟨O,N,ca,b9,c6⟩:=aQ J.out;go_wp2_with fail;refine(Qa d a3 n3 c3 (Pl.sidesK (s.L a) 12) wr (aU.vG Td.out cJ.out)).mono ?_;rw [cK.out];obtain⟨v1,bd⟩:=ai (iF d (Pl.sidesK (s.L a) 12));rw [bd.out];rintro e W8 ⟨rfl,aE⟩;have xK:=ae (MN.out.below aE);have Xe:Eb (vM W8 u.heap.size (s.D a) (P a) (K a) (T a) (s.L a)):=ae (aj.below Z.out aE);have bo:=Xe.out.jh;rw [bN.out]at bo;have cm:=aj.lt Xe.out;clear O N ca b9 aE;go_wp2_with fail;have ba:=xK.out.kn.1 a t;rw [bN.out]at ba;refine(D8 pa nP pc (s.P a) W8 (aU.vG ba bL.out)).mono ?_;rw [cH.out];obtain⟨v2,bc⟩:=ai (fB (s.P a));rw [bc.out];rintro e W9 ⟨rfl,CJ⟩;have iU:=ae (xK.out.below CJ)
   have bR:Eb (vM W9 u.heap.size (s.D a) (P a) (K a) (T a) (s.L a)):=ae (aj.below Xe.out CJ);clear bo cm ba CJ;have HI:Eb (kX s a= [(aY (a:Int),v1),(aW (a:Int),v2)]):=ae (by unfold kX;rw [HD.out,bd.out,bc.out]);have cu:Eb (v1.size<=Iy):=ae (by rw [<-bd.out,<-HD.out];exact cD.out);have cv:Eb (v2.size<=Iy):=ae (by rw [<-bc.out];exact cC.out);obtain⟨b1,b8⟩:=ai (Pl.stands (s.K a) (a:Int) (aY (a:Int)) v1);obtain⟨t1,bg⟩:=ai (wo (s.K a) (a:Int) (aY (a:Int)) v1);obtain⟨e1,UT⟩:=ai (vZ (s.K a) (a:Int) (aY (a:Int)) v1);obtain⟨b2,b7⟩:=ai (Pl.stands e1 (a:Int) (aW (a:Int)) v2);obtain⟨t2,bE⟩:=ai (wo e1 (a:Int) (aW (a:Int)) v2);obtain⟨e2,b6⟩:=ai (vZ e1 (a:Int) (aW (a:Int)) v2)
   have Y:=ae (aa4 (s.K a) (a:Int) (aY (a:Int)) v1 (aW (a:Int)) v2 b8.out bg.out UT.out b7.out bE.out b6.out);obtain⟨R,HR⟩:=ai (Pl.putsS (s.K a) (a:Int) [(aY (a:Int),v1),(aW (a:Int),v2)] 2);rw [HR.out]at Y;have yK:Eb (c=R.1):=ae (by rw [<-HC.out];simp only [Rz];rw [HI.out,HR.out]);have Xf:Eb (Q=if c=0 then R.2.2 else []):=ae (by rw [<-uB.out];unfold nR;simp only [Rz];rw [HI.out];show(if(Pl.putsS _ _ _ 2).1=0 then(Pl.putsS _ _ _ 2).2.2 else [])=_;rw [HR.out,yK.out]);have Cm:Eb (sn=if c=0 then{s with K:=cZ s.K a R.2.1}else s):=ae (by rw [<-HS.out];unfold tJ;simp only [Rz];rw [HI.out];show(if(Pl.putsS _ _ _ 2).1=0 then{s with K:=cZ s.K a (Pl.putsS _ _ _ 2).2.1}else s)=_;rw [HR.out,yK.out]);have a6:=iU.out.kn.2.1 a t;rw [Fg.out]at a6;have a7:=bR.out.lq
   rw [Fg.out]at a7;have bq:=aj.lt bR.out;have bk:w.heap.size+1<W9.heap.size:=by have:=iU.out.sz;omega
   go_wp2_with fail;rename_i K2 cq;refine WL (M:=u.heap.size) (X:=w.heap.size+1) (a:=a) (es:=s.K a) (val:=v1) rfl rfl rfl rfl bq a7 bk (kz iU.out.act).2.1 t a6 CE.out MQ.out cF.out cu.out b8.out bg.out UT.out ?_ _ (by kernel_rfl);intro xs ys Xt g ar VW j l G5;obtain⟨aq,an,ak,rfl⟩:=adC xs g;obtain⟨g0,g1,g2,g3,g4,g5,g6,g7,g8,g9,g10,g11,g12,g13,rfl⟩:=abf ys ar;obtain⟨f1,bX⟩:=ai ((!b1));have j:an= .bool (!b1):=j;rw [bX.out]at j;have l:ak= .int .i64 t1:=l;subst j;subst l;have VW:Own Xt 0 aq e1:=VW;obtain⟨la,lc,rfl⟩:=az VW;obtain⟨n1,bO⟩:=ai (e1.length);rw [bO.out]at VW⊢;have cx:=ae VW;have EL:=ae (iU.out.below G5);simp only [dC,spl];refine cq _ Xt ?_;clear a6 a7 bq bk G5 VW;have bA:w.heap.size+1<Xt.heap.size:=by have:=EL.out.sz;omega
   obtain⟨k0,k1,k2,k3,k4,k5,k6,k7,k8⟩:=kz EL.out.act;obtain⟨⟨z0,z1,z2,z3⟩,zf,zl⟩:=aS EL.out.gV;have br:=EL.out.net.lt;have S:=EL.out.net.soft;by_cases z:t1=0
   ·have cI:Eb (Pl.fault e1=0):=ae (by
     rw [<-UT.out];have hh:=bg.out;unfold wo at hh;unfold vZ;split
     ·exact MQ.out
     ·rename_i cj;rw [ag cj]at hh;exact(bK _).2 (xX (by rw [hh,z])))
    subst z;go_wp2_with fail;rename_i K3 cp;refine WJ (X:=w.heap.size+1) (a:=a) (es:=e1) (val:=v2) rfl rfl rfl rfl bA (kz EL.out.act).2.1 t cx.out bO.out cI.out cE.out cv.out b7.out bE.out b6.out ?_ _ (by kernel_rfl);intro xs ys bB g ar VU j l ay bs;obtain⟨aq,an,ak,zF,rfl⟩:=adB xs g;obtain⟨g0,g1,g2,g3,g4,g5,g6,g7,g8,g9,g10,g11,g12,rfl⟩:=aa9 ys ar;obtain⟨f2,bS⟩:=ai ((!b2));have j:zF= .bool (!b2):=j;rw [bS.out]at j;have l:ak= .int .i64 t2:=l;have ay:an= .bool f1:=ay;subst j;subst l;subst ay;have VU:Own bB 0 aq e2:=VU;obtain⟨cP,cN,rfl⟩:=az VU;obtain⟨n2,yT⟩:=ai (e2.length);rw [yT.out]at VU⊢;have cy:=ae VU;have EK:=ae (EL.out.below bs);simp only [dC,spl];refine cp _ bB ?_;clear bA bs VU br;clear k0 k1 k2 k3 k4 k5 k6 k7 k8 z0 z1 z2 z3 zf zl S
    have cX:=EK.out.net.lq a t;obtain⟨k0,k1,k2,k3,k4,k5,k6,k7,k8⟩:=kz EK.out.act;obtain⟨⟨z0,z1,z2,z3⟩,zf,zl⟩:=aS EK.out.gV;have br:=EK.out.net.lt;have S:=EK.out.net.soft;by_cases y:t2=0
    ·have bj:=ae (Y.out.2.2 (by simp) y);subst y;have U:c=0:=by rw [yK.out,bj.out]
     have G:sn={s with K:=cZ s.K a e2}:=by rw [Cm.out,af U,bj.out]
     have ek:Q=(if f1 then [aY (a:Int)]else [])++(if f2 then [aW (a:Int)]else []):=by rw [Xf.out,af U,bj.out,bX.out,bS.out]
     subst U;subst G;have aa:=ae ek;clear ek;have HX:=ae ((EK.out.dV 0).CY a (EK.out.Ov cy.out 0 _));have ad:=HX.out.sz
     cases f1
     ·cases f2
      ·have q:Q= []:=by have:=aa.out;simpa using this
       subst q;have f:=ae HX.out.fin;go_wp2_with fail;rename∀(a:Uz) (w:qL),OE _ OI _ a w->_=>h
       refine bY (w:=w) rfl rfl rfl rfl rfl f.out.net f.out.kn.one f.out.gV f.out.room f.out.nM ?_ _ (by kernel_rfl);intro O N I F C E;refine h _ I ?_;exact SQ (dU f.out E F C)
      ·go_wp2_with fail;refine Pz (w:=w) (a:=a) (keys:= []) (vk:= .slice none 0 0) rfl rfl rfl rfl t ad HX.out.zero (bF.nil _ _) (by simp) ?_ _ (by kernel_rfl);intro xs cA cd g YY Rl;obtain⟨cc,cb,rfl⟩:=az Rl;obtain⟨O,N,y2,y3,y4,y5,y6,y7,y8,rfl⟩:=Lt xs g;simp only [dC,spl];have q:Q= [aW (a:Int)]:=by have:=aa.out;simpa using this
       subst q;have f:=ae (Cf.with YY (dI.nil _ _) (World.dh Rl (LM _))).fin;clear YY Rl;go_wp2_with fail;rename∀(a:Uz) (w:qL),OE _ OI _ a w->_=>h
       refine bY (w:=w) rfl rfl rfl rfl rfl f.out.net f.out.kn.one f.out.gV f.out.room f.out.nM ?_ _ (by kernel_rfl);intro O N I F C E;refine h _ I ?_;exact SQ (dU f.out E F C)
     ·go_wp2_with fail;rename∀(a:Uz) (w:qL),OE _ _ _ a w->_=>cn
      refine ZO (w:=w) (a:=a) (keys:= []) (vk:= .slice none 0 0) rfl rfl rfl rfl t ad HX.out.zero (bF.nil _ _) (by simp) ?_ _ (by kernel_rfl);intro xs cB v12 g bb a8;obtain⟨va,vc,rfl⟩:=az a8;obtain⟨O,N,y2,y3,y4,y5,y6,y7,y8,rfl⟩:=Lt xs g;simp only [dC,spl];refine cn _ cB ?_;have bw:=ae bb;have bt:=ae a8;have cz:=bb.sz;clear bb a8
      cases f2
      ·have q:Q= [aY (a:Int)]:=by have:=aa.out;simpa using this
       subst q;have f:=ae (Cf.with bw.out (dI.nil _ _) (World.dh bt.out (LM _))).fin;go_wp2_with fail;rename∀(a:Uz) (w:qL),OE _ OI _ a w->_=>h
       refine bY (w:=w) rfl rfl rfl rfl rfl f.out.net f.out.kn.one f.out.gV f.out.room f.out.nM ?_ _ (by kernel_rfl);intro O N I F C E;refine h _ I ?_;exact SQ (dU f.out E F C)
      ·go_wp2_with fail;refine Pz (w:=w) (a:=a) (keys:= []++ [aY (a:Int)]) rfl rfl rfl rfl t cz bw.out bt.out (by simp) ?_ _ (by kernel_rfl);intro xs cA cd g YY Rl;obtain⟨cc,cb,rfl⟩:=az Rl;obtain⟨O,N,y2,y3,y4,y5,y6,y7,y8,rfl⟩:=Lt xs g;simp only [dC,spl];have q:Q= [aY (a:Int),aW (a:Int)]:=by have:=aa.out;simpa using this
       subst q;have f:=ae (Cf.with YY (dI.nil _ _) (World.dh Rl (LM _))).fin;clear YY Rl;go_wp2_with fail;rename∀(a:Uz) (w:qL),OE _ OI _ a w->_=>h
       refine bY (w:=w) rfl rfl rfl rfl rfl f.out.net f.out.kn.one f.out.gV f.out.room f.out.nM ?_ _ (by kernel_rfl);intro O N I F C E;refine h _ I ?_;exact SQ (dU f.out E F C)
    ·have U:c=t2:=by rw [yK.out];exact Y.out.2.1 (by simp) y
     have o:¬c=0:=by rw [U];exact y
     have ek:Q= []:=by rw [Xf.out,ag o]
     have G:sn=s:=by rw [Cm.out,ag o]
     subst U;subst G;subst ek;have cf:(c==0)=false:=by simpa using y
     clear y o;go_wp2_with fail;have f:=ae (EK.out.dV c).fin;rename∀(a:Uz) (w:qL),OE _ OI _ a w->_=>h
     refine bY (w:=w) rfl rfl rfl rfl rfl f.out.net f.out.kn.one f.out.gV f.out.room f.out.nM ?_ _ (by kernel_rfl);intro O N I F C E;refine h _ I ?_;exact SQ (dU f.out E F C)
   ·have U:c=t1:=by rw [yK.out];exact Y.out.1 z
    have o:¬c=0:=by rw [U];exact z
    have ek:Q= []:=by rw [Xf.out,ag o]
    have G:sn=s:=by rw [Cm.out,ag o]
    subst U;subst G;subst ek;have cf:(c==0)=false:=by simpa using z
    clear z o;go_wp2_with fail;have f:=ae (EL.out.dV c).fin;rename∀(a:Uz) (w:qL),OE _ OI _ a w->_=>h
    refine bY (w:=w) rfl rfl rfl rfl rfl f.out.net f.out.kn.one f.out.gV f.out.room f.out.nM ?_ _ (by kernel_rfl);intro O N I F C E;refine h _ I ?_;exact SQ (dU f.out E F C)
theorem PY(a:Option Addr)(len cap:Nat)(d:List Pl.RH)(rs:List Pl.Rt)(addr:Int)(w:qL)(h:jw w a len cap d)(T:ReadsAll w d rs):
  SN xx 137 #[.slice a len cap,.int .i64 addr] w fun e w'=>
   ∃g:Pl.RH,e= .returned (.tuple #[.agg #[.int .i64 g.p.1,.int .i64 g.p.2,.bool g.here,.int .i64 g.cost,.slice g.ha g.hl g.hc],.int .i64 (jZ rs addr)])/\Reads w' g (jY rs addr)/\xn w.heap.size w w':=by
 have HH:=ae h;have J:=ae T;have Jh:Eb (d.length=len):=ae h.1;have hc:=h.2.1;have hm:=h.2.2.1;unfold Iy at hm;clear h T;obtain⟨LC,Ji⟩:=ai (jZ rs addr);obtain⟨LR,CQ⟩:=ai (jY rs addr);rw [Ji.out,CQ.out];obtain⟨c,H⟩:=ai (gB rs);obtain⟨oa,S9⟩:=ai (decide (0<=addr/\addr<=255));have ar:Eb (∀W,SN xx 73 #[.int .i64 addr,.int .i64 0,.int .i64 255] W fun e w'=>e= .returned (.bool oa)/\w'=W):=ae fun W=>by
  have:=dZ addr 0 255 W;rwa [S9.out]at this
 by_cases z:c=0
 ·subst z
  cases oa
  ·have A:Eb (LC=2/\LR=Pl.Rt.none):=ae (by have:=zS H.out (of_decide_eq_false S9.out);rwa [Ji.out,CQ.out]at this);go_enter Tryz.func137,Tryz.ntmps137;go_wp2_with fail;refine(qJ _ _ _ d rs _ (HH.out.below ((oP _ _).alloc (oC _) _)) (J.out.below ((oP _ _).alloc (oC _) _))).mono ?_;rw [H.out];rintro e G ⟨rfl,r⟩;have u:Eb (xn (w.heap.size+1) (w.alloc (.cells #[.int .i64 0,.int .i64 0,.bool false,.int .i64 0,.slice none 0 0] 80)) G):=ae (by simpa using r);clear r;obtain⟨⟨F,E,D,C,B⟩,O,f⟩:=vJ u.out;have Y:=ae f;clear f;have R:∀o,G.frozen? ⟨w.heap.size,o,none⟩=false:=fun o=>o9 u.out o;go_wp2_with (go_at_call 73;refine(ar.out _).mono ?_;rintro e G ⟨rfl,rfl⟩)
   refine IA (v:= .tuple #[.agg #[.int .i64 0,.int .i64 0,.bool false,.int .i64 0,.slice none 0 0],.int .i64 2]) (by simp [results,Tryz.results137,go_sem,F,E,D,C,B]) rfl ⟨Pl.RH.none,by rw [A.out.1];rfl,by rw [A.out.2];exact Dj _,?_⟩;exact(((((Y.out.setCell (oC _) _).setCell (oC _) _).setCell (oC _) _).setCell (oC _) _).setCell (oC _) _)
  ·obtain⟨Q,X⟩:=of_decide_eq_true S9.out;have hg:=iD H.out;have aR:Eb (xN (Pl.hp d)):=ae (by unfold Pl.hp;rw [J.out.qA];exact hg.2.2);have a7:len<=2000000:=by have:=hg.1;rw [<-J.out.1,Jh.out]at this;omega
   have aE:Eb (∀i,Pl.lookN (Pl.hp d) addr 9=some i->LC=0/\LR=Pl.rt rs i):=ae fun i N=>by
    unfold Pl.hp at N;rw [J.out.qA]at N;have:=DJ H.out ⟨Q,X⟩ N;rwa [Ji.out,CQ.out]at this
   have aL:Eb (Pl.lookN (Pl.hp d) addr 9=none->LC=6/\LR=Pl.Rt.none):=ae fun N=>by
    unfold Pl.hp at N;rw [J.out.qA]at N;have:=DK H.out ⟨Q,X⟩ N;rwa [Ji.out,CQ.out]at this
   have Ti:Eb ((Pl.hp d).length=len):=ae (by rw [sK,Jh.out]);clear hg;go_enter Tryz.func137,Tryz.ntmps137;go_wp2_with fail;refine(qJ _ _ _ d rs _ (HH.out.below ((oP _ _).alloc (oC _) _)) (J.out.below ((oP _ _).alloc (oC _) _))).mono ?_;rw [H.out];rintro e G ⟨rfl,r⟩;have u:Eb (xn (w.heap.size+1) (w.alloc (.cells #[.int .i64 0,.int .i64 0,.bool false,.int .i64 0,.slice none 0 0] 80)) G):=ae (by simpa using r);clear r;go_wp2_with (go_at_call 73;refine(ar.out _).mono ?_;rintro e G ⟨rfl,rfl⟩);go_loopw [7] (fun i wr=>∃n:Nat,n<=9/\i= .int .i64 ((n:Int)-1)/\Eb (Pl.lookN (Pl.hp d) addr 9=Pl.lookN (Pl.hp d) addr n)/\Eb (xn (w.heap.size+1) (w.alloc (.cells #[.int .i64 0,.int .i64 0,.bool false,.int .i64 0,.slice none 0 0] 80)) wr)) (fun i _=>(Tq i+1).toNat)
   case atStart=>exact⟨9,oC _,rfl,ae rfl,u⟩
   case round=>
    obtain⟨n,hn,rfl,HN,HB⟩:=hrel;rcases Nat.eq_zero_or_pos n with M|M
    ·subst M;obtain⟨⟨F,E,D,C,B⟩,O,f⟩:=vJ HB.out;have Y:=ae f;clear f;have A:=ae (aL.out (by rw [HN.out];rfl));have R:∀o,wr.frozen? ⟨w.heap.size,o,none⟩=false:=fun o=>o9 HB.out o;go_wp2_with fail;refine IA (v:= .tuple #[.agg #[.int .i64 0,.int .i64 0,.bool false,.int .i64 0,.slice none 0 0],.int .i64 6]) (by simp [results,Tryz.results137,go_sem,F,E,D,C,B]) rfl ⟨Pl.RH.none,by rw [A.out.1];rfl,by rw [A.out.2];exact Dj _,?_⟩;exact(((((Y.out.setCell (oC _) _).setCell (oC _) _).setCell (oC _) _).setCell (oC _) _).setCell (oC _) _)
    ·obtain⟨m,rfl⟩:∃m,n=m+1:=⟨n-1,by omega⟩
     have e1:((m+1:Nat):Int)-1=(m:Int):=by omega
     rw [e1];clear e1 M;have bd:m<=8:=by omega
     obtain⟨sp,MZ⟩:=ai (Pl.span (m:Int));have S:=FN (b:=(m:Int)) (by omega);rw [MZ.out]at S;obtain⟨ba,a8⟩:=S;have av:Eb (∀W,SN xx 121 #[.int .i64 m] W fun e w'=>e= .returned (.int .i64 sp)/\xn W.heap.size W w'):=ae fun W=>by
      have:=zH (m:Int) W (by omega);rw [MZ.out]at this;exact this.mono fun e w' ⟨h1,h2⟩=>⟨h1,h2▸oP _ _⟩
     have Rk:addr.tmod sp=addr%sp:=Int.tmod_eq_emod_of_nonneg Q;have bb:(sp==0)=false:=by simp;omega
     have aw:=Int.emod_nonneg addr (show sp≠0 by omega);have ay:=Int.emod_lt_of_pos addr (show 0<sp by omega);obtain⟨I,an⟩:=ai (addr%sp);rw [an.out]at Rk aw ay;have aM:Eb (Be addr m=(addr-I,(m:Int))):=ae (by unfold Be;rw [MZ.out,an.out]);have ak:Eb (Pl.lookN (Pl.hp d) addr (m+1)=if bu (Pl.hp d) (addr-I,(m:Int))then some (Pl.posP (Pl.hp d) (addr-I,(m:Int)))else Pl.lookN (Pl.hp d) addr m):=ae (by rw [<-aM.out];rfl);go_wp2_with fail;go_loopw [8] (fun i wr=>∃j:Nat,j<=len/\i= .int .i64 j/\Eb (∀t,t<j->¬Pl.pr (Pl.hp d) t=(addr-I,(m:Int)))/\Eb (xn (w.heap.size+1) (w.alloc (.cells #[.int .i64 0,.int .i64 0,.bool false,.int .i64 0,.slice none 0 0] 80)) wr)) (fun i _=>len-(Tq i).toNat)
     case atStart=>exact⟨0,LM _,rfl,ae (by intro t ht;omega),HB⟩
     case round=>
      obtain⟨j,hj,rfl,HJ,K⟩:=hrel;by_cases y:j<len
      ·obtain⟨b,off,rfl,f,hr⟩:=HH.out.at y;obtain⟨⟨F,E,D,C,B⟩,O,P⟩:=vJ K.out;have XC:=ae P;have Xq:=P.size;obtain⟨c0,c1,c2,c3,c4⟩:=hr.below f P j (by rw [Jh.out];exact y);have rQ:=ae (J.out.2 j (by rw [Jh.out];exact y));have aq:Eb (Pl.pr (Pl.hp d) j=(Pl.rh d j).p):=ae (Yc d j (by rw [Jh.out];exact y));generalize Pl.rh d j=hh at*;obtain⟨⟨q1,q2⟩,here,cost,V,Za,U⟩:=hh;simp only at c0 c1 c2 c3 c4;have l:b<wr.heap.size:=by omega
       have a6:(j:Int)<(len:Int):=by omega
       obtain⟨e2,g2⟩:∃c,(q2==(m:Int))=c:=⟨_,rfl⟩
       obtain⟨e3,g3⟩:∃c,(q1==addr-I)=c:=⟨_,rfl⟩
       have R:∀o,wr.frozen? ⟨w.heap.size,o,none⟩=false:=fun o=>o9 K.out o;by_cases lQ:e2=true/\e3=true
       ·obtain⟨rfl,rfl⟩:=lQ;have s:Pl.pr (Pl.hp d) j=(addr-I,(m:Int)):=by
         rw [aq.out];simp at g2 g3;rw [g2,g3]
        have ad:=ae (Qr aR.out (by rw [Ti.out];exact y) s);have A:=ae (aE.out j (by rw [HN.out,ak.out,ad.out.2,ad.out.1];rfl));clear s;go_wp2_with fail;have i0:=aC l c0;have i1:=aC l c1;have L:=dO wr;refine aN (by kernel_rfl) (by kernel_rfl) ?_;repeat (go_big_quiet_step ((go_at_call 121;exact dP (av.out _))))
        refine wpQuiet_nil ?_;intro w5 x;have k:=eU x;clear x i0 i1 L;have Z:=ae (K.out.trans (k.mono (by have:=K.out.size;simpa using this)));have d0:=(k.cell (p:=⟨b,off+j*5,none⟩) l).trans c0;have d1:=(k.cell (p:=⟨b,off+j*5+1,none⟩) l).trans c1;have d2:=(k.cell (p:=⟨b,off+j*5+2,none⟩) l).trans c2;have d3:=(k.cell (p:=⟨b,off+j*5+3,none⟩) l).trans c3;have d4:=(k.cell (p:=⟨b,off+j*5+4,none⟩) l).trans c4;have aa:=ae (XC.out.trans (k.mono Xq));clear k c0 c1 c2 c3 c4 F E D C B R;obtain⟨⟨F,E,D,C,B⟩,bj,_⟩:=vJ Z.out;have R:∀o,w5.frozen? ⟨w.heap.size,o,none⟩=false:=fun o=>o9 Z.out o;go_wp2_with fail
        refine IA (v:= .tuple #[.agg #[.int .i64 q1,.int .i64 q2,.bool here,.int .i64 cost,.slice V Za U],.int .i64 0]) (by simp [results,Tryz.results137,go_sem,F,E,D,C,B]) rfl ⟨⟨(q1,q2),here,cost,V,Za,U⟩,by rw [A.out.1],?_,?_⟩
        ·rw [A.out.2];refine rQ.out.below ?_;exact(((((aa.out.setCell (oC _) _).setCell (oC _) _).setCell (oC _) _).setCell (oC _) _).setCell (oC _) _)
        ·exact(((((aa.out.setCell (oC _) _).setCell (oC _) _).setCell (oC _) _).setCell (oC _) _).setCell (oC _) _)
       ·have Xw:Eb (¬Pl.pr (Pl.hp d) j=(addr-I,(m:Int))):=ae fun s=>by
         apply lQ;rw [aq.out]at s;simp only [Prod.mk.injEq]at s;rw [<-g2,<-g3];simp [s.1,s.2]
        cases e2
        all_goals cases e3
        all_goals first|(exact absurd ⟨rfl,rfl⟩ lQ)|skip
        all_goals
         clear lQ;go_wp2_with fail;have i0:=aC l c0;have i1:=aC l c1;have L:=dO wr;refine aN (by kernel_rfl) (by kernel_rfl) ?_;repeat (go_big_quiet_step ((go_at_call 121;exact dP (av.out _))))
         refine wpQuiet_nil ?_;intro w5 x;have k:=eU x;clear x i0 i1 L;go_wp2_with fail;go_roundw
         case rel=>exact⟨j+1,by omega,by go_num,ae fun t ht=>by rcases OO t j with q|q;exact HJ.out t q;obtain rfl:t=j:=(by omega);exact Xw.out,ae (K.out.trans (k.mono (by have:=K.out.size;simpa using this)))⟩
         case measure=>simp [Tq];omega
      ·have aD:Eb (bu (Pl.hp d) (addr-I,(m:Int))=false):=ae (by
        rw [Bool.eq_false_iff];intro ht;have h1:=jQ ht;rw [Ti.out]at h1;exact HJ.out _ (by omega) (xO ht))
       have bc:¬((j:Int)<(len:Int)):=by omega
       go_wp2_with fail;go_roundw
       case rel=>exact⟨m,by omega,by go_num,ae (by rw [HN.out,ak.out,aD.out];rfl),K⟩
       case measure=>simp [Tq]
 ·have A:Eb (LC=c/\LR=Pl.Rt.none):=ae (by have:=Om (addr:=addr) (by rw [H.out];exact z:¬gB rs=0);rwa [Ji.out,CQ.out,H.out]at this);have bh:(c==0)=false:=by simpa using z
  have bg:(c != 0)=true:=by simpa using z
  clear z;go_enter Tryz.func137,Tryz.ntmps137;go_wp2_with fail;refine(qJ _ _ _ d rs _ (HH.out.below ((oP _ _).alloc (oC _) _)) (J.out.below ((oP _ _).alloc (oC _) _))).mono ?_;rw [H.out];rintro e G ⟨rfl,r⟩;have u:Eb (xn (w.heap.size+1) (w.alloc (.cells #[.int .i64 0,.int .i64 0,.bool false,.int .i64 0,.slice none 0 0] 80)) G):=ae (by simpa using r);clear r;obtain⟨⟨F,E,D,C,B⟩,O,f⟩:=vJ u.out;have Y:=ae f;clear f;have R:∀o,G.frozen? ⟨w.heap.size,o,none⟩=false:=fun o=>o9 u.out o;go_wp2_with fail;refine IA (v:= .tuple #[.agg #[.int .i64 0,.int .i64 0,.bool false,.int .i64 0,.slice none 0 0],.int .i64 c]) (by simp [results,Tryz.results137,go_sem,F,E,D,C,B]) rfl ⟨Pl.RH.none,by rw [A.out.1];rfl,by rw [A.out.2];exact Dj _,?_⟩
  exact(((((Y.out.setCell (oC _) _).setCell (oC _) _).setCell (oC _) _).setCell (oC _) _).setCell (oC _) _)
theorem SB(s:Pl.Nt)(P K T:Nat->xh)(a:Nat)(n m:Int)(w:qL)(hK:Kn w s P K T)(hg:fZ s)(ha:a<12)(hm:m<=9223372036854775807)(R:Int×List Int×Int)(hR:(if m<0 then(2,[],0)else Pl.walkK s n m 13 a [(a:Int)] 0)=R):
  SN xx 86 #[.agg (ax s.D P K T s.L).toArray,.int .i64 (a:Int),.int .i64 n,.int .i64 m] w fun e w'=>
   ∃vp,e= .returned (.tuple #[vp,.int .i64 R.2.2,.int .i64 R.1])/\dI w' w.heap.size vp R.2.1/\xn w.heap.size w w':=by
 have HK:=ae hK;have HG:=ae hg;have C:Eb (R=if m<0 then(2,[],0)else Pl.walkK s n m 13 a [(a:Int)] 0):=ae hR.symm;obtain⟨B,l⟩:=aV (w.alloc (.cells (ax s.D P K T s.L).toArray 34));have bd:Eb (bV B w.heap.size s.D P K T s.L):=ae (by rw [l.out];exact bV.new w _ _ _ _ _);have ay:Eb (xn w.heap.size w B):=ae (by rw [l.out];exact(oP _ _).alloc (oC _) _);have S:B.heap.size=w.heap.size+1:=by rw [l.out];simp
 have pF:Eb (∀(W3:qL) (cd:Int),xn w.heap.size w W3->R=(cd,[],0)->∃vp,Ending.returned (.tuple #[.slice none 0 0,.int .i64 0,.int .i64 cd])= .returned (.tuple #[vp,.int .i64 R.2.2,.int .i64 R.1])/\dI W3 w.heap.size vp R.2.1/\xn w.heap.size w W3):=ae fun W3 cd hb e=>
  ⟨_,by rw [e],by rw [e];exact dI.nil _ _,hb⟩
 clear hK hg hR;by_cases g:m<0
 ·have aL:decide (m<0)=true:=by simpa using g
  rw [af g]at C;clear g;go_enter Tryz.func86,Tryz.ntmps86;go_wp2_with fail;go_ret3;exact pF.out _ 2 (by rw [<-l.out];exact ay.out) C.out
 ·have aL:decide (m<0)=false:=by simpa using g
  rw [ag g]at C;have bh:=ae g;clear g;obtain⟨W2,z⟩:=aV (B.alloc (.cells #[.int .i64 (a:Int)] 3));have bk:Eb (xn (w.heap.size+1) B W2):=ae (by rw [z.out];exact(oP _ _).alloc (by omega) _);have yR:Eb (dI W2 (w.heap.size+1) (.slice (some ⟨w.heap.size+1,0,none⟩) 1 1) [(a:Int)]):=ae (N8 (oC _) (by rw [z.out,<-S];exact bW _ _));go_enter Tryz.func86,Tryz.ntmps86;go_wp2_with fail;go_loopw [1,11,12] (fun va vp vc wr=>∃(k f:Nat) (v:xh) (ps:List Int) (c:Int),v=vp/\va= .int .i64 f/\vc= .int .i64 c/\f<12/\k<=12/\Eb (ps.length+k=13)/\Eb (0<=c/\c<=1000*(12-(k:Int)))/\Eb (Pl.walkK s n m 13 a [(a:Int)] 0=Pl.walkK s n m (k+1) f ps c)/\Eb (dI wr (w.heap.size+1) v ps)/\Eb (xn (w.heap.size+1) B wr)) (fun _ vp _ _=>13-acB vp)
  case atStart=>exact⟨12,a,_,[(a:Int)],0,rfl,rfl,rfl,ha,by omega,ae rfl,ae (by omega),ae rfl,ae (by rw [<-l.out,<-z.out];exact yR.out),ae (by rw [<-l.out,<-z.out];exact bk.out)⟩
  case round=>
   obtain⟨k,f,v,ps,c,hv,rfl,rfl,hf,hk,iO,Kz,WX,HO,vV⟩:=hrel;subst hv;have bo:=vV.out.size;have eH:Eb (xn w.heap.size w wr):=ae (ay.out.trans (vV.out.mono (by omega)));have Jg:Eb (bV wr w.heap.size s.D P K T s.L):=ae (aj.below bd.out (by rw [S];exact vV.out));have bj:=ae (HK.out.below eH.out);obtain⟨hs,F⟩:=bj.out.2.2 f hf;obtain⟨ta,tc,ad,E,_⟩:=F.1.rows;have G:=Jg.out.table f hf;rw [ad]at G;have lF:Eb (∀j,j<12->wr.cell? ⟨w.heap.size,f*16+4+j,none⟩=some (.int .i64 (s.L f j))):=ae fun j hj=>Jg.out.line f j hf hj;have aR:=Jg.out.lt;have bq:(f:Int)<12:=by omega
   obtain⟨lt,pq⟩:=ai (hs.length);rw [pq.out]at E G;have av:=ae (fun e=>JQ (HG.out.T f) (x:=n) e);have aw:=ae (PY ta lt tc hs (s.T f) n wr E F.reads);obtain⟨lc,Ji⟩:=ai (jZ (s.T f) n);obtain⟨r,CQ⟩:=ai (jY (s.T f) n);have h:Eb (Pl.walkK s n m (k+1) f ps c=if lc=0 then(if r.here=true then(0,ps,c)else if k=0 then(10,[],0)else if s.L f (nT r m)=0 then(6,[],0)else Pl.walkK s n m k (nT r m) (ps++ [(nT r m:Int)]) (c+s.L f (nT r m)))else(lc,[],0)):=ae (by rw [<-Ji.out,<-CQ.out];rfl);rw [Ji.out,CQ.out]at av aw;obtain⟨pa,pc,rfl⟩:=az HO.out;obtain⟨Q,vT⟩:=ai (ps.length);rw [vT.out]at HO iO⊢;clear F ad E;go_wp2_with fail;refine aw.out.mono ?_;rintro e w5 ⟨⟨⟨aa,Z⟩,aq,an,ga,I,gc⟩,rfl,aD,H⟩;obtain⟨g1,g2,g3,g4,g5⟩:=aD;simp only at g2 g4
   obtain⟨y,M⟩:=aV (w5.alloc (.cells #[.int .i64 aa,.int .i64 Z,.bool aq,.int .i64 an,.slice ga I gc] 80));have ak:Eb (xn w5.heap.size w5 y):=ae (by rw [M.out];exact(oP _ _).alloc (oC _) _);have Y:y.heap[w5.heap.size]? =some (.cells #[.int .i64 aa,.int .i64 Z,.bool aq,.int .i64 an,.slice ga I gc] 80):=by rw [M.out];exact bW _ _
   have O:Eb (xn wr.heap.size wr y):=ae (H.trans (ak.out.mono H.size));have t:Eb (xn w.heap.size w y):=ae (eH.out.trans (O.out.mono eH.out.size));have a6:Eb (xn (w.heap.size+1) B y):=ae (vV.out.trans (O.out.mono (by omega)));have CO:=ae (HO.out.below O.out);have J:=ae (g4.below ak.out);obtain⟨⟨z0,z1,z2,z3,z4⟩,zf,zl⟩:=ZG Y;have E8:=O.out.size;have JX:w.heap.size<y.heap.size:=by omega
   clear g1 g3 g4 g5 H G Y z0 z1 z3;by_cases u:lc=0
   ·subst u;rw [af rfl]at h;have Jf:=ae (av.out rfl)
    cases hh:r.here with
    |true=>
     rw [hh,af rfl]at h;rw [hh]at g2;subst g2;have d:Eb (R=(0,ps,c)):=ae (by rw [C.out,WX.out,h.out]);go_wp2_with fail;go_ret3;rw [<-M.out];exact⟨_,by rw [d.out];rfl,by rw [d.out];exact dI.mono CO.out (Nat.le_succ _),t.out⟩
    |false=>
     rw [hh,ag Bool.false_ne_true]at h;rw [hh]at g2;subst g2;by_cases o:k=0
     ·rw [af o]at h;have d:Eb (R=(10,[],0)):=ae (by rw [C.out,WX.out,h.out]);have hq:(12:Int)<(Q:Int):=by have:=iO.out;omega
      clear o;go_wp2_with fail;go_ret3;exact pF.out _ 10 (by rw [<-M.out];exact t.out) d.out
     ·rw [ag o]at h;have hq:¬(12:Int)<(Q:Int):=by have:=iO.out;omega
      obtain⟨q1,q2,q3,q4,q5⟩:=FX Jf.out hh m;obtain⟨b,Xg⟩:=ai (nT r m);obtain⟨ix,Ql⟩:=ai (m.toNat%r.aH.length);have A:Eb (r.aH.length=I):=ae J.out.1;rw [Xg.out,Ql.out]at q4;rw [Xg.out]at q3;rw [Ql.out,A.out]at q5;rw [A.out]at q1 q2;rw [Xg.out]at h;obtain⟨bg,og,rfl,br,U⟩:=J.out.at q5;have cg:=U ix (by rw [A.out];exact q5);rw [q4]at cg;have Rk:m.tmod (I:Int)=(ix:Int):=by
       have e:m=(m.toNat:Int):=by have:=bh.out;omega
       rw [e,<-Ql.out,A.out];exact(Int.ofNat_tmod m.toNat I).symm
      have aE:((I:Int)==0)=false:=by simp;omega
      have aM:(ix:Int)<(I:Int):=by omega
      have bt:=J.out.2.1;have V:=(O.out.cell (p:=⟨w.heap.size,f*16+4+b,none⟩) aR).trans (lF.out b q3);have CG:=ae o;clear U o;go_wp2_with fail;rw [<-M.out];go_quiet (fail);obtain⟨W7,ar⟩:=aV (y.drewN nq);rw [<-ar.out];have q:Eb (xn y.heap.size y W7):=ae (by rw [ar.out];exact aO (oP _ _) _);have bb:=(q.out.cell (p:=⟨w.heap.size,f*16+4+b,none⟩) JX).trans V;have ba:Eb (xn w.heap.size w W7):=ae (t.out.trans (q.out.mono t.out.size));have a8:Eb (xn (w.heap.size+1) B W7):=ae (a6.out.trans (q.out.mono (by omega)));have rV:=ae (CO.out.below q.out);have vP:=ae (HG.out.L f b);obtain⟨N,bc⟩:=ai (s.L f b);rw [bc.out]at h bb vP;have bw:(b:Int)<12:=by omega
      have bl:=q.out.size;have bs:w.heap.size<W7.heap.size:=by omega
      clear V cg z2 z4 zf Rk aE aM;by_cases i:N=0
      ·rw [af i]at h;have d:Eb (R=(6,[],0)):=ae (by rw [C.out,WX.out,h.out]);have W:(N==0)=true:=by simpa using i
       clear i;go_wp2_with fail;go_ret3;exact pF.out _ 6 ba.out d.out
      ·rw [ag i]at h;have W:(N==0)=false:=by simpa using i
       obtain⟨k,rfl⟩:∃j,k=j+1:=⟨k-1,by have:=CG.out;omega⟩
       have bm:IntKind.i64.wrap (c+N)=c+N:=by rw [IntKind.wrap_i64];have:=Kz.out;have:=vP.out;omega
       have bp:Q<=12:=by omega
       clear i hq;go_wp2_with (at_builtin;refine nX Tryz.underlying37 rfl (.tmp 63) (.tmp 65) rfl (w.heap.size+1) (.slice pa Q pc) ps (b:Int) rfl rV.out (by omega) rfl (by have:=vT.out;omega) ?_;intro v7 w7 kK X;obtain⟨a7,c7,rfl⟩:=kK.slice;have PT:=ae kK;have Xi:=ae X;obtain⟨n7,CP⟩:=ai ((ps++ [(b:Int)]).length);rw [CP.out]at PT⊢;clear kK X);go_roundw
       case rel=>
        refine⟨k,b,_,ps++ [(b:Int)],c+N,rfl,rfl,rfl,by omega,by omega,ae ?_,ae ?_,ae ?_,PT,ae ?_⟩
        ·have h1:=iO.out;have h2:=vT.out;simp;omega
        ·have h1:=Kz.out;have h2:=vP.out;push_cast at h1;omega
        ·rw [WX.out,h.out]
        ·exact a8.out.trans Xi.out
       case measure=>
        have h1:=CP.out;have h2:=vT.out;simp at h1;show 13-n7<13-Q;omega
   ·rw [ag u]at h;have W:(lc != 0)=true:=by simpa using u
    have d:Eb (R=(lc,[],0)):=ae (by rw [C.out,WX.out,h.out]);clear u g2;go_wp2_with fail;go_ret3;exact pF.out _ lc (by rw [<-M.out];exact t.out) d.out
theorem Si(s:Pl.Nt)(P K T:Nat->xh)(x:Pl.Ac)(w:qL)(hK:Kn w s P K T)(X:x.kind=10)(ha:0<=x.a/\x.a<=11)(R:Int×List Int×Int)(Y:fZ s)(g:x.m<=9223372036854775807)(J:(if x.m<0 then(2,[],0)else Pl.walkK s x.n x.m 13 x.a.toNat [x.a] 0)=R):
  SN xx 47 #[.agg (ax s.D P K T s.L).toArray,.agg x.cells] w (Ap w R.1 R.2.1 R.2.2 [] s):=by
 obtain⟨j,v⟩:=aV (_);obtain⟨u,W⟩:=IC.new (w:=w) (s:=s) (P:=P) (K:=K) (T:=T) (x:=x) v.out;obtain⟨kind,U,b,n,m,⟨p1,p2⟩,key,val⟩:=x;simp only at X ha g J⊢;subst X;obtain⟨a,rfl⟩:∃k:Nat,U=k:=⟨U.toNat,by omega⟩
 have t:a<12:=by omega
 have ar:(a:Int)<12:=by omega
 have ad:=ae W;have aa:w.heap.size<j.heap.size:=by omega
 have aq:w.heap.size+1<j.heap.size:=by omega
 have ak:w.heap.size+1+1+1+1<j.heap.size:=by omega
 obtain⟨m0,m1,m2,m3,m4,m5,m6,m7,m8⟩:=u.nine;have iO:=ae (u.net.place a t);obtain⟨Z,V⟩:=aV ((j.alloc (.cells #[.slice none 0 0,.bool false,.slice none 0 0,.slice none 0 0,.int .i64 0,.int .i64 0,.int .i64 0,.int .i64 0,.int .i64 0,.int .i64 0,.int .i64 0,.int .i64 0,.int .i64 0,.int .i64 0,.int .i64 0,.int .i64 0] 33)).setCells j.heap.size 0 (bP (s.D a) (P a) (K a) (T a) (s.L a)));obtain⟨i,p,E8,h⟩:=sH u rfl V.out;rw [<-aP (s.D a) (P a) (K a) (T a) (s.L a)]at h;have yJ:=ae h;have d:=ae (St.of i hK);have Ec:=ae p;have nI:=ae (zk (D:=s.D a) (L:=s.L a) (hK.XP a t) (hK.XQ a t) (hK.XO a t));obtain⟨I,H,G,F,E,C,B,A,z⟩:=i.nine;have JX:=d.out.net.lt;have q:=d.out.net.soft;obtain⟨⟨z0,S,z2,z3⟩,Q,O⟩:=aS d.out.gV;have an:w.heap.size+1<Z.heap.size:=by omega
 simp only at m0 m1 m2 m3 m4 m5 m6 m7 m8 I H G F E C B A z;unfold Pl.Ac.cells at v⊢;simp only at v⊢;clear W u i p h;have HR:=ae J;have WX:=ae (SB s P K T a n m Z d.out.kn Y t g R HR.out);have N:=ae d.out.net.all;clear J Y g;go_enter Tryz.func47,Tryz.ntmps47;go_wp2_with fail;rw [<-show j=_ from v.out];refine(kW _ 1 10 _ (by omega)).mono ?_;rintro e w' ⟨rfl,f⟩;rw [f];clear f w';go_wp2_with (first
  |(go_at_call 74;refine(dK _ _).mono ?_;rw [zx ha];rintro e w' ⟨rfl,f⟩;rw [f];clear f w')
  |refine Pe rfl 33 (.tmp 51) rfl w.heap.size (a*16) rfl (bP (s.D a) (P a) (K a) (T a) (s.L a)) _ iO.out Xc rfl (by rw [aP];exact gq) ?_
  |refine aX rfl 33 (.tmp 7) (.tmp 52) rfl j.heap.size 0 (bP (s.D a) (P a) (K a) (T a) (s.L a)) rfl rfl yJ.out (by rw [aP];exact gq) nI.out V.out ?_
  |refine Pe rfl 34 (.tmp 2) rfl w.heap.size 0 rfl (ax s.D P K T s.L) _ N.out GM rfl (by rw [bH];exact fD) ?_)
 refine WX.out.mono ?_;rintro e W7 ⟨v7,rfl,y,r⟩;obtain⟨c,path,co⟩:=R;obtain⟨a7,c7,rfl⟩:=az y;obtain⟨n7,CP⟩:=ai (path.length);have rV:Eb (dI W7 0 (.slice a7 n7 c7) path):=ae (by
  have:=dI.mono y (LM _);rw [CP.out]at this;exact this)
 rw [CP.out];have o:=ae (d.out.below r);clear r y JX;clear I H G F E C B A z z0 S z2 z3 Q O q;obtain⟨I,H,G,F,E,C,B,A,z⟩:=kz o.out.act;obtain⟨⟨z0,S,z2,z3⟩,Q,O⟩:=aS o.out.gV;have av:=o.out.net.lt;have q:=o.out.net.soft;go_wp2_with fail;have HX:=ae (((o.out.setPath rV.out).xU co).dV c);have l:=ae HX.out.fin;rename_i K1 M;refine bY (w:=w) rfl rfl rfl rfl rfl l.out.net l.out.kn.one l.out.gV l.out.room l.out.nM ?_ _ (by kernel_rfl);intro y0 y1 W' hR hq hb;refine M _ W' ?_;exact SQ (dU l.out hb hR hq)
theorem Sr(s:Pl.Nt)(P K T:Nat->xh)(x:Pl.Ac)(w:qL)(hK:Kn w s P K T)(o:1<=x.kind/\x.kind<=10)(ha:¬(0<=x.a/\x.a<=11)):
  SN xx 47 #[.agg (ax s.D P K T s.L).toArray,.agg x.cells] w (Ap w 2 [] 0 [] s):=by
 obtain⟨l,i⟩:=aV (_);obtain⟨h,G⟩:=IC.new (w:=w) (s:=s) (P:=P) (K:=K) (T:=T) (x:=x) i.out;obtain⟨m0,m1,m2,m3,m4,m5,m6,m7,m8⟩:=h.nine;obtain⟨⟨z0,C,z2,z3⟩,A,z⟩:=aS h.gV;have p:=ae h;have y:=ae hK;have f:decide (1<=x.kind/\x.kind<=10)=true:=zx o;have g:decide (0<=x.a/\x.a<=11)=false:=Fb ha;clear hK o ha h;obtain⟨kind,a,b,n,m,⟨p1,p2⟩,key,val⟩:=x;simp only at m0 m1 m2 m3 m4 m5 m6 m7 m8 f g;unfold Pl.Ac.cells at i⊢;simp only at i⊢;go_enter Tryz.func47,Tryz.ntmps47;go_wp2_with fail;rw [<-show l=_ from i.out];refine(dZ kind 1 10 _).mono ?_;rw [f];rintro e w' ⟨rfl,c⟩;rw [c];clear c w';go_wp2_with (go_at_call 74;refine(dK _ _).mono ?_;rw [g];rintro e w' ⟨rfl,c⟩;rw [c];clear c w');rename∀(a:Uz) (w:qL),OE _ OI _ a w->_=>j
 have k:aI (w.heap.size+1+1+1+1) l (l.setCell ⟨w.heap.size+1+1+1+1,0,none⟩ (.int .i64 2)):=(aI.refl _ _).setCell _ _;have d:=ae (Tv.no p.out y.out k (Ia p.out.gV _));refine ZP (B:=w.heap.size) (O:=w.heap.size+1+1+1+1) (R:=w.heap.size+1+1) (q:=w.heap.size+1+1+1) rfl rfl rfl rfl rfl (by omega) (by omega) (by omega) (by omega) (by omega) d.out.net d.out.kn.one d.out.gV d.out.room d.out.nM ?_ _ (by kernel_rfl);intro F E v u r t;refine j _ v ?_;exact SQ (dU d.out t u r)
theorem Qb(s:Pl.Nt)(P K T:Nat->xh)(x:Pl.Ac)(w:qL)(hK:Kn w s P K T)(c:fZ s)(d:Jn x):
  SN xx 47 #[.agg (ax s.D P K T s.L).toArray,.agg x.cells] w (Ap w (oJ s x).code (oJ s x).path (oJ s x).cost (oJ s x).keys (mg s x)):=by
 by_cases b:1<=x.kind/\x.kind<=10
 ·by_cases ha:0<=x.a/\x.a<=11
  ·have h:x.kind=1\/x.kind=2\/x.kind=3\/x.kind=4\/x.kind=5\/x.kind=6\/x.kind=7\/x.kind=8\/x.kind=9\/x.kind=10:=by omega
   obtain⟨g1,g2,g3⟩:=pO (c.P x.a.toNat);have e:∀p∈s.P x.a.toNat,dJ p:=fun p hp=>gp (by have:=gm (g2 p hp);omega);have f:oJ s x=if x.kind=1 then Pl.Rp.no (rE x)else if x.kind=2 then Pl.Rp.no (rJ s.L x)else if x.kind=3 then Pl.Rp.no (oG x)else if x.kind=4 then Pl.Rp.no (zt s x)else if x.kind=5 then Pl.Rp.no (Eh s x)else if x.kind=6 then⟨(Pl.putsS (s.K x.a.toNat) x.a.toNat (kX s x.a.toNat) 2).1,[],0,nR s x.a.toNat (kX s x.a.toNat)⟩else if x.kind=7 then⟨tC s x,[],0,tu s x⟩else if x.kind=8 then⟨vX s x,[],0,rW s x⟩else if x.kind=9 then Pl.Rp.no 0 else⟨(qc s x).1,(qc s x).2.1,(qc s x).2.2,[]⟩:=by
    unfold oJ;rw [ag (by simpa using b),ag (by simpa using ha)]
   have g:mg s x=if x.kind=1 then{s with L:=tX s.L x}else if x.kind=2 then{s with L:=uo s.L x}else if x.kind=3 then{s with D:=sQ s.D x}else if x.kind=4 then Ez s x else if x.kind=5 then Pl.takeN s x else if x.kind=6 then tJ s x.a.toNat (kX s x.a.toNat)else if x.kind=7 then qZ s x else if x.kind=8 then pY s x else if x.kind=9 then{s with T:=cZ s.T x.a.toNat (wz (s.K x.a.toNat) x.a.toNat)}else s:=by
    unfold mg;rw [ag (by simpa using b),ag (by simpa using ha)]
   rw [f,g];rcases h with k|k|k|k|k|k|k|k|k|k
   ·rw [af k,af k];exact Su s P K T x w hK k ha _ _ rfl rfl
   ·rw [ag (by omega),af k,ag (by omega),af k];exact WI s P K T x w hK k ha _ _ rfl rfl
   ·iterate 2 rw [ag (by omega),ag (by omega),af k]
    exact Px s P K T x w hK k ha _ _ rfl rfl
   ·iterate 2 rw [ag (by omega),ag (by omega),ag (by omega),af k]
    exact Sz s P K T x w hK k ha _ _ e (by omega) d.p rfl rfl
   ·iterate 2 rw [ag (by omega),ag (by omega),ag (by omega),ag (by omega),af k]
    exact Sl s P K T x w hK k ha _ _ e (by omega) g3 rfl rfl
   ·iterate 2 rw [ag (by omega),ag (by omega),ag (by omega),ag (by omega),ag (by omega),af k]
    exact Sj s P K T x w hK k ha _ _ _ c rfl rfl rfl
   ·iterate 2 rw [ag (by omega),ag (by omega),ag (by omega),ag (by omega),ag (by omega),ag (by omega),af k]
    exact Sm s P K T x w hK k ha _ _ _ (fun i _=>c.K i) d.n rfl rfl rfl
   ·iterate 2 rw [ag (by omega),ag (by omega),ag (by omega),ag (by omega),ag (by omega),ag (by omega),ag (by omega),af k]
    exact Pv s P K T x w hK k ha _ _ _ (c.K _) d.key d.val rfl rfl rfl
   ·iterate 2 rw [ag (by omega),ag (by omega),ag (by omega),ag (by omega),ag (by omega),ag (by omega),ag (by omega),ag (by omega),af k]
    exact Me s P K T x w hK k ha _ (c.K _) rfl
   ·iterate 2 rw [ag (by omega),ag (by omega),ag (by omega),ag (by omega),ag (by omega),ag (by omega),ag (by omega),ag (by omega),ag (by omega)]
    exact Si s P K T x w hK k ha (qc s x) c d.m rfl
  ·have f:oJ s x=Pl.Rp.no 2:=by unfold oJ;rw [ag (by simpa using b),af (by simpa using ha)]
   have g:mg s x=s:=by unfold mg;rw [ag (by simpa using b),af (by simpa using ha)]
   rw [f,g];exact Sr s P K T x w hK b ha
 ·have f:oJ s x=Pl.Rp.no 3:=by unfold oJ;rw [af (by simpa using b)]
  have g:mg s x=s:=by unfold mg;rw [af (by simpa using b)]
  rw [f,g];exact Sv s P K T x w hK b
structure Tu(a0:Uz)(m:Nat)(dst:Nat->Option Nat)(V:Nat->xh->qL->Prop)(C:Array Bool->Uz->qL->Prop)(listed:Array Bool)(a:Uz)(w:qL):Prop where
 base:pI a0 m dst V (fun _ _=>True) listed a w
 cw:C listed a w
section
variable {a0 a : Uz} {m i t : Nat} {dst : Nat -> Option Nat} {V : Nat -> xh -> qL -> Prop} {C : Array Bool -> Uz -> qL -> Prop} {listed : Array Bool} {w w' : qL} {v : xh}
theorem Tu.put(h:Tu a0 m dst V C listed a w)(f:i<m)(g:dst i=some t)(e:∀k,dst k=some t->k=i)(d:t<a0.tmps.size)(c:V i v w')(b:∀k,listed.getD k false=true->∀u,V k u w->V k u w')(hc:C (listed.setIfInBounds i true) (a.put (some t) v) w'):Tu a0 m dst V C (listed.setIfInBounds i true) (a.put (some t) v) w':=⟨h.base.put f g e d c b trivial,hc⟩
theorem Tu.skip(h:Tu a0 m dst V C listed a w)(c:dst i=none)(b:∀k,listed.getD k false=true->∀u,V k u w->V k u w')(hc:C (listed.setIfInBounds i true) a w'):Tu a0 m dst V C (listed.setIfInBounds i true) a w':=⟨h.base.skip c b trivial,hc⟩
end
def Iq(sn:Pl.Nt)(u:xh)(W:qL):Prop:=∃P K T,u= .agg (ax sn.D P K T sn.L).toArray/\Kn W sn P K T
def Io(r:Pl.Rp)(u:xh)(W:qL):Prop:=∃vp vk,u= .agg #[.int .i64 r.code,vp,.int .i64 r.cost,vk]/\dI W 0 vp r.path/\bF W 0 vk r.keys
def ES(sn:Pl.Nt)(r:Pl.Rp)(u:xh)(W:qL):Prop:=∃x y,u= .tuple #[x,y]/\Iq sn x W/\Io r y W
def P9(n:Nat)(u:xh)(W:qL):Prop:=∃g,u= .pointer (some ⟨g,0,none⟩)/\n<=g/\∃h,aj W g 34 192 h
def P8(n:Nat)(u:xh)(W:qL):Prop:=∃g,u= .pointer (some ⟨g,0,none⟩)/\n<=g/\∃d0 d1 d2 d3,W.heap[g]? =some (.cells #[d0,d1,d2,d3] 40)
section
variable {W W' : qL} {sn : Pl.Nt} {r : Pl.Rp} {n : Nat} {u : xh}
theorem Iq.below(h:Iq sn u W)(k:xn W.heap.size W W'):Iq sn u W':=by
 obtain⟨P,K,T,e,q⟩:=h;exact⟨P,K,T,e,q.below k⟩
theorem Io.below(h:Io r u W)(k:xn W.heap.size W W'):Io r u W':=by
 obtain⟨vp,vk,e,b,a⟩:=h;exact⟨vp,vk,e,b.below k,bF.below a k⟩
theorem ES.below(h:ES sn r u W)(k:xn W.heap.size W W'):ES sn r u W':=by
 obtain⟨x,y,e,b,a⟩:=h;exact⟨x,y,e,b.below k,a.below k⟩
theorem P9.below(h:P9 n u W)(k:xn W.heap.size W W'):P9 n u W':=by
 obtain⟨g,e,b,q,a⟩:=h;exact⟨g,e,b,q,a.below k⟩
theorem P8.below(h:P8 n u W)(k:xn W.heap.size W W'):P8 n u W':=by
 obtain⟨g,e,b,d0,d1,d2,d3,a⟩:=h;exact⟨g,e,b,d0,d1,d2,d3,(k.block _ (aG a)).trans a⟩
theorem Iq.no{R:Nat}(h:Iq sn u W)(k:aI R W W')(a:iG W R):Iq sn u W':=by
 obtain⟨P,K,T,e,q⟩:=h;exact⟨P,K,T,e,q.no k a⟩
theorem Io.no{R:Nat}(h:Io r u W)(k:aI R W W')(a:iG W R):Io r u W':=by
 obtain⟨vp,vk,e,c,b⟩:=h;exact⟨vp,vk,e,bC c k a (by decide),bC b k a (by decide)⟩
theorem ES.no{R:Nat}(h:ES sn r u W)(k:aI R W W')(a:iG W R):ES sn r u W':=by
 obtain⟨x,y,e,c,b⟩:=h;exact⟨x,y,e,c.no k a,b.no k a⟩
end
def V5(sn:Pl.Nt)(r:Pl.Rp)(n:Nat)(E:List xh)(k:Nat)(u:xh)(W:qL):Prop:=
 if k=5\/k=6 then ES sn r u W else if k=7 then Iq sn u W else if k=8 then Io r u W else if k=9 then P9 n u W else if k=10 then P8 n u W else u=E.getD k qh
theorem V5.step{sn:Pl.Nt}{r:Pl.Rp}{n:Nat}{E:List xh}{W W':qL}(f:∀u,ES sn r u W->ES sn r u W')(d:∀u,Iq sn u W->Iq sn u W')(c:∀u,Io r u W->Io r u W')(b:∀u,P9 n u W->P9 n u W')(a:∀u,P8 n u W->P8 n u W'){l:Array Bool}:∀k,l.getD k false=true->∀u,V5 sn r n E k u W->V5 sn r n E k u W':=by
 intro k _ u h;unfold V5 at*;split at h
 ·rename_i e;rw [af e];exact f u h
 ·rename_i e;rw [ag e];split at h
  ·rename_i e;rw [af e];exact d u h
  ·rename_i e;rw [ag e];split at h
   ·rename_i e;rw [af e];exact c u h
   ·rename_i e;rw [ag e];split at h
    ·rename_i e;rw [af e];exact b u h
    ·rename_i e;rw [ag e];split at h
     ·rename_i e;rw [af e];exact a u h
     ·rename_i e;rw [ag e];exact h
theorem V5.grow{sn:Pl.Nt}{r:Pl.Rp}{n:Nat}{E:List xh}{W W':qL}(k:xn W.heap.size W W'){l:Array Bool}:∀i,l.getD i false=true->∀u,V5 sn r n E i u W->V5 sn r n E i u W':=V5.step (fun _ h=>h.below k) (fun _ h=>h.below k) (fun _ h=>h.below k) (fun _ h=>h.below k) (fun _ h=>h.below k)
def ZW(w0:qL)(sn:Pl.Nt)(r:Pl.Rp)(l:Array Bool)(a:Uz)(W:qL):Prop:=
 xn w0.heap.size w0 W/\
  (l.getD 11 false=true->∃g P K T,a.tmps[8]?.getD qh= .pointer (some ⟨g,0,none⟩)/\w0.heap.size<=g/\bV W g sn.D P K T sn.L/\Kn W sn P K T)/\
  (l.getD 12 false=true->∃g vp vk,a.tmps[9]?.getD qh= .pointer (some ⟨g,0,none⟩)/\w0.heap.size<=g/\W.heap[g]? =some (.cells #[.int .i64 r.code,vp,.int .i64 r.cost,vk] 40)/\dI W 0 vp r.path/\bF W 0 vk r.keys)
theorem ZW.put{n W W':qL}{sn:Pl.Nt}{r:Pl.Rp}{l:Array Bool}{a:Uz}{i t:Nat}{v:xh}(h:ZW n sn r l a W)(p:i≠11)(o:i≠12)(t1:t≠8)(t2:t≠9)(k:xn W.heap.size W W'):ZW n sn r (l.setIfInBounds i true) (a.put (some t) v) W':=by
 obtain⟨b,c,d⟩:=h;unfold ZW;rw [BD false p,BD false o];rw [show(a.put (some t) v).tmps[8]? =a.tmps[8]? from by simp [Act.put,Ru t1],show(a.put (some t) v).tmps[9]? =a.tmps[9]? from by simp [Act.put,Ru t2]];refine⟨b.trans (k.mono b.size),fun q=> ?_,fun q=> ?_⟩
 ·obtain⟨g,P,K,T,e,m,f,j⟩:=c q;exact⟨g,P,K,T,e,m,aj.below f k,j.below k⟩
 ·obtain⟨g,vp,vk,e,m,f,hp,j⟩:=d q;exact⟨g,vp,vk,e,m,(k.block _ (aG f)).trans f,hp.below k,bF.below j k⟩
theorem ZW.early{b W W':qL}{sn:Pl.Nt}{r:Pl.Rp}{l:Array Bool}{a g:Uz}{i:Nat}(h:ZW b sn r l a W)(f:i≠11)(e:i≠12)(d:l.getD 11 false=false)(c:l.getD 12 false=false)(k:xn W.heap.size W W'):ZW b sn r (l.setIfInBounds i true) g W':=by
 unfold ZW;rw [BD false f,BD false e,d,c];exact⟨h.1.trans (k.mono h.1.size),fun q=>(by cases q),fun q=>(by cases q)⟩
theorem aaX{Q:Exit->Uz->qL->Prop}{a0:Uz}{v:qL}{B ab ao al ac k:Nat}{s sn:Pl.Nt}{P K T:Nat->xh}{x:Pl.Ac}{r:Pl.Rp}
  (aR:a0.tmps.size=37)
  (q5:a0.tmps[5]?.getD qh= .pointer (some ⟨B,0,none⟩))
  (q0:a0.tmps[0]?.getD qh= .slice (some ⟨ab,ao,none⟩) al ac)
  (q7:a0.tmps[7]?.getD qh= .int .i64 (k:Int))
  (hB:bV v B s.D P K T s.L)
  (hK:Kn v s P K T)
  (hg:fZ s)
  (bo:Jn x)
  (hr:oJ s x=r)
  (aL:mg s x=sn)
  (bc:(k:Int)<(al:Int))
  (E:ab<v.heap.size)
  (Y:v.cell? ⟨ab,ao+k*9,none⟩=some (.int .i64 x.kind)/\v.cell? ⟨ab,ao+k*9+1,none⟩=some (.int .i64 x.a)/\v.cell? ⟨ab,ao+k*9+2,none⟩=some (.int .i64 x.b)/\v.cell? ⟨ab,ao+k*9+3,none⟩=some (.int .i64 x.n)/\v.cell? ⟨ab,ao+k*9+4,none⟩=some (.int .i64 x.m)/\v.cell? ⟨ab,ao+k*9+5,none⟩=some (.int .i64 x.p.1)/\v.cell? ⟨ab,ao+k*9+6,none⟩=some (.int .i64 x.p.2)/\v.cell? ⟨ab,ao+k*9+7,none⟩=some (.string x.key)/\v.cell? ⟨ab,ao+k*9+8,none⟩=some (.string x.val))
  (hQ:∀ys W gn gr S U R vp vk,ys.length=9->bV W gn sn.D S U R sn.L->Kn W sn S U R->W.heap[gr]? =some (.cells #[.int .i64 r.code,vp,.int .i64 r.cost,vk] 40)->dI W 0 vp r.path->bF W 0 vk r.keys->v.heap.size<=gn->v.heap.size<=gr->xn v.heap.size v W->Q .normal {a0 with tmps:=setFrom (setFrom a0.tmps 8 [.pointer (some ⟨gn,0,none⟩),.pointer (some ⟨gr,0,none⟩)]) 21 ys} W):
  ∀ops,dX OG 8=some ops->(OM 8 ops true).wp xx Q a0 v:=by
 intro ops aH;have eo:=GX (aH.symm.trans (rfl:dX OG 8=some _));subst eo;clear aH;have f:=iE ([some 22,some 23,some 24,some 25,some 26,some 27,some 21,some 28,some 29,some 8,some 9,none,none]:List (Option Nat)) rfl;refine MJ (by kernel_rfl) ?_;refine cO (Tu a0 13 (fun k=>([some 22,some 23,some 24,some 25,some 26,some 27,some 21,some 28,some 29,some 8,some 9,none,none]:List (Option Nat)).getD k none) (V5 sn r v.heap.size [.agg (ax s.D P K T s.L).toArray,.slice (some ⟨ab,ao,none⟩) al ac,.int .i64 (k:Int),.pointer (some ⟨ab,ao+k*9,none⟩),.agg x.cells,qh,qh,qh,qh,qh,qh,qh,qh]) (ZW v sn r)) ?_ ?_ _ _ _ _ (by decide+kernel) ?_ (bn _ _ _)
 ·rintro i listed F W hi jS c;rw [Qi]at hi;obtain⟨j,o,ho,d⟩:=hi;have sN:i<13:=(Array.getElem?_eq_some_iff.1 ho).1;have bx:=c.base.ls;have o5:=(c.base.fr 5 (jX rfl)).trans q5;have o0:=(c.base.fr 0 (jX rfl)).trans q0;have o7:=(c.base.fr 7 (jX rfl)).trans q7;have bl:i=0\/i=1\/i=2\/i=3\/i=4\/i=5\/i=6\/i=7\/i=8\/i=9\/i=10\/i=11\/i=12:=by omega
  rcases bl with rfl|rfl|rfl|rfl|rfl|rfl|rfl|rfl|rfl|rfl|rfl|rfl|rfl
  all_goals
   simp at ho;subst ho
  ·refine au rfl rfl ?_;have bp:bV W B s.D P K T s.L:=aj.below hB c.cw.1;refine Zf 34 (.tmp 5) rfl B 0 (by simpa [Ee]using o5) (ax s.D P K T s.L) _ bp.all GM rfl (by rw [bH];exact fD) ?_;exact c.put (i:=0) (t:=22) (by omega) rfl (f 0 22 rfl) (by omega) rfl (fun _ _ _ h=>h) (c.cw.put (by omega) (by omega) (by omega) (by omega) (oP _ _))
  ·refine au rfl rfl ?_;simp [rU,go_sem,o0];exact c.put (i:=1) (t:=23) (by omega) rfl (f 1 23 rfl) (by omega) rfl (fun _ _ _ h=>h) (c.cw.put (by omega) (by omega) (by omega) (by omega) (oP _ _))
  ·refine au rfl rfl ?_;simp [rU,go_sem,o7];exact c.put (i:=2) (t:=24) (by omega) rfl (f 2 24 rfl) (by omega) rfl (fun _ _ _ h=>h) (c.cw.put (by omega) (by omega) (by omega) (by omega) (oP _ _))
  ·refine au rfl rfl ?_;have ar:=c.base.vl 1 23 rfl (d ⟨1,.data⟩ (by simp) rfl);have ar:F.tmps[23]?.getD qh= .slice (some ⟨ab,ao,none⟩) al ac:=ar;have aq:=c.base.vl 2 24 rfl (d ⟨2,.data⟩ (by simp) rfl);have aq:F.tmps[24]?.getD qh= .int .i64 (k:Int):=aq;simp [rU,go_sem,ar,aq,bc];exact c.put (i:=3) (t:=25) (by omega) rfl (f 3 25 rfl) (by omega) rfl (fun _ _ _ h=>h) (c.cw.put (by omega) (by omega) (by omega) (by omega) (oP _ _))
  ·refine au rfl rfl ?_;have an:=c.base.vl 3 25 rfl (d ⟨3,.data⟩ (by simp) rfl);have an:F.tmps[25]?.getD qh= .pointer (some ⟨ab,ao+k*9,none⟩):=an;have c0:=(c.cw.1.cell (p:=⟨ab,_,none⟩) E).trans Y.1;have c1:=(c.cw.1.cell (p:=⟨ab,_,none⟩) E).trans Y.2.1;have c2:=(c.cw.1.cell (p:=⟨ab,_,none⟩) E).trans Y.2.2.1;have c3:=(c.cw.1.cell (p:=⟨ab,_,none⟩) E).trans Y.2.2.2.1;have c4:=(c.cw.1.cell (p:=⟨ab,_,none⟩) E).trans Y.2.2.2.2.1;have c5:=(c.cw.1.cell (p:=⟨ab,_,none⟩) E).trans Y.2.2.2.2.2.1;have c6:=(c.cw.1.cell (p:=⟨ab,_,none⟩) E).trans Y.2.2.2.2.2.2.1;have c7:=(c.cw.1.cell (p:=⟨ab,_,none⟩) E).trans Y.2.2.2.2.2.2.2.1;have c8:=(c.cw.1.cell (p:=⟨ab,_,none⟩) E).trans Y.2.2.2.2.2.2.2.2;simp [rU,go_sem,an,c0,c1,c2,c3,c4,c5,c6,c7,c8]
   exact c.put (i:=4) (t:=26) (by omega) rfl (f 4 26 rfl) (by omega) rfl (fun _ _ _ h=>h) (c.cw.put (by omega) (by omega) (by omega) (by omega) (oP _ _))
  ·refine au rfl rfl ?_;have av:=c.base.vl 0 22 rfl (d ⟨0,.data⟩ (by simp) rfl);have av:F.tmps[22]?.getD qh= .agg (ax s.D P K T s.L).toArray:=av;have ak:=c.base.vl 4 26 rfl (d ⟨4,.data⟩ (by simp) rfl);have ak:F.tmps[26]?.getD qh= .agg x.cells:=ak;simp [rU,go_sem,av,ak];refine(Qb s P K T x W (hK.below c.cw.1) hg bo).mono ?_;rw [hr,aL];rintro e W' ⟨S,U,R,vp,vk,rfl,bg,a8,a7,H⟩;exact c.put (i:=5) (t:=27) (by omega) rfl (f 5 27 rfl) (by omega) ⟨_,_,rfl,⟨S,U,R,rfl,bg⟩,⟨vp,vk,rfl,a8,a7⟩⟩ (V5.grow H) (c.cw.put (by omega) (by omega) (by omega) (by omega) H)
  ·refine au rfl rfl ?_;have ad:=c.base.vl 5 27 rfl (d ⟨5,.data⟩ (by simp) rfl);have ad:ES sn r (F.tmps[27]?.getD qh) W:=ad;obtain⟨x1,y1,z,h2,h3⟩:=ad;simp [rU,go_sem,z];exact c.put (i:=6) (t:=21) (by omega) rfl (f 6 21 rfl) (by omega) ⟨x1,y1,rfl,h2,h3⟩ (fun _ _ _ h=>h) (c.cw.put (by omega) (by omega) (by omega) (by omega) (oP _ _))
  ·refine au rfl rfl ?_;have J:=c.base.vl 6 21 rfl (d ⟨6,.data⟩ (by simp) rfl);have J:ES sn r (F.tmps[21]?.getD qh) W:=J;obtain⟨x1,y1,z,h2,h3⟩:=J;simp [rU,go_sem,z];exact c.put (i:=7) (t:=28) (by omega) rfl (f 7 28 rfl) (by omega) h2 (fun _ _ _ h=>h) (c.cw.put (by omega) (by omega) (by omega) (by omega) (oP _ _))
  ·refine au rfl rfl ?_;have J:=c.base.vl 6 21 rfl (d ⟨6,.data⟩ (by simp) rfl);have J:ES sn r (F.tmps[21]?.getD qh) W:=J;obtain⟨x1,y1,z,h2,h3⟩:=J;simp [rU,go_sem,z];exact c.put (i:=8) (t:=29) (by omega) rfl (f 8 29 rfl) (by omega) h3 (fun _ _ _ h=>h) (c.cw.put (by omega) (by omega) (by omega) (by omega) (oP _ _))
  ·refine au rfl rfl ?_;have n11:listed.getD 11 false=false:=by
    cases I:listed.getD 11 false
    ·rfl
    ·have z:=jS 11 _ rfl I ⟨9,.phase⟩ (by simp) rfl;have A:9<listed.size:=by omega
     simp [A]at z j;rw [z]at j;cases j
   have n12:listed.getD 12 false=false:=by
    cases I:listed.getD 12 false
    ·rfl
    ·have z:=jS 12 _ rfl I ⟨9,.phase⟩ (by simp) rfl;have A:9<listed.size:=by omega
     simp [A]at z j;rw [z]at j;cases j
   have H:xn W.heap.size W (W.alloc (.cells Ah 34)):=(oP _ _).alloc (oC _) _;have aa:=c.cw.1.size;have V:P9 v.heap.size (.pointer (some ⟨W.heap.size,0,none⟩)) (W.alloc (.cells Ah 34)):=⟨_,rfl,aa,_,by rw [qW];exact bV.new W _ _ _ _ _⟩
   simp [rU,go_sem];exact c.put (i:=9) (t:=8) (by omega) rfl (f 9 8 rfl) (by omega) V (V5.grow H) (c.cw.early (by omega) (by omega) n11 n12 H)
  ·refine au rfl rfl ?_;have n11:listed.getD 11 false=false:=by
    cases I:listed.getD 11 false
    ·rfl
    ·have z:=jS 11 _ rfl I ⟨10,.phase⟩ (by simp) rfl;have A:10<listed.size:=by omega
     simp [A]at z j;rw [z]at j;cases j
   have n12:listed.getD 12 false=false:=by
    cases I:listed.getD 12 false
    ·rfl
    ·have z:=jS 12 _ rfl I ⟨10,.phase⟩ (by simp) rfl;have A:10<listed.size:=by omega
     simp [A]at z j;rw [z]at j;cases j
   have H:xn W.heap.size W (W.alloc (.cells #[.int .i64 0,.slice none 0 0,.int .i64 0,.slice none 0 0] 40)):=(oP _ _).alloc (oC _) _;have aa:=c.cw.1.size;have V:P8 v.heap.size (.pointer (some ⟨W.heap.size,0,none⟩)) (W.alloc (.cells #[.int .i64 0,.slice none 0 0,.int .i64 0,.slice none 0 0] 40)):=⟨_,rfl,aa,_,_,_,_,bW _ _⟩
   simp [rU,go_sem];exact c.put (i:=10) (t:=9) (by omega) rfl (f 10 9 rfl) (by omega) V (V5.grow H) (c.cw.early (by omega) (by omega) n11 n12 H)
  ·refine au rfl rfl ?_;have e8:=c.base.vl 9 8 rfl (d ⟨9,.data⟩ (by simp) rfl);have bt:=c.base.vl 7 28 rfl (d ⟨7,.data⟩ (by simp) rfl);have n12:listed.getD 12 false=false:=by
    cases I:listed.getD 12 false
    ·rfl
    ·have z:=jS 12 _ rfl I ⟨11,.chain⟩ (by simp) rfl;have A:11<listed.size:=by omega
     simp [A]at z j;rw [z]at j;cases j
   obtain⟨g,eg,X,h0,y⟩:P9 v.heap.size (F.tmps[8]?.getD qh) W:=e8;obtain⟨S,U,R,en,N⟩:Iq sn (F.tmps[28]?.getD qh) W:=bt;refine WZ 34 (.tmp 8) (.tmp 28) rfl g 0 (ax sn.D S U R sn.L).toArray (by simpa [Ee]using eg) (by simpa [Ee]using en) (by simpa [ax]using y.there 0 192 (by omega)) (by simpa [ax]using fD) (Rw N.one) ?_;have G:aI g W (W.setCells g 0 (ax sn.D S U R sn.L)):=aI.setCells _ 0 _ (aI.refl _ _);have w:=iG.pls y;have aD:=bV.fill (D:=sn.D) (P:=S) (K:=U) (T:=R) (L:=sn.L) ⟨_,y⟩;refine c.skip (i:=11) rfl (V5.step (fun _ h=>h.no G w) (fun _ h=>h.no G w) (fun _ h=>h.no G w) ?_ ?_) ?_
   ·rintro u ⟨O,Z,C,h',l⟩;by_cases q:O=g
    ·subst q;exact⟨O,Z,C,_,aD⟩
    ·exact⟨O,Z,C,h',l.but G q⟩
   ·rintro u ⟨O,Z,C,d0,d1,d2,d3,l⟩;refine⟨O,Z,C,d0,d1,d2,d3,(G.block O (aG l) ?_).trans l⟩;rintro rfl;unfold aj at y;rw [y]at l;simp at l
   ·unfold ZW;rw [BD false (show 11≠12 by omega),lh (by omega),n12];exact⟨c.cw.1.trans (G.below X c.cw.1.size),fun _=>⟨g,S,U,R,eg,X,aD,N.no G w⟩,fun q=>(by cases q)⟩
  ·refine au rfl rfl ?_;have e9:=c.base.vl 10 9 rfl (d ⟨10,.data⟩ (by simp) rfl);have bs:=c.base.vl 8 29 rfl (d ⟨8,.data⟩ (by simp) rfl);have aw:listed.getD 11 false=true:=d ⟨11,.chain⟩ (by simp) rfl;obtain⟨gn,S,U,R,en,bw,M,N⟩:=c.cw.2.1 aw;obtain⟨g,eg,X,d0,d1,d2,d3,y⟩:P8 v.heap.size (F.tmps[9]?.getD qh) W:=e9;obtain⟨vp,vk,er,hp,I⟩:Io r (F.tmps[29]?.getD qh) W:=bs;obtain⟨pa,pc,rfl⟩:=az hp;obtain⟨ka,kc,rfl⟩:=az I;obtain⟨np,ba⟩:∃n,r.path.length=n:=⟨_,rfl⟩
   obtain⟨nk,bb⟩:∃n,r.keys.length=n:=⟨_,rfl⟩
   rw [ba]at er hp;rw [bb]at er I;obtain⟨⟨z0,z1,z2,z3⟩,zf,zl⟩:=aS y;simp [rU,go_sem,eg,er,z0,z1,z2,z3,zf];have G:=xW W g (.int .i64 r.code) (.slice pa np pc) (.int .i64 r.cost) (.slice ka nk kc);have ay:=AQ y (.int .i64 r.code) (.slice pa np pc) (.int .i64 r.cost) (.slice ka nk kc);have w:=iG.rp y;refine c.skip (i:=12) rfl (V5.step (fun _ h=>h.no G w) (fun _ h=>h.no G w) (fun _ h=>h.no G w) ?_ ?_) ?_
   ·rintro u ⟨O,Z,C,h',l⟩;refine⟨O,Z,C,h',l.but G ?_⟩;rintro rfl;unfold aj at l;rw [y]at l;simp at l
   ·rintro u ⟨O,Z,C,f0,f1,f2,f3,l⟩;by_cases q:O=g
    ·subst q;exact⟨O,Z,C,_,_,_,_,ay⟩
    ·exact⟨O,Z,C,f0,f1,f2,f3,(G.block O (aG l) q).trans l⟩
   ·unfold ZW;rw [BD false (show 12≠11 by omega),lh (by omega),aw];refine⟨c.cw.1.trans (G.below X c.cw.1.size),fun _=>⟨gn,S,U,R,en,bw,aj.but M G ?_,N.no G w⟩,fun _=>⟨g,_,_,eg,X,ay,bC hp G w (by decide),bC I G w (by decide)⟩⟩;rintro rfl;unfold bV aj at M;rw [y]at M;simp at M
 ·rintro listed F W hr c;have aE:=dm (by decide+kernel) c.base.ls hr;obtain⟨bm,br,bq⟩:=c.cw;obtain⟨gn,S,U,R,en,bj,M,N⟩:=br (aE 11 (by decide));obtain⟨gr,vp,vk,er,bh,a6,hp,I⟩:=bq (aE 12 (by decide));have bk:∀t,¬(8<=t/\t<8+2)->¬(21<=t/\t<21+9)->F.tmps[t]?.getD qh=a0.tmps[t]?.getD qh:=fun t z h2=>c.base.fr t fun k hk=>by
   have bd:k<13:=by rcases OO k 13 with h|h;exact h;(rw [xk,Jk (by simpa using h)]at hk;cases hk)
   have key:∀k:Fin 13,(([some 22,some 23,some 24,some 25,some 26,some 27,some 21,some 28,some 29,some 8,some 9,none,none]:List (Option Nat)).getD k.1 none).all (fun t=>(decide (8<=t)&&decide (t<10))||(decide (21<=t)&&decide (t<30)))=true:=by decide+kernel
   have:=key ⟨k,bd⟩;rw [hk]at this;simp at this;omega
  have aM:wF F 8 2= [.pointer (some ⟨gn,0,none⟩),.pointer (some ⟨gr,0,none⟩)]:=by
   show [F.tmps[8+0]?.getD qh,F.tmps[8+1]?.getD qh]=_;rw [show F.tmps[8+0]?.getD qh=_ from en,show F.tmps[8+1]?.getD qh=_ from er]
  rw [yA 8 2 21 9 c.base.sz c.base.df bk,aM];exact hQ _ W gn gr S U R vp vk (iq _ _ _) M N a6 hp I bj bh bm
 ·exact⟨pI.start trivial,(oP _ _).drew,fun q=>(by rw [ed]at q;cases q),fun q=>(by rw [ed]at q;cases q)⟩
def Xm(q:Nat)(w0:qL)(R:Nat)(D:Nat->Bool)(P K T:Nat->xh)(L:Nat->Nat->Int)(l:Array Bool)(W:qL):Prop:=
 aI R w0 W/\(∃g,aj W R 34 192 g)/\(l.getD q false=true->bV W R D P K T L)
theorem Xm.keep{q:Nat}{a W:qL}{R:Nat}{D P K T L}{l:Array Bool}{i:Nat}(h:Xm q a R D P K T L l W)(b:i≠q):Xm q a R D P K T L (l.setIfInBounds i true) W:=by
 unfold Xm;rw [BD false b];exact h
theorem wK{tmps:Array xh}{W:qL}{R:Nat}{D:Nat->Bool}{P K T:Nat->xh}{L:Nat->Nat->Int}{v c:xh}(e:tmps[2]?.getD qh=v)(d:tmps[3]?.getD qh= .pointer (some ⟨R,0,none⟩))(b:tmps[4]?.getD qh=c)(a:bV W R D P K T L):
  (results OG tmps).run xx W= .ok (.tuple #[v,.agg (ax D P K T L).toArray,c]) W:=by
 have hl:=run_loadVar_mid (P:=xx) W R 0 34 (ax D P K T L) _ a.all GM rfl (by rw [bH];exact fD);simp only [results,Tryz.results13];simp [e,d,b,asAddr,hl]
theorem aaY{Q:Exit->Uz->qL->Prop}{a0:Uz}{j:qL}{B R:Nat}{D:Nat->Bool}{P K T:Nat->xh}{L:Nat->Nat->Int}{v:xh}
  (m:a0.tmps.size=37)
  (z:a0.tmps[5]?.getD qh= .pointer (some ⟨B,0,none⟩))
  (x:a0.tmps[3]?.getD qh= .pointer (some ⟨R,0,none⟩))
  (u:B≠R)
  (N:bV j B D P K T L)
  (O:∀v∈ax D P K T L,v.oneCell'=true)
  (J:∃g,aj j R 34 192 g)
  (F:v= .slice none 0 0)
  (M:∀c W,c.defers=a0.defers->c.tmps[2]?.getD qh=v->c.tmps[3]?.getD qh= .pointer (some ⟨R,0,none⟩)->c.tmps[4]?.getD qh= .int .i64 1->bV W R D P K T L->aI R j W->Q .normal c W):
  ∀ops,dX OG 3=some ops->(OM 3 ops true).wp xx Q a0 j:=by
 intro ops aH;have S:=GX (aH.symm.trans (rfl:dX OG 3=some _));subst S;clear aH;have b:=iE ([some 14,some 2,none,some 4]:List (Option Nat)) rfl;refine MJ (by kernel_rfl) ?_;refine cO (pI a0 4 (fun k=>([some 14,some 2,none,some 4]:List (Option Nat)).getD k none) (V2 [] [] (fun _ _=>True) (fun _ _=>True) [.agg (ax D P K T L).toArray,v,qh,.int .i64 1]) (Xm 2 j R D P K T L)) ?_ ?_ _ _ _ _ (by decide+kernel) ?_ (bn _ _ _)
 ·rintro i listed c W y V a;rw [Qi]at y;obtain⟨I,o,n,l⟩:=y;have U:i<4:=(Array.getElem?_eq_some_iff.1 n).1;have H:=a.ls;have C:=(a.fr 5 (jX rfl)).trans z;have E:=(a.fr 3 (jX rfl)).trans x;have r:i=0\/i=1\/i=2\/i=3:=by omega
  rcases r with rfl|rfl|rfl|rfl
  all_goals
   simp at n;subst n
  ·refine au rfl rfl ?_;have s:bV W B D P K T L:=aj.but N a.cw.1 u;refine Zf 34 (.tmp 5) rfl B 0 (by simpa [Ee]using C) (ax D P K T L) _ s.all GM rfl (by rw [bH];exact fD) ?_;exact a.put (i:=0) (t:=14) (by omega) rfl (b 0 14 rfl) (by omega) rfl (fun _ _ _ h=>h) (a.cw.keep (by omega))
  ·refine au rfl rfl ?_;simp [rU,go_sem];exact a.put (i:=1) (t:=2) (by omega) rfl (b 1 2 rfl) (by omega) (by show _=v;rw [F]) (fun _ _ _ h=>h) (a.cw.keep (by omega))
  ·refine au rfl rfl ?_;have w:c.tmps[14]?.getD qh= .agg (ax D P K T L).toArray:=a.vl 0 14 rfl (l ⟨0,.data⟩ (by simp) rfl);obtain⟨e,⟨g0,d⟩,-⟩:=a.cw;refine WZ 34 (.tmp 3) (.tmp 14) rfl R 0 (ax D P K T L).toArray (by simpa [Ee]using E) (by simpa [Ee]using w) (by simpa [ax]using d.there 0 192 (by omega)) (by simpa [ax]using fD) (Rw O) ?_;have A:aI R W (W.setCells R 0 (ax D P K T L)):=aI.setCells _ 0 _ (aI.refl _ _);refine a.skip (i:=2) rfl (V2.step (fun _ _=>trivial) (fun _ _=>trivial)) ⟨e.trans A,⟨_,bV.fill ⟨_,d⟩⟩,fun _=>bV.fill ⟨_,d⟩⟩
  ·refine au rfl rfl ?_;simp [rU,go_sem];exact a.put (i:=3) (t:=4) (by omega) rfl (b 3 4 rfl) (by omega) rfl (fun _ _ _ h=>h) (a.cw.keep (by omega))
 ·rintro listed c W G a;have f:=dm (by decide+kernel) a.ls G;obtain⟨e,-,p⟩:=a.cw;have d3:=(a.fr 3 (jX rfl)).trans x;exact M c W (by rw [a.df]) (a.vl 1 2 rfl (f 1 (by decide))) d3 (a.vl 3 4 rfl (f 3 (by decide))) (p (f 2 (by decide))) e
 ·exact pI.start ⟨(aI.refl _ _).drawn 1,J,fun q=>(by rw [ed]at q;cases q)⟩
theorem XX{Q:Exit->Uz->qL->Prop}{a0:Uz}{l:qL}{B R:Nat}{D:Nat->Bool}{P K T:Nat->xh}{L:Nat->Nat->Int}{v:xh}
  (m:a0.tmps.size=37)
  (C:a0.tmps[5]?.getD qh= .pointer (some ⟨B,0,none⟩))
  (y:a0.tmps[3]?.getD qh= .pointer (some ⟨R,0,none⟩))
  (A:a0.tmps[6]?.getD qh=v)
  (u:B≠R)
  (S:bV l B D P K T L)
  (U:∀v∈ax D P K T L,v.oneCell'=true)
  (N:∃g,aj l R 34 192 g)
  (O:∀c W,c.defers=a0.defers->c.tmps[2]?.getD qh=v->c.tmps[3]?.getD qh= .pointer (some ⟨R,0,none⟩)->c.tmps[4]?.getD qh= .int .i64 0->bV W R D P K T L->aI R l W->Q .normal c W):
  ∀ops,dX OG 11=some ops->(OM 11 ops true).wp xx Q a0 l:=by
 intro ops aH;have V:=GX (aH.symm.trans (rfl:dX OG 11=some _));subst V;clear aH;have b:=iE ([some 35,some 36,some 2,none,some 4]:List (Option Nat)) rfl;refine MJ (by kernel_rfl) ?_;refine cO (pI a0 5 (fun k=>([some 35,some 36,some 2,none,some 4]:List (Option Nat)).getD k none) (V2 [] [] (fun _ _=>True) (fun _ _=>True) [v,.agg (ax D P K T L).toArray,v,qh,.int .i64 0]) (Xm 3 l R D P K T L)) ?_ ?_ _ _ _ _ (by decide+kernel) ?_ (bn _ _ _)
 ·rintro i listed c W z Y a;rw [Qi]at z;obtain⟨M,o,n,d⟩:=z;have X:i<5:=(Array.getElem?_eq_some_iff.1 n).1;have J:=a.ls;have G:=(a.fr 5 (jX rfl)).trans C;have H:=(a.fr 3 (jX rfl)).trans y;have F:=(a.fr 6 (jX rfl)).trans A;have r:i=0\/i=1\/i=2\/i=3\/i=4:=by omega
  rcases r with rfl|rfl|rfl|rfl|rfl
  all_goals
   simp at n;subst n
  ·refine au rfl rfl ?_;simp [rU,go_sem,F];exact a.put (i:=0) (t:=35) (by omega) rfl (b 0 35 rfl) (by omega) rfl (fun _ _ _ h=>h) (a.cw.keep (by omega))
  ·refine au rfl rfl ?_;have s:bV W B D P K T L:=aj.but S a.cw.1 u;refine Zf 34 (.tmp 5) rfl B 0 (by simpa [Ee]using G) (ax D P K T L) _ s.all GM rfl (by rw [bH];exact fD) ?_;exact a.put (i:=1) (t:=36) (by omega) rfl (b 1 36 rfl) (by omega) rfl (fun _ _ _ h=>h) (a.cw.keep (by omega))
  ·refine au rfl rfl ?_;have x:c.tmps[35]?.getD qh=v:=a.vl 0 35 rfl (d ⟨0,.data⟩ (by simp) rfl);simp [rU,go_sem,x];exact a.put (i:=2) (t:=2) (by omega) rfl (b 2 2 rfl) (by omega) rfl (fun _ _ _ h=>h) (a.cw.keep (by omega))
  ·refine au rfl rfl ?_;have w:c.tmps[36]?.getD qh= .agg (ax D P K T L).toArray:=a.vl 1 36 rfl (d ⟨1,.data⟩ (by simp) rfl);obtain⟨f,⟨g0,e⟩,-⟩:=a.cw;refine WZ 34 (.tmp 3) (.tmp 36) rfl R 0 (ax D P K T L).toArray (by simpa [Ee]using H) (by simpa [Ee]using w) (by simpa [ax]using e.there 0 192 (by omega)) (by simpa [ax]using fD) (Rw U) ?_;have E:aI R W (W.setCells R 0 (ax D P K T L)):=aI.setCells _ 0 _ (aI.refl _ _);refine a.skip (i:=3) rfl (V2.step (fun _ _=>trivial) (fun _ _=>trivial)) ⟨f.trans E,⟨_,bV.fill ⟨_,e⟩⟩,fun _=>bV.fill ⟨_,e⟩⟩
  ·refine au rfl rfl ?_;simp [rU,go_sem];exact a.put (i:=4) (t:=4) (by omega) rfl (b 4 4 rfl) (by omega) rfl (fun _ _ _ h=>h) (a.cw.keep (by omega))
 ·rintro listed c W I a;have j:=dm (by decide+kernel) a.ls I;obtain⟨f,-,p⟩:=a.cw;have d3:=(a.fr 3 (jX rfl)).trans y;exact O c W (by rw [a.df]) (a.vl 2 2 rfl (j 2 (by decide))) d3 (a.vl 4 4 rfl (j 4 (by decide))) (p (j 3 (by decide))) f
 ·exact pI.start ⟨(aI.refl _ _).drawn 1,N,fun q=>(by rw [ed]at q;cases q)⟩
def ab3(w:qL)(xs:List Pl.Ac)(w':qL)(vr vs:xh):Prop:=
 (∃ts,mD w' w.heap.size vr ts/\ts.map D6.r=tH Pl.Nt.new xs)/\∃us,MH w' w.heap.size vs us/\us.length=12/\∀i,i<12->Own w' w.heap.size (us.getD i qh) ((Pl.runN Pl.Nt.new xs).K i)
theorem ZY(a:Option Addr)(len cap:Nat)(w:qL)(h:400<len):
  SN xx 12 #[.slice a len cap] w fun e w'=>e= .returned (.tuple #[.slice none 0 0,.slice none 0 0,.int .i64 1])/\w'=w:=by
 have b:(400:Int)<(len:Int):=by omega
 go_enter Tryz.func12,Tryz.ntmps12;go_wp2_with fail;exact IA (v:= .tuple #[.slice none 0 0,.slice none 0 0,.int .i64 1]) (by simp [results,Tryz.results12,go_sem]) rfl ⟨rfl,rfl⟩
theorem ab2(a:Option Addr)(len cap:Nat)(xs:List Pl.Ac)(w:qL)(h:oK w a len cap xs)(hl:len<=400)(hT:Ff w):
  SN xx 12 #[.slice a len cap] w fun e w'=>∃X vs,e= .returned (.tuple #[X,vs,.int .i64 0])/\ab3 w xs w' X vs/\xn w.heap.size w w':=by
 have HA:=ae h;have EU:=ae hT;have N:=ae h.1;have lD:=ae h.2.2.2.1;have aM:=h.2.1;have ad:=h.2.2.1;unfold Iy at ad;clear h hT;have a8:¬(400:Int)<(len:Int):=by omega
 obtain⟨T,q⟩:=aV (w.alloc (.cells Tryz.zeroCells92 92));have aw:Eb (aT T w.heap.size Pl.Nt.new):=ae (by rw [q.out];exact aT.new w);have aD:Eb (xn w.heap.size w T):=ae (by rw [q.out];exact(oP _ _).alloc (oC _) _);have a6:T.heap.size=w.heap.size+1:=by rw [q.out];simp
 go_enter Tryz.func12,Tryz.ntmps12;go_wp2_with (rw [<-q.out]);go_loopw [6,14] (fun X vi wr=>∃(k:Nat) (v:xh) (ts:List D6),v=X/\vi= .int .i64 k/\k<=len/\Eb (mD wr (w.heap.size+1) v ts)/\Eb (ts.map D6.r=tH Pl.Nt.new (xs.take k))/\Eb (aT wr w.heap.size (Pl.runN Pl.Nt.new (xs.take k)))/\Eb (bG w.heap.size T wr)) (fun _ vi _=>len-(Tq vi).toNat)
 case atStart=>exact⟨0,_,[],rfl,rfl,by omega,ae (mD.nil _ _),ae rfl,ae aw.out,ae (bG.refl _ _)⟩
 case round=>
  obtain⟨k,v,ts,hv,rfl,hk,HO,Y,HN,HK⟩:=hrel;subst hv;have pq:Eb (ts.length=k):=ae (by
   have:=congrArg VB Y.out;rw [Tn,wI,X6,N.out]at this;omega)
  have f:Eb (xn w.heap.size w wr):=ae (aD.out.trans (HK.out.below (oC _) (by omega)));have IG:=HK.out.size;obtain⟨ra,rc,rfl⟩:=az HO.out.1;obtain⟨nr,u⟩:=ai (ts.length);by_cases j:k<len
  ·have aL:(k:Int)<(len:Int):=by omega
   obtain⟨b,off,rfl,c,hr⟩:=HA.out.at j;obtain⟨x,HX⟩:=ai (Pl.ac xs k);have ak:Eb (Jn x):=ae (by rw [<-HX.out];exact lD.out _ (ZR xs k (by rw [N.out];exact j)));obtain⟨c0,c1,c2,c3,c4,c5,c6,c7,c8⟩:=hr.nine (by rw [N.out];exact j) HX.out;have Qg:Eb (xs.take (k+1)=xs.take k++ [x]):=ae (by rw [<-HX.out];exact TK xs k (by rw [N.out];exact j));obtain⟨s,Z⟩:=ai (Pl.runN Pl.Nt.new (xs.take k));rw [Z.out]at HN;have HG:Eb (fZ s):=ae (by rw [<-Z.out];exact fZ.new.run _);have V:Eb (tH Pl.Nt.new (xs.take (k+1))=tH Pl.Nt.new (xs.take k)++ [oJ s x]):=ae (by rw [Qg.out,JE,Z.out]);have yT:Eb (Pl.runN Pl.Nt.new (xs.take (k+1))=mg s x):=ae (by rw [Qg.out,JF,Z.out])
   obtain⟨S,o⟩:=aV (wr.alloc (.cells #[.int .i64 x.kind,.int .i64 x.a,.int .i64 x.b,.int .i64 x.n,.int .i64 x.m,.int .i64 x.p.1,.int .i64 x.p.2,.string x.key,.string x.val] 51));have g:Eb (xn wr.heap.size wr S):=ae (by rw [o.out];exact(oP _ _).alloc (oC _) _);have F:S.heap[wr.heap.size]? =some (.cells #[.int .i64 x.kind,.int .i64 x.a,.int .i64 x.b,.int .i64 x.n,.int .i64 x.m,.int .i64 x.p.1,.int .i64 x.p.2,.string x.key,.string x.val] 51):=by rw [o.out];exact bW _ _
   have y:=ae (abW w.heap.size s x S (HN.out.below g.out) HG.out ak.out (EU.out.below (f.out.trans (g.out.mono (by omega)))));unfold acV at y;have d0:=(f.out.cell (p:=⟨b,off+k*9,none⟩) c).trans c0;have d1:=(f.out.cell (p:=⟨b,off+k*9+1,none⟩) c).trans c1;have d2:=(f.out.cell (p:=⟨b,off+k*9+2,none⟩) c).trans c2;have d3:=(f.out.cell (p:=⟨b,off+k*9+3,none⟩) c).trans c3;have d4:=(f.out.cell (p:=⟨b,off+k*9+4,none⟩) c).trans c4;have d5:=(f.out.cell (p:=⟨b,off+k*9+5,none⟩) c).trans c5;have d6:=(f.out.cell (p:=⟨b,off+k*9+6,none⟩) c).trans c6;have d7:=(f.out.cell (p:=⟨b,off+k*9+7,none⟩) c).trans c7;have d8:=(f.out.cell (p:=⟨b,off+k*9+8,none⟩) c).trans c8;obtain⟨r,U⟩:=ai (oJ s x);obtain⟨sn,yQ⟩:=ai (mg s x);rw [U.out,yQ.out]at y;rw [U.out]at V;rw [yQ.out]at yT;obtain⟨kind,xa,xb,n,m,⟨p1,p2⟩,key,val⟩:=x
   simp only at d0 d1 d2 d3 d4 d5 d6 d7 d8 y o F;have ba:=g.out.size;obtain⟨e0,e1,e2,e3,e4,e5,e6,e7,e8⟩:=kz F;clear c0 c1 c2 c3 c4 c5 c6 c7 c8 hr F;rw [u.out];go_wp2_with (rw [<-o.out]);refine y.out.mono ?_;rintro e w3 ⟨vp,vk,rfl,H,I,Q,l⟩;obtain⟨C,B,rfl⟩:=az H;obtain⟨A,z,rfl⟩:=az I;have ay:Eb (bG w.heap.size T w3):=ae ((HK.out.trans (bG.of (aI.of g.out))).trans l);have K:Eb (mD w3 (w.heap.size+1) (.slice ra ts.length rc) ts):=ae ((HO.out.below g.out).afx l (by omega));have Ea:=ae H;have W:=ae I;have pW:=ae Q;have aR:=l.size;obtain⟨D,vT⟩:=ai (r.path.length);obtain⟨E,CE⟩:=ai (r.keys.length);rw [vT.out]at Ea⊢;rw [CE.out]at W⊢;have aa:ts.length<=1000000:=by have:=pq.out;omega
   clear e0 e1 e2 e3 e4 e5 e6 e7 e8 d0 d1 d2 d3 d4 d5 d6 d7 d8 H I Q l;have aE:=ae (u.out);go_wp2_with (at_builtin;refine Kt rfl (.tmp 18) (.tmp 21) rfl (w.heap.size+1) (.slice ra ts.length rc) ts ⟨.slice C D B,.slice A E z,r⟩ C A D B E z rfl rfl (by rw [aE.out];rfl) K.out.1 (by omega) rfl aa ?_;intro v7 w7 kK JW;obtain⟨a7,c7,rfl⟩:=az kK;have rV:=ae kK;have M:=ae JW;obtain⟨n7,CP⟩:=ai ((ts++ [(⟨.slice C D B,.slice A E z,r⟩:D6)]).length);rw [CP.out];clear kK JW);have L:=ae (Tf K.out.1 (.cells #[.int .i64 r.code,.slice C D B,.int .i64 r.cost,.slice A E z] 40));have d:xn w3.heap.size w3 (w3.alloc (.cells #[.int .i64 r.code,.slice C D B,.int .i64 r.cost,.slice A E z] 40)):=(oP _ _).alloc (oC _) _;go_roundw
   case rel=>
    refine⟨k+1,_,ts++ [⟨.slice C D B,.slice A E z,r⟩],rfl,by go_num,by omega,ae ⟨?_,fun t G=> ?_⟩,ae ?_,ae ?_,ae ?_⟩
    ·have J:=rV.out;rw [CP.out]at J⊢;exact J
    ·rcases List.mem_append.1 G with G|G
     ·obtain⟨q1,q2⟩:=K.out.2 t G;exact⟨dQ L.out M.out (dI.below q1 d) (by decide),dQ L.out M.out (bF.below q2 d) (by decide)⟩
     ·have G:t=⟨.slice C D B,.slice A E z,r⟩:=by simpa using G
      subst G;have J:=(Ea.out.mono (show w.heap.size+1<=S.heap.size by omega)).below d;have h2:=bF.below (World.dh W.out (show w.heap.size+1<=S.heap.size by omega)) d;exact⟨dQ L.out M.out J (by decide),dQ L.out M.out h2 (by decide)⟩
    ·rw [V.out,<-Y.out,aab];rfl
    ·rw [yT.out];exact aT.grown (pW.out.below d) L.out M.out (Z5 _)
    ·exact bG.abD (ay.out.trans (bG.of (aI.of d))) L.out M.out (by omega)
   case measure=>simp [Tq];omega
  ·obtain rfl:k=len:=by omega
   have aq:Eb (xs.take k=xs):=ae (by rw [<-N.out];exact Xh);rw [aq.out]at Y HN;have ar:=ae (IX w.heap.size (Pl.runN Pl.Nt.new xs) wr HN.out);rw [u.out];go_wp2_with fail;refine ar.out.mono ?_;rintro e w5 ⟨v5,us,rfl,iW,O,P,R⟩;obtain⟨ua,uc,rfl⟩:=az iW;obtain⟨n5,Xd⟩:=ai (us.length);have oL:=ae iW;have av:=ae P;have jP:=ae R;have an:=ae O;rw [Xd.out];clear iW P R O;go_wp2_with fail;refine IA (v:= .tuple #[.slice ra nr rc,.slice ua n5 uc,.int .i64 0]) (by simp [results,Tryz.results12,go_sem]) rfl ⟨_,_,rfl,⟨⟨ts,?_,Y.out⟩,us,?_,an.out,fun i hi=>Own.mono (av.out i hi) (by omega)⟩,f.out.trans (jP.out.mono f.out.size)⟩
   ·rw [<-u.out];exact(HO.out.below jP.out).mono (by omega)
   ·have J:=oL.out;rw [Xd.out]at J;exact World.dh J f.out.size
theorem Kn.new(w:qL):Kn w Pl.Nt.new nV nV nV:=⟨fun _ _=>aU.nil _ _ _,fun _ _=>Own.nil _ _,fun _ _=>⟨[],dG.nil _ _⟩⟩
def Kv(w:qL)(base:Nat)(v:xh)(ts:List D6):Prop:=w.ownsRow base 40 4 v ts.length (cellsRp ts)/\∀t∈ts,dI w 0 t.vp t.r.path/\bF w 0 t.vk t.r.keys
theorem AU{w d:qL}(h:d=((w.alloc (.cells Ah 34)).alloc (.cells Ah 34)).setCells (w.heap.size+1) 0 (ax (fun _=>false) nV nV nV (fun _ _=>0))):
  bV d (w.heap.size+1) (fun _=>false) nV nV nV (fun _ _=>0)/\(∃g,aj d w.heap.size 34 192 g)/\xn w.heap.size w d/\d.heap.size=w.heap.size+2/\
   ((w.alloc (.cells Ah 34)).alloc (.cells Ah 34)).there (w.heap.size+1) 0 192:=by
 generalize b:w.alloc (.cells Ah 34)=c at h;have i:c.heap.size=w.heap.size+1:=by rw [<-b];simp
 have l:bV c w.heap.size (fun _=>false) nV nV nV (fun _ _=>0):=by rw [<-b,qW];exact bV.new w _ _ _ _ _
 have b1:xn w.heap.size w c:=by rw [<-b];exact(oP _ _).alloc (oC _) _
 generalize a:c.alloc (.cells Ah 34)=f at h;have z2:f.heap.size=w.heap.size+2:=by rw [<-a];simp [i]
 have j:bV f (w.heap.size+1) (fun _=>false) nV nV nV (fun _ _=>0):=by rw [<-a,<-i,qW];exact bV.new c _ _ _ _ _
 have k:xn c.heap.size c f:=by rw [<-a];exact(oP _ _).alloc (oC _) _
 have hu:aI (w.heap.size+1) f d:=by rw [h];exact aI.setCells _ 0 _ (aI.refl _ _)
 have e:xn w.heap.size w f:=b1.trans (k.mono b1.size);refine⟨by rw [h];exact bV.fill ⟨_,j⟩,⟨_,aj.but (aj.below l k) hu (by omega)⟩,e.trans (hu.below (by omega) e.size),by rw [h,su];exact z2,?_⟩;exact j.there 0 192 (by omega)
theorem Jd(a:Option Addr)(al ac:Nat)(w:qL)(hl:400<al):
  SN xx 13 #[.slice a al ac] w fun e w'=>∃D P K T L,e= .returned (.tuple #[.slice none 0 0,.agg (ax D P K T L).toArray,.int .i64 1])/\(∀v∈ax D P K T L,v.oneCell'=true)/\xn w.heap.size w w':=by
 have l:(400:Int)<(al:Int):=by omega
 obtain⟨u,b⟩:∃x:qL,Eb (x=_):=⟨_,ae rfl⟩
 obtain⟨h,g,b3,z3,t3⟩:=AU (w:=w) b.out;rw [<-bH (fun _=>false) nV nV nV (fun _ _=>0)]at t3;have j:=ae t3;have k:=ae h;have f:=ae g;have c:=ae b3;have i:∀v∈ax (fun _=>false) nV nV nV (fun _ _=>0),v.oneCell'=true:=Kn.one (w:=w) (s:=Pl.Nt.new) (Kn.new w);have H1:=ae i;clear h g b3 t3 i;go_enter Tryz.func13,Tryz.ntmps13;go_wp2_with (refine aX rfl 34 (.tmp 5) (.tmp 10) rfl (w.heap.size+1) 0 (ax (fun _=>false) nV nV nV (fun _ _=>0)) rfl (by show aaf Ah=_;rw [qW]) j.out (by rw [bH];exact fD) H1.out b.out ?_);rename∀(a:Uz) (w:qL),OE _ OI _ a w->_=>d
 refine aaY (B:=w.heap.size+1) (R:=w.heap.size) (v:= .slice none 0 0) rfl rfl rfl (by omega) k.out H1.out f.out rfl ?_ _ (by kernel_rfl);intro t r m q p o hp n;refine d _ r ?_;go_wp2_with fail;refine IA (fn:=OG) (wK q p o hp) m ?_;exact⟨_,_,_,_,_,rfl,H1.out,c.out.trans (n.below (oC _) c.out.size)⟩
theorem MG(a:Option Addr)(al ac:Nat)(xs:List Pl.Ac)(w:qL)(h:oK w a al ac xs)(hl:al<=400):
  SN xx 13 #[.slice a al ac] w fun e w'=>∃v ts P K T,e= .returned (.tuple #[v,.agg (ax (Pl.runN Pl.Nt.new xs).D P K T (Pl.runN Pl.Nt.new xs).L).toArray,.int .i64 0])/\Kv w' w.heap.size v ts/\ts.map D6.r=tH Pl.Nt.new xs/\Kn w' (Pl.runN Pl.Nt.new xs) P K T/\xn w.heap.size w w':=by
 have HA:=ae h;have lF:=ae h.1;have lD:=ae h.2.2.2.1;have bs:=h.2.1;have aM:=h.2.2.1;unfold Iy at aM;clear h;have bw:¬(400:Int)<(al:Int):=by omega
 obtain⟨W3,av⟩:∃x:qL,Eb (x=_):=⟨_,ae rfl⟩
 obtain⟨n3,r3,b3,z3,t3⟩:=AU (w:=w) av.out;rw [<-bH (fun _=>false) nV nV nV (fun _ _=>0)]at t3;have yJ:=ae t3;have pW:=ae n3;have bj:=ae r3;have bq:=ae b3;have H1:=ae (show∀v∈ax (fun _=>false) nV nV nV (fun _ _=>0),v.oneCell'=true from Kn.one (w:=w) (s:=Pl.Nt.new) (Kn.new w));clear n3 r3 b3 t3;go_enter Tryz.func13,Tryz.ntmps13;go_wp2_with (refine aX rfl 34 (.tmp 5) (.tmp 10) rfl (w.heap.size+1) 0 (ax (fun _=>false) nV nV nV (fun _ _=>0)) rfl (by show aaf Ah=_;rw [qW]) yJ.out (by rw [bH];exact fD) H1.out av.out ?_)
 go_loopw [6,7] (fun vo vi wr=>∃(k:Nat) (v:xh) (ts:List D6) (P K T:Nat->xh),v=vo/\vi= .int .i64 k/\k<=al/\Eb (Kv wr (w.heap.size+2) v ts)/\Eb (ts.map D6.r=tH Pl.Nt.new (xs.take k))/\Eb (bV wr (w.heap.size+1) (Pl.runN Pl.Nt.new (xs.take k)).D P K T (Pl.runN Pl.Nt.new (xs.take k)).L)/\Eb (Kn wr (Pl.runN Pl.Nt.new (xs.take k)) P K T)/\Eb (∃g,aj wr w.heap.size 34 192 g)/\Eb (xn w.heap.size w wr)/\Eb (w.heap.size+2<=wr.heap.size)) (fun _ vi _=>al-(Tq vi).toNat)
 case atStart=>exact⟨0,_,[],nV,nV,nV,rfl,rfl,LM _,ae ⟨Wq _ _ _ _,fun t l=>by cases l⟩,ae rfl,ae pW.out,ae (Kn.new _),ae bj.out,ae bq.out,ae (by rw [z3];exact oC _)⟩
 case round=>
  obtain⟨k,v,ts,P,K,T,hv,rfl,hk,Z,MM,HN,Tj,Y,y,HZ⟩:=hrel;subst hv;have pq:Eb (ts.length=k):=ae (by
   have:=congrArg VB MM.out;rw [Tn,wI,X6,lF.out]at this;omega)
  obtain⟨ra,rc,rfl⟩:=az Z.out.1;obtain⟨nr,G⟩:=ai (ts.length);have IG:=HZ.out;by_cases C:k<al
  ·have aq:(k:Int)<(al:Int):=by omega
   obtain⟨b,off,rfl,d,hr⟩:=HA.out.at C;obtain⟨x,HX⟩:=ai (Pl.ac xs k);have bd:Eb (Jn x):=ae (by rw [<-HX.out];exact lD.out _ (ZR xs k (by rw [lF.out];exact C)));obtain⟨c0,c1,c2,c3,c4,c5,c6,c7,c8⟩:=hr.nine (by rw [lF.out];exact C) HX.out;have Qg:Eb (xs.take (k+1)=xs.take k++ [x]):=ae (by rw [<-HX.out];exact TK xs k (by rw [lF.out];exact C));obtain⟨s,HS⟩:=ai (Pl.runN Pl.Nt.new (xs.take k));rw [HS.out]at HN Tj;have HG:Eb (fZ s):=ae (by rw [<-HS.out];exact fZ.new.run _);obtain⟨r,aw⟩:=ai (oJ s x);obtain⟨sn,yQ⟩:=ai (mg s x);have bk:Eb (tH Pl.Nt.new (xs.take (k+1))=tH Pl.Nt.new (xs.take k)++ [r]):=ae (by rw [Qg.out,JE,HS.out,aw.out]);have yT:Eb (Pl.runN Pl.Nt.new (xs.take (k+1))=sn):=ae (by rw [Qg.out,JF,HS.out,yQ.out]);have a6:b<wr.heap.size:=Qe d y.out.size
   have bo:=ae (⟨(y.out.cell (p:=⟨b,_,none⟩) d).trans c0,(y.out.cell (p:=⟨b,_,none⟩) d).trans c1,(y.out.cell (p:=⟨b,_,none⟩) d).trans c2,(y.out.cell (p:=⟨b,_,none⟩) d).trans c3,(y.out.cell (p:=⟨b,_,none⟩) d).trans c4,(y.out.cell (p:=⟨b,_,none⟩) d).trans c5,(y.out.cell (p:=⟨b,_,none⟩) d).trans c6,(y.out.cell (p:=⟨b,_,none⟩) d).trans c7,(y.out.cell (p:=⟨b,_,none⟩) d).trans c8⟩:wr.cell? ⟨b,off+k*9,none⟩=some (.int .i64 x.kind)/\wr.cell? ⟨b,off+k*9+1,none⟩=some (.int .i64 x.a)/\wr.cell? ⟨b,off+k*9+2,none⟩=some (.int .i64 x.b)/\wr.cell? ⟨b,off+k*9+3,none⟩=some (.int .i64 x.n)/\wr.cell? ⟨b,off+k*9+4,none⟩=some (.int .i64 x.m)/\wr.cell? ⟨b,off+k*9+5,none⟩=some (.int .i64 x.p.1)/\wr.cell? ⟨b,off+k*9+6,none⟩=some (.int .i64 x.p.2)/\wr.cell? ⟨b,off+k*9+7,none⟩=some (.string x.key)/\wr.cell? ⟨b,off+k*9+8,none⟩=some (.string x.val));clear c0 c1 c2 c3 c4 c5 c6 c7 c8 hr
   rw [G.out];go_wp2_with fail;rename∀(a:Uz) (w:qL),OE _ _ _ a w->_=>ba
   refine aaX (B:=w.heap.size+1) (ab:=b) (ao:=off) (k:=k) (s:=s) (sn:=sn) (x:=x) (r:=r) rfl rfl rfl rfl HN.out Tj.out HG.out bd.out aw.out yQ.out aq a6 bo.out ?_ _ (by kernel_rfl);intro ys W gn gr P' K' T' vp vk aa ak U S hp hq bz bx N;obtain⟨y0,y1,y2,y3,y4,y5,y6,y7,y8,rfl⟩:=Lt ys aa;simp only [dC,spl];refine ba _ W ?_;obtain⟨I,H,rfl⟩:=az hp;obtain⟨M,J,rfl⟩:=az hq;have bl:=ae ak;have bc:=ae U;have bt:=N.size;obtain⟨o,PR⟩:=aV (W.setCells (w.heap.size+1) 0 (ax sn.D P' K' T' sn.L));have E:bV W (w.heap.size+1) s.D P K T s.L:=aj.below HN.out N;have bb:Eb (W.there (w.heap.size+1) 0 (ax sn.D P' K' T' sn.L).length):=ae (by rw [bH];exact E.there 0 192 (by omega));have c:=iG.pls E;have z:aI (w.heap.size+1) W o:=by rw [PR.out];exact aI.setCells _ 0 _ (aI.refl _ _)
   have Xx:Eb (bV o (w.heap.size+1) sn.D P' K' T' sn.L):=ae (by rw [PR.out];exact bV.fill ⟨_,E⟩);have bm:=ae (U.no z c);have ar:=(z.block gr (aG S) (by omega)).trans S;obtain⟨⟨z0,z1,z2,aE⟩,zf,zl⟩:=aS ar;have aD:Eb (dI o 0 (.slice I r.path.length H) r.path):=ae (bC hp z c (by decide));have ay:Eb (bF o 0 (.slice M r.keys.length J) r.keys):=ae (bC hq z c (by decide));have sV:Eb (Kv o (w.heap.size+2) (.slice ra ts.length rc) ts):=ae ⟨dL (iI Z.out.1 N) z (by omega),fun t l=>⟨bC ((Z.out.2 t l).1.below N) z c (by decide),bC (bF.below (Z.out.2 t l).2 N) z c (by decide)⟩⟩;have bh:Eb (∃g,aj o w.heap.size 34 192 g):=ae (by obtain⟨g,q⟩:=Y.out;exact⟨g,(q.below N).but z (by omega)⟩)
   have bp:Eb (xn w.heap.size w o):=ae ((y.out.trans (N.mono (by omega))).trans (z.below (by omega) (by omega)));have yw:w.heap.size+2<=o.heap.size:=by have:=z.size;omega
   obtain⟨O,vT⟩:=ai (r.path.length);obtain⟨Q,CE⟩:=ai (r.keys.length);rw [vT.out]at z1 aD;rw [CE.out]at aE ay;have aL:ts.length<=1000000:=by have:=pq.out;omega
   have br:=ae G.out;clear ak U N hp hq S c z E ar aa;go_wp2_with (first
    |refine Pe rfl 34 (.tmp 8) rfl gn 0 rfl (ax sn.D P' K' T' sn.L) _ bl.out.all GM rfl (by rw [bH];exact fD) ?_
    |refine aX rfl 34 (.tmp 5) (.tmp 30) rfl (w.heap.size+1) 0 (ax sn.D P' K' T' sn.L) rfl rfl bb.out (by rw [bH];exact fD) bc.out.one PR.out ?_
    |(at_builtin;refine Kt rfl (.tmp 31) (.tmp 33) rfl (w.heap.size+2) (.slice ra ts.length rc) ts ⟨.slice I O H,.slice M Q J,r⟩ I M O H Q J rfl rfl (by rw [br.out];rfl) sV.out.1 yw rfl aL ?_;intro v7 w7 kK JW;obtain⟨a7,c7,rfl⟩:=az kK;have rV:=ae kK;have u:=ae JW;obtain⟨n7,CP⟩:=ai ((ts++ [(⟨.slice I O H,.slice M Q J,r⟩:D6)]).length);rw [CP.out];clear kK JW))
   have f:xn o.heap.size o (o.alloc (.cells #[.int .i64 r.code,.slice I O H,.int .i64 r.cost,.slice M Q J] 40)):=(oP _ _).alloc (oC _) _;have F:=ae (Tf sV.out.1 (.cells #[.int .i64 r.code,.slice I O H,.int .i64 r.cost,.slice M Q J] 40));have an:=Jj F.out;have A:∀i,i<w.heap.size+2->w7.heap[i]? =o.heap[i]? :=fun i X=>(u.out.block i (Qe (show i<o.heap.size by omega) f.size) (fun q=>by have:=(an i q.symm).1;omega)).trans (f.block i (by omega));go_roundw
   case rel=>
    refine⟨k+1,_,ts++ [⟨.slice I O H,.slice M Q J,r⟩],P',K',T',rfl,by go_num,by omega,ae ⟨?_,fun t l=> ?_⟩,ae ?_,ae ?_,ae ?_,ae ?_,ae ?_,ae ?_⟩
    ·have h1:=rV.out;rw [CP.out]at h1⊢;exact h1
    ·rcases List.mem_append.1 l with l|l
     ·obtain⟨q1,q2⟩:=sV.out.2 t l;exact⟨dQ F.out u.out (q1.below f) (by decide),dQ F.out u.out (bF.below q2 f) (by decide)⟩
     ·have l:t=⟨.slice I O H,.slice M Q J,r⟩:=by simpa using l
      subst l;exact⟨dQ F.out u.out (aD.out.below f) (by decide),dQ F.out u.out (bF.below ay.out f) (by decide)⟩
    ·rw [bk.out,<-MM.out,aab];rfl
    ·rw [yT.out];exact(A _ (by omega)).trans Xx.out
    ·rw [yT.out];have V:=bm.out.below f;refine⟨fun i X=>dQ F.out u.out (V.1 i X) (by decide),fun i X=>dQ F.out u.out (V.2.1 i X) (by decide),fun i X=> ?_⟩;obtain⟨hs,t1,t2,t3⟩:=V.2.2 i X;refine⟨hs,dQ F.out u.out t1 (by decide),t2,fun j hj=> ?_⟩;obtain⟨q1,q2,q3,q4,q5⟩:=t3 j hj;exact⟨q1,q2,q3,dQ F.out u.out q4 (by decide),q5⟩
    ·obtain⟨g,q⟩:=bh.out;exact⟨g,(A _ (by omega)).trans q⟩
    ·have a8:=f.mono (show w.heap.size<=o.heap.size by omega);exact(bp.out.trans a8).trans ⟨u.out.os,u.out.tape,u.out.output,u.out.size,fun i X=>u.out.block i (Qe (show i<o.heap.size by omega) f.size) (fun q=>by have:=(an i q.symm).1;omega)⟩
    ·exact BG (BG yw f.size) u.out.size
   case measure=>simp [Tq];omega
  ·obtain rfl:k=al:=by omega
   have bg:Eb (xs.take k=xs):=ae (by rw [<-lF.out];exact Xh);rw [bg.out]at MM HN Tj;rw [G.out];go_wp2_with fail;rename∀(a:Uz) (w:qL),OE _ OI _ a w->_=>aR
   refine XX (B:=w.heap.size+1) (R:=w.heap.size) (v:= .slice ra nr rc) rfl rfl rfl rfl (by omega) HN.out Tj.out.one Y.out ?_ _ (by kernel_rfl);intro a' W' hd e2 e3 e4 hp hb;refine aR _ W' ?_;refine SQ ?_;obtain⟨g,hg⟩:=Y.out;have c:=iG.pls hg;have ad:W'.ownsRow w.heap.size 40 4 (.slice ra nr rc) ts.length (cellsRp ts):=by
    have h1:=World.dh (dL Z.out.1 hb (by omega)) (show w.heap.size<=w.heap.size+2 by omega);rw [G.out]at h1⊢;exact h1
   show bodyPost xx OG _ .ret _ W';exact IA (wK e2 e3 e4 hp) hd ⟨_,ts,_,_,_,rfl,⟨ad,fun t l=>⟨bC (Z.out.2 t l).1 hb c (by decide),bC (Z.out.2 t l).2 hb c (by decide)⟩⟩,MM.out,Tj.out.no hb c,y.out.trans (hb.below (oC _) y.out.size)⟩
def cellsAc:List Pl.Ac->List xh
 | []=> []
 |x::r=>kL x++cellsAc r
theorem nY(x:Pl.Ac):(kL x).length=9:=rfl
theorem rM:∀xs:List Pl.Ac,(cellsAc xs).length=xs.length*9
 | []=>rfl
 |x::r=>by simp [cellsAc,nY,rM r];omega
theorem PD(x:Pl.Ac):∀u∈kL x,u.oneCell'=true:=by
 intro u hu;unfold kL at hu;simp at hu;rcases hu with rfl|rfl|rfl|rfl|rfl|rfl|rfl|rfl|rfl<;>rfl
theorem EG:∀xs:List Pl.Ac,∀u∈cellsAc xs,u.oneCell'=true
 | [],u,hu=>by cases hu
 |x::r,u,hu=>by
  rcases List.mem_append.1 hu with hu|hu
  ·exact PD x u hu
  ·exact EG r u hu
theorem xy:∀(xs:List Pl.Ac) (i k:Nat),i<xs.length->k<9->(cellsAc xs)[i*9+k]? =(kL (Pl.ac xs i))[k]?
 | [],i,k,h,_=>by simp at h
 |x::r,0,k,_,a=>by
  show(kL x++cellsAc r)[0*9+k]? =_;rw [aac,aad,List.getElem?_append_left (by rw [nY];exact a)];rfl
 |x::r,i+1,k,h,a=>by
  show(kL x++cellsAc r)[(i+1)*9+k]? =_;rw [List.getElem?_append_right (by rw [nY];omega),nY,show(i+1)*9+k-9=i*9+k by omega,xy r i k (by simpa using h) a];rfl
def zC(w:qL)(base:Nat)(v:xh)(xs:List Pl.Ac):Prop:=w.ownsRow base 51 9 v xs.length (cellsAc xs)
theorem abn:(Tryz.prog.info? 51).map (fun i=>(i.zero,i.size,i.bytes))=some (some (.agg #[.int .i64 0,.int .i64 0,.int .i64 0,.int .i64 0,.int .i64 0,.int .i64 0,.int .i64 0,.string ⟨#[]⟩,.string ⟨#[]⟩]),9,88):=by kernel_rfl
theorem zC.nil(w:qL)(base:Nat):zC w base (.slice none 0 0) []:=Wq _ _ _ _
theorem zC.ai6{w:qL}{base:Nat}{v:xh}{xs:List Pl.Ac}(h:zC w base v xs)(c:∀x∈xs,Jn x):∃a cap,v= .slice a xs.length cap/\oK w a xs.length cap xs/\(a=none->xs.length=0)/\∀x,a=some x->base<=x.block:=by
 obtain⟨_,⟨h,n⟩|⟨g,cap,cur,rfl,m,hh,f,hm,o,d⟩⟩:=h
 ·have e:xs= []:=List.length_eq_zero_iff.1 n;subst e;exact⟨none,0,h,⟨rfl,oC _,by unfold Iy;omega,c,.inl rfl⟩,fun _=>rfl,by simp⟩
 ·refine⟨_,cap,rfl,⟨rfl,f,hm,c,.inr ⟨g,0,rfl,aG hh,fun i l k v b=> ?_⟩⟩,fun e=>(by cases e),by rintro x ⟨⟩;exact m⟩;have j:k<9:=by have:=(List.getElem?_eq_some_iff.1 b).1;rwa [nY]at this
  rw [<-xy xs i k l j,<-d,PW]at b;split at b
  ·rw [O6]at b;simp [UX,hh,b]
  ·cases b
theorem Yo{w:qL}{base n:Nat}{v:xh}{a:List xh}{xs:List Pl.Ac}(h:w.ownsRow base 51 9 v n a)(e:a=cellsAc xs):zC w base v xs:=by
 subst e;have b:n=xs.length:=by
  have:=h.1;rw [rM]at this;omega
 subst b;exact h
def QA(ts:List D6)(i:Nat):D6:=ts.getD i ⟨qh,qh,Pl.Rp.no 0⟩
theorem nU:∀(ts:List D6) (i k:Nat),i<ts.length->k<4->(cellsRp ts)[i*4+k]? =([.int .i64 (QA ts i).r.code,(QA ts i).vp,.int .i64 (QA ts i).r.cost,(QA ts i).vk]:List xh)[k]?
 | [],i,k,h,_=>by simp at h
 |t::r,0,k,_,a=>by
  rw [aac,aad];show(aae .i64 t.r.code::t.vp:: .int .i64 t.r.cost::t.vk::cellsRp r)[k]? =([.int .i64 t.r.code,t.vp,.int .i64 t.r.cost,t.vk]:List xh)[k]?;match k,a with
  |0,_=>rfl
  |1,_=>rfl
  |2,_=>rfl
  |3,_=>rfl
 |t::r,i+1,k,h,a=>by
  show(aae .i64 t.r.code::t.vp:: .int .i64 t.r.cost::t.vk::cellsRp r)[(i+1)*4+k]? =_;rw [show(i+1)*4+k=(i*4+k)+4 by omega];simp only [List.getElem?_cons_succ];exact nU r i k (by simpa using h) a
def ZZ(w:qL)(g:Nat)(ts:List D6):Prop:=∀i,i<ts.length->w.cell? ⟨g,i*4,none⟩=some (.int .i64 (QA ts i).r.code)/\w.cell? ⟨g,i*4+1,none⟩=some (QA ts i).vp/\w.cell? ⟨g,i*4+2,none⟩=some (.int .i64 (QA ts i).r.cost)/\w.cell? ⟨g,i*4+3,none⟩=some (QA ts i).vk
theorem TQ{ts:List D6}{i:Nat}(h:i<ts.length):QA ts i∈ts:=by
 unfold QA;rw [xk,UQ h];exact List.getElem_mem h
theorem mD.afl{w:qL}{base:Nat}{v:xh}{ts:List D6}(h:mD w base v ts):∃a cap,v= .slice a ts.length cap/\ts.length<=cap/\cap<=Iy/\(ts.length=0\/∃g,a=some ⟨g,0,none⟩/\base<=g/\g<w.heap.size/\ZZ w g ts):=by
 obtain⟨⟨hl,⟨rfl,c⟩|⟨g,cap,cur,rfl,k,hh,c,hm,o,f⟩⟩,_⟩:=h
 ·exact⟨none,0,by rw [c],by omega,by unfold Iy;omega,.inl c⟩
 ·refine⟨_,cap,rfl,c,hm,.inr ⟨g,rfl,k,aG hh,fun i d=> ?_⟩⟩;have hc:∀j u,(cellsRp ts)[j]? =some u->w.cell? ⟨g,j,none⟩=some u:=by
   intro j u b;rw [<-f]at b;have e:cur[j]? =some u:=by
    rw [PW]at b;split at b
    ·rw [<-O6];exact b
    ·cases b
   simp [UX,hh,e]
  have h0:=nU ts i 0 d (by omega);have n:=nU ts i 1 d (by omega);have m:=nU ts i 2 d (by omega);have l:=nU ts i 3 d (by omega);exact⟨hc _ _ h0,hc _ _ n,hc _ _ m,hc _ _ l⟩
def PG(w:qL)(g:Nat)(A:Nat->Option Addr)(C:Nat->Nat)(K:Nat->List aK):Prop:=∀i,i<12->w.cell? ⟨g,i,none⟩=some (.slice (A i) (K i).length (C i))/\bI w (A i) (K i).length (C i) (K i)/\(A i=none->C i=0)
theorem MH.adg{w:qL}{base:Nat}{v:xh}{us:List xh}{K:Nat->List aK}(h:MH w base v us)(f:us.length=12)(hu:∀i,i<12->Own w base (us.getD i qh) (K i))(k:∀i,∀e∈K i,e.ok):
  ∃g cap A C,v= .slice (some ⟨g,0,none⟩) 12 cap/\base<=g/\g<w.heap.size/\12<=cap/\cap<=Iy/\PG w g A C K:=by
 have o:∀i,∃p:Option Addr×Nat,i<12->us.getD i qh= .slice p.1 (K i).length p.2/\bI w p.1 (K i).length p.2 (K i)/\(p.1=none->p.2=0):=by
  intro i;by_cases j:i<12
  ·obtain⟨a,cap,e,m,b,_⟩:=(hu i j).shape (k i);exact⟨(a,cap),fun _=>⟨e,m,b⟩⟩
  ·exact⟨(none,0),fun h=>absurd h j⟩
 obtain⟨F,hF⟩:=Classical.axiomOfChoice o;obtain⟨hl,⟨rfl,b⟩|⟨g,cap,cur,rfl,q,hh,b,hm,o,n⟩⟩:=h
 ·omega
 ·rw [f]at b;refine⟨g,cap,fun i=>(F i).1,fun i=>(F i).2,by rw [f],q,aG hh,b,hm,fun i j=> ?_⟩;obtain⟨e,m,l⟩:=hF i j;refine⟨?_,m,l⟩;rw [<-e];have d:us[i]? =some (us.getD i qh):=by rw [xk,UQ (by omega)];rfl
  rw [<-n]at d;have c:cur[i]? =some ((cur.toList.take (us.length*1)).getD i qh):=by
   rw [PW]at d;split at d
   ·rw [<-O6];exact d
   ·cases d
  rw [n]at c;simp [UX,hh,c]
theorem ab3.read{d w:qL}{xs:List Pl.Ac}{j f:xh}(h:ab3 d xs w j f):
  ∃ts c b gs cs A C,j= .slice c xs.length b/\f= .slice (some ⟨gs,0,none⟩) 12 cs/\ts.map D6.r=tH Pl.Nt.new xs/\ts.length=xs.length/\xs.length<=b/\b<=Iy/\12<=cs/\cs<=Iy/\gs<w.heap.size/\
   (xs.length=0\/∃g,c=some ⟨g,0,none⟩/\g<w.heap.size/\ZZ w g ts)/\(∀t∈ts,dI w d.heap.size t.vp t.r.path/\bF w d.heap.size t.vk t.r.keys)/\PG w gs A C (Pl.runN Pl.Nt.new xs).K:=by
 obtain⟨⟨ts,m,a⟩,us,hu,e,p⟩:=h;have hl:ts.length=xs.length:=by have:=congrArg VB a;rwa [Tn,wI]at this
 obtain⟨c,b,rfl,l,o,k⟩:=m.afl;obtain⟨gs,cs,A,C,rfl,_,s2,s3,n,s5⟩:=hu.adg e p fun i=>Pl.Good.ok ((bK _).1 ((fZ.new.run xs).K i));rw [hl]at l k;refine⟨ts,c,b,gs,cs,A,C,by rw [hl],rfl,a,hl,l,o,s3,n,s2,?_,m.2,s5⟩;rcases k with h|⟨g,u,_,s,q⟩
 ·exact .inl h
 ·exact .inr ⟨g,u,s,q⟩
theorem acC(ts:List D6)(i:Nat):(QA ts i).r=(ts.map D6.r).getD i (Pl.Rp.no 0):=by
 unfold QA;rw [xk,xk,List.getElem?_map]
 cases ts[i]? <;>rfl
end Go.Proofs.YtjjelkdajdeikaaGreatDoor
