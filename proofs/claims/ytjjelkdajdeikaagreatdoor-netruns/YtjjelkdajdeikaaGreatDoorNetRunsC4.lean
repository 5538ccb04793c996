/-
  Facts put together.
-/
import Derived.Test.YtjjelkdajdeikaaGreatDoorNetRunsC3
open Nat renaming le_refl→oC,zero_le→Jj,lt_succ_self→Xc,lt_or_ge→aab
open Go.RowKit.Below renaming refl→oP,heap_setCell→BG,drew→Tn,heap_alloc→Wq
open Go.Proofs.Tryz renaming prog→qh,zeroCells210→qL,underlying206→Eb,underlying31→Pe,underlying210→UQ
open Go renaming World→rU,Value→xn,wpList_load_mid→Ah,maxLen→BD,Calls→GM,bodyPost_ret→GX,bodyPost_end→OO,TypeId→Rw,results_none→VB,wpList_append_own→X6,Operand→Z5
open Go.RowKit renaming intOf→xh,Hid→xk,Below→xx
open Go.World renaming cell?_of_block→Ee,setCell→LM,ownsRow_lit→O6,frozen?_of_block→Ru,ownsRow_nil→Uz,cell?→Zf
open Go.World.ownsRow renaming lt→Iy,alloc→Rq
open List renaming length_append→IA,drop_eq_nil_of_le→Jk,length_range→OE,length_map→OI,replicate→OM,append_assoc→PW,cons_append→Qd,take_append_drop→Rz,singleton_append→SN,getElem?_toArray→SQ,range→UX
open Go.Exit renaming inBlock→MJ
open Int renaming toNat_natCast→OG,mul_comm→aac
open Go.Instr renaming index→Qe
open Bool renaming and_eq_true→Qi,eq_iff_iff→Xh
open Go.Value renaming bool→Tf,ownBlock→WZ
open Array renaming getElem_ofFn→Tq,ofFn→aad
open Option.some renaming injEq→aae
set_option maxHeartbeats 8000000
namespace Go.Proofs.YtjjelkdajdeikaaGreatDoor
open Pl
open Go.RowKit
set_option maxRecDepth 20000
theorem yF{w:rU}{b:Nat}{cs:Array xn}{T:Rw}{z:Nat×Nat}{o:Nat}{v:xn}(h:w.heap[b]? =some (.cells cs T z)):
  (w.setCell ⟨b,o,none⟩ v).heap[b]? =some (.cells (cs.setIfInBounds o v) T z):=by
 simp only [LM,Array.getElem?_modify,h];simp
theorem LZ{w:rU}{b:Nat}{c0 c1 c2 a:xn}{T:Rw}(h:w.heap[b]? =some (.cells #[c0,c1,c2,a] T (0,0))):
  (w.cell? ⟨b,0,none⟩=some c0/\w.cell? ⟨b,1,none⟩=some c1/\w.cell? ⟨b,2,none⟩=some c2/\w.cell? ⟨b,3,none⟩=some a)/\
  (w.frozen? ⟨b,0,none⟩=false/\w.frozen? ⟨b,1,none⟩=false/\w.frozen? ⟨b,2,none⟩=false/\w.frozen? ⟨b,3,none⟩=false):=by
 refine⟨⟨?_,?_,?_,?_⟩,⟨?_,?_,?_,?_⟩⟩
 all_goals simp [Zf,World.frozen?,h]
theorem lY.keep{w w':rU}{B R:Nat}{c:Int}{rs:List UInt8}(h:lY w B R c rs)(s:w.heap.size<=w'.heap.size)(g:∀k,k<w.heap.size->(k<B\/k=R)->w'.heap[k]? =w.heap[k]?):lY w' B R c rs:=by
 obtain⟨a,len,cap,h0,r,f0,f1,p,l,f,q,o,hc⟩:=h;have d:=g R o (.inr rfl);refine⟨a,len,cap,(Ee (w:=w) d).trans h0,(Ee (w:=w) d).trans r,(Ru (w:=w) d).trans f0,(Ru (w:=w) d).trans f1,?_,l,f,q,by omega,hc⟩;obtain⟨i1,i2,i3,i5⟩:=p;refine⟨i1,i2,i3,?_⟩;by_cases he:rs= []
 ·exact .inl he
 ·rcases i5 with i5|⟨b,off,rfl,n,i⟩
  ·exact .inl i5
  ·have e:=f _ rfl he;exact .inr ⟨b,off,rfl,by omega,fun j u m=>(Ee (w:=w) (g b n (.inl e))).trans (i j u m)⟩
theorem lY.below{w w':rU}{B R:Nat}{c:Int}{rs:List UInt8}(h:lY w B R c rs)(k:xx w.heap.size w w'):lY w' B R c rs:=
 h.keep k.size (fun i a _=>k.block i a)
theorem lY.lt{w:rU}{B R:Nat}{c:Int}{rs:List UInt8}(h:lY w B R c rs):R<w.heap.size/\B<=R:=by
 obtain⟨_,_,_,_,_,_,_,_,_,_,b,a,_⟩:=h;exact⟨a,b⟩
theorem lY.set{w:rU}{B R b o:Nat}{c:Int}{rs:List UInt8}{v:xn}(h:lY w B R c rs)(d:R<b):lY (w.setCell ⟨b,o,none⟩ v) B R c rs:=by
 have hl:=h.lt;exact h.keep (by simp [LM]) (fun k _ a=>BG _ _ _ _ (by simp;omega))
theorem eG.qX{R b o:Nat}{a w:rU}{v:xn}(h:eG R a w)(e:a.heap.size<=b):eG R a (w.setCell ⟨b,o,none⟩ v):=
 ⟨h.os,h.tape,h.output,by have:=h.size;simpa [LM]using this,fun k d c=>(BG _ _ _ _ (by simp;omega)).trans (h.block k d c)⟩
theorem eG.blk{R b:Nat}{w w':rU}{o:Obj}(h:eG R w w')(a:w.heap[b]? =some o)(c:R<b):w'.heap[b]? =some o:=
 (h.block b (lt_of_block a) (fun e=>by cases e;omega)).trans a
theorem V8(B R:Nat)(c:Int)(rs:List UInt8)(w:rU)(h:lY w B R c rs):
  GM qh 257 #[.pointer (some ⟨R,0,none⟩)] w fun e w'=>
   e= .returned (.agg #[.string (jU c rs).1.key,.int .i64 (jU c rs).1.gz,.int .i64 (jU c rs).1.org,.string (jU c rs).1.val])/\lY w' B R (jU c rs).2.1 (jU c rs).2.2/\eG R w w':=by
 have HD:=ae h;obtain⟨aa,ad⟩:=h.lt;clear h;obtain⟨s1,c1,Q,H1⟩:∃a b d,xk (kE c rs=(a,b,d)):=⟨_,_,_,rfl⟩
 obtain⟨v2,c2,P,Y⟩:∃a b d,xk (gz c1 Q=(a,b,d)):=⟨_,_,_,rfl⟩
 obtain⟨F,U,O,X⟩:∃a b d,xk (Pl.num c2 P=(a,b,d)):=⟨_,_,_,rfl⟩
 obtain⟨s4,c4,r4,W⟩:∃a b d,xk (kE U O=(a,b,d)):=⟨_,_,_,rfl⟩
 have V:xk (jU c rs=(⟨s1,v2,F,s4⟩,c4,r4)):=by
  show _=_;unfold jU;rw [H1.out];simp only;rw [Y.out];simp only;rw [X.out];simp only;rw [W.out]
 have D:xx w.heap.size w ((w.alloc (.cells #[.string ⟨#[]⟩,.int .i64 0,.int .i64 0,.string ⟨#[]⟩] 55)).alloc (.cells #[.string ⟨#[]⟩,.int .i64 0,.int .i64 0,.string ⟨#[]⟩] 55)):=((oP _ _).alloc (oC _) _).alloc (by simp) _;have N:=ae D;have T:((w.alloc (.cells #[.string ⟨#[]⟩,.int .i64 0,.int .i64 0,.string ⟨#[]⟩] 55)).alloc (.cells #[.string ⟨#[]⟩,.int .i64 0,.int .i64 0,.string ⟨#[]⟩] 55)).heap[w.heap.size]? =some (.cells #[.string ⟨#[]⟩,.int .i64 0,.int .i64 0,.string ⟨#[]⟩] 55 (0,0)):=by
  rw [Wq _ _ _ (by simp)];exact wY w _
 have S:((w.alloc (.cells #[.string ⟨#[]⟩,.int .i64 0,.int .i64 0,.string ⟨#[]⟩] 55)).alloc (.cells #[.string ⟨#[]⟩,.int .i64 0,.int .i64 0,.string ⟨#[]⟩] 55)).heap[w.heap.size+1]? =some (.cells #[.string ⟨#[]⟩,.int .i64 0,.int .i64 0,.string ⟨#[]⟩] 55 (0,0)):=by
  have:=wY (w.alloc (.cells #[.string ⟨#[]⟩,.int .i64 0,.int .i64 0,.string ⟨#[]⟩] 55)) (.cells #[.string ⟨#[]⟩,.int .i64 0,.int .i64 0,.string ⟨#[]⟩] 55);simpa using this
 have E0:=ae T;have E1:=ae S;clear D T S;go_enter Tryz.func257,Tryz.ntmps257;go_wp2_with fail;have m:=Ns B R c rs _ (HD.out.below N.out);rw [H1.out]at m;refine m.mono ?_;rintro e w1 ⟨rfl,C,i⟩;have I:=i.size;simp at I;have M:=ae C;have a0:=i.blk E0.out (by omega);have a1:=i.blk E1.out (by omega);obtain⟨⟨x,u,t,s⟩,⟨r,q,p,n⟩⟩:=LZ a1;have A0:=ae a0;have A1:=ae a1;clear a0 a1 C m;go_wp2_with fail;have l:=Nj B R c1 Q _ (M.out.set (b:=w.heap.size+1) (o:=0) (v:= .string s1) (by omega));rw [Y.out]at l;refine l.mono ?_;rintro e w2 ⟨rfl,A,g⟩;have H:=g.size;simp [LM]at H;have L:=ae A;have b0:=g.blk ((BG _ _ _ _ (by simp)).trans A0.out) (by omega);have b1:=g.blk (yF A1.out) (by omega);simp at b1;clear x u t s r q p n A l;obtain⟨⟨x,u,t,s⟩,⟨r,q,p,n⟩⟩:=LZ b1
 have B0:=ae b0;have B1:=ae b1;clear b0 b1;go_wp2_with fail;have k:=uO B R c2 P _ (L.out.set (b:=w.heap.size+1) (o:=1) (v:= .int .i64 v2) (by omega));rw [X.out]at k;refine k.mono ?_;rintro e w3 ⟨rfl,z,f⟩;have G:=f.size;simp [LM]at G;have K:=ae z;have d0:=f.blk ((BG _ _ _ _ (by simp)).trans B0.out) (by omega);have d1:=f.blk (yF B1.out) (by omega);simp at d1;clear x u t s r q p n z k;obtain⟨⟨x,u,t,s⟩,⟨r,q,p,n⟩⟩:=LZ d1;have D0:=ae d0;have D1:=ae d1;clear d0 d1;go_wp2_with fail;have j:=Ns B R U O _ (K.out.set (b:=w.heap.size+1) (o:=2) (v:= .int .i64 F) (by omega));rw [W.out]at j;refine j.mono ?_;rintro e w4 ⟨rfl,y,E⟩;have yw:=E.size;simp [LM]at yw;have J:=ae y;have g0:=E.blk ((BG _ _ _ _ (by simp)).trans D0.out) (by omega)
 have g1:=E.blk (yF D1.out) (by omega);simp at g1;clear x u t s r q p n y j;obtain⟨⟨x,u,t,s⟩,⟨r,q,p,n⟩⟩:=LZ g1;obtain⟨⟨z0,Z,z2,z3⟩,⟨t0,t1,t2,t3⟩⟩:=LZ g0;clear g0 g1;go_wp2_with fail;have o1:=(eG.tN (R:=R) N.out).trans i;have o2:=(o1.qX (b:=w.heap.size+1) (o:=0) (v:= .string s1) (by omega)).trans g;have o3:=(o2.qX (b:=w.heap.size+1) (o:=1) (v:= .int .i64 v2) (by omega)).trans f;have o4:=(o3.qX (b:=w.heap.size+1) (o:=2) (v:= .int .i64 F) (by omega)).trans E;refine GX (v:= .agg #[.string (jU c rs).1.key,.int .i64 (jU c rs).1.gz,.int .i64 (jU c rs).1.org,.string (jU c rs).1.val]) (by rw [V.out];simp [results,Tryz.results257,go_sem,z0,Z,z2,z3]) rfl ⟨rfl,?_,?_⟩
 ·rw [V.out];exact((((J.out.set (by omega)).set (by omega)).set (by omega)).set (by omega)).set (by omega)
 ·exact((((o4.qX (by omega)).qX (by omega)).qX (by omega)).qX (by omega)).qX (by omega)
theorem adn{w:rU}{a:Option Addr}{len cap:Nat}{d:List UInt8}(h:dF w a len cap d)(f:a=none->cap=0):
  lY (w.alloc (.cells #[.slice a len cap,.int .i64 0] 305)) w.heap.size w.heap.size 0 d:=by
 refine⟨a,len,cap,by simp,by simp,by simp,by simp,h.below ((oP _ _).alloc (oC _) _),f,?_,oC _,by simp,fun h=>absurd rfl h⟩;intro x e c;rcases h.2.2.2 with h|⟨b,off,rfl,g,_⟩
 ·exact absurd h c
 ·cases e;exact g
theorem Own.only{w w':rU}{R base:Nat}{v:xn}{es:List aK}(h:Own w base v es)(k:eG R w w')(c:R<base):Own w' base v es:=by
 refine Own.kept h k ?_;have a:=Iy h
 cases b:v.ownBlock with
 |none=>exact .inl rfl
 |some g=>exact .inr (fun e=>by cases e;have:=(a _ b).1;omega)
theorem Po{w:rU}{X:Obj}{ops:Array Oper}{rest:List Oper}{o:Oper}{a:Act}{Q:Exit->Act->rU->Prop}(c:o.guard=none)(s x:Z5)
  (j:o.op= .call {callee:= .builtin .append,args:=#[s,x],argTypes:=#[28,28]})
  (base:Nat)(v:xn)(es:List aK)(e:aK)(i:a.eval s=v)(b:Own w base v es)(d:base<=w.heap.size)(g:a.eval x= .slice (some ⟨w.heap.size+1,0,none⟩) 1 1)(k:(es.length+1)*48<=140737488355328)
  (h:∀f w',Own w' base f (es++ [e])->xx base (w.alloc X) w'->wpList qh ops Q rest (a.put o.dst f) w'):
  wpList qh ops Q (o::rest) a ((w.alloc X).alloc (.cells #[.string e.key,.int .i64 e.gz,.int .i64 e.org,.string e.val] 55)):=
 qI (w:=w.alloc X) c s x j base v es e i (b.below ((oP _ _).alloc (oC _) X)) (by simp;omega) (by rw [g];simp) k h
theorem RD{m:Nat}{l:List aK}{c:Int}{r:List UInt8}(h:(jU c r).2.1=0):Pl.entsN (m+1) l c r=Pl.entsN m (l++ [(jU c r).1]) 0 (jU c r).2.2:=by
 rw [Pl.entsN,af h,h]
theorem V7{m:Nat}{l:List aK}{c:Int}{r:List UInt8}(h:¬(jU c r).2.1=0):Pl.entsN (m+1) l c r=([],(jU c r).2.1,[]):=by
 rw [Pl.entsN,ag h]
theorem EN(a:Option Addr)(len cap:Nat)(j:List UInt8)(w:rU)(h:dF w a len cap j)(hn:a=none->cap=0):
  GM qh 217 #[.slice a len cap] w fun e w'=>∃v,e= .returned (.tuple #[v,.int .i64 (vF j).2])/\Own w' w.heap.size v (vF j).1/\xx w.heap.size w w':=by
 have HD:=ae (adn h hn);have P:xx w.heap.size w (w.alloc (.cells #[.slice a len cap,.int .i64 0] 305)):=(oP _ _).alloc (oC _) _;have yL:=ae P;have B:=iw 0 j;have Y:=ae (uO _ _ _ _ _ HD.out);have HL:=ae (Bj 0 j);have rQ:xk (vF j=vF j):=rfl;unfold vF at rQ;clear h hn P;obtain⟨n,c1,r,HE⟩:∃n c1 r,xk (Pl.num 0 j=(n,c1,r)):=⟨_,_,_,rfl⟩
 have W:xk (vF j=if c1=0 then(if(Pl.entsN n.toNat [] c1 r).2.1=0 then(if(Pl.entsN n.toNat [] c1 r).2.2= []then((Pl.entsN n.toNat [] c1 r).1,0)else([],4))else([],(Pl.entsN n.toNat [] c1 r).2.1))else([],c1)):=by
  show _=_;unfold vF;rw [HE.out]
 clear rQ;rw [HE.out]at B Y HL;simp only at B Y;obtain⟨ak,aE⟩:=B;obtain⟨m,rfl⟩:=Int.eq_ofNat_of_zero_le ak;simp only [OG]at W;go_enter Tryz.func217,Tryz.ntmps217;go_wp2_with fail;refine Y.out.mono ?_;rintro e w1 ⟨rfl,M,N⟩;have aa:=N.size;simp at aa;have aw:=ae M;clear M;go_wp2_with fail;go_loopw [5,10] (fun vl i wr=>∃(k f:Nat) (l:List aK) (c2:Int) (A:List UInt8) (u:xn),u=vl/\f+k=m/\i= .int .i64 k/\xk (Own wr (w.heap.size+1) u l)/\l.length<=k/\xk (lY wr w.heap.size w.heap.size c2 A)/\xk (Pl.entsN m [] c1 r=Pl.entsN f l c2 A)/\xk (c1=0->c2=0)/\xk (¬c1=0->c2=c1/\m=0/\l= [])/\xk (eG w.heap.size (w.alloc (.cells #[.slice a len cap,.int .i64 0] 305)) wr)) (fun _ i _=>m-(xh i).toNat)
 case atStart=>exact⟨0,m,[],c1,r,_,rfl,rfl,rfl,Own.nil _ _,oC _,aw,rfl,fun h=>h,fun h=>⟨rfl,by have:=(HL.out h).2;simp at this;omega,rfl⟩,N⟩
 case round=>
  obtain⟨k,f,l,c2,A,u,rfl,aR,rfl,HO,aM,HR,UR,Na,y,X⟩:=hrel;have hz:=X.out.size;simp at hz;by_cases aL:k<m
  ·obtain⟨g,rfl⟩:∃g,f=g+1:=⟨f-1,by omega⟩
   have b:c1=0:=by
    by_cases h:c1=0
    ·exact h
    ·have:=(y.out h).2.1;omega
   subst b;have s:=Na.out rfl;subst s;obtain⟨x,F,K,U⟩:∃x F K,xk (jU 0 A=(x,F,K)):=⟨_,_,_,rfl⟩
   have p:=V8 _ _ _ _ _ HR.out;rw [U.out]at p;have E:=ae p;clear p;obtain⟨J,H,I,G⟩:=x;simp only at E;by_cases q:F=0
   ·subst q;have ar:xk (Pl.entsN m [] 0 r=Pl.entsN g (l++ [⟨J,H,I,G⟩]) 0 K):=by
     show _=_;rw [UR.out,RD (by rw [U.out]),U.out]
    go_wp2_with fail;refine E.out.mono ?_;rintro e w2 ⟨rfl,o,d⟩;have Z:=d.size;have bb:=ae o;have yR:=ae (HO.out.only d (by omega));have ad:=o.below ((oP _ _).alloc (oC _) (.cells #[.string J,.int .i64 H,.int .i64 I,.string G] 55));obtain⟨a3,V,F,h0,h1,f0,f1,_,_,_,_,_,_⟩:=o;go_wp2_with (at_builtin;refine Po rfl (.tmp 18) (.tmp 20) rfl (w.heap.size+1) u l ⟨J,H,I,G⟩ rfl yR.out (by omega) rfl (by omega) ?_;intro v5 w5 iW c);have av:xk (lY w5 w.heap.size w.heap.size 0 K):=ad.keep c.size (fun i _ hi=>c.block i (by omega));have aq:xk (eG w.heap.size (w.alloc (.cells #[.slice a len cap,.int .i64 0] 305)) w5):=by
     have o2:=X.out.trans d;have L:=o2.trans (eG.tN (R:=w.heap.size) ((oP _ _).alloc (oC _) (.cells #[.string J,.int .i64 H,.int .i64 I,.string G] 55)));exact⟨c.os.trans L.os,c.tape.trans L.tape,c.output.trans L.output,Nat.le_trans L.size c.size,fun i hi C=>(c.block i (by simp at hi;omega)).trans (L.block i hi C)⟩
    clear c;go_wp2_with fail;go_roundw
    case rel=>exact⟨k+1,g,l++ [(⟨J,H,I,G⟩:aK)],0,K,_,rfl,by omega,by go_num,iW,by simp;omega,av,ar,fun _=>rfl,fun h=>by simp at h,aq⟩
    case measure=>simp [xh];omega
   ·have z:xk (vF j=([],F)):=by
     show _=_;rw [W.out,af rfl,UR.out,V7 (by rw [U.out];exact q),U.out];simp only;rw [ag q]
    have a6:(F != 0)=true:=by simp [q]
    clear q;go_wp2_with fail;refine E.out.mono ?_;rintro e w2 ⟨rfl,o,d⟩;have Z:=d.size;obtain⟨a3,V,an,h0,h1,f0,f1,_,_,_,_,_,_⟩:=o;have a7:w.heap.size<w2.heap.size:=by omega
    go_wp2_with fail;go_quiet (fail);go_wp2;go_ret2;exact⟨_,by rw [z.out];rfl,by rw [z.out];exact Own.nil _ _,below_drewN ((yL.out.trans ((X.out.trans d).below (oC _) (by simp))).alloc (by omega) _) _⟩
  ·obtain rfl:k=m:=by omega
   obtain rfl:f=0:=by omega
   have T:xk (Pl.entsN k [] c1 r=(l,c2,A)):=UR;have ba:=HR;obtain⟨a3,V,an,h0,h1,f0,f1,S,_,_,_,_,D⟩:=HR.out;have O:=S.1;have Y7:=S.2.2.1;have a8:=S.2.1;unfold BD at Y7;have Q:=(yL.out.trans (X.out.below (oC _) (by simp)))
   by_cases C:V=0
   ·have t:A= []:=List.length_eq_zero_iff.1 (by omega);have z:xk (vF j=(if c2=0 then l else [],c2)):=by
     show _=_;rw [W.out,T.out];simp only;by_cases b:c1=0
     ·have:=Na.out b;rw [af b,af this,af t,this];rfl
     ·have:=y.out b;rw [ag b,this.1,ag b]
    have ay:xk ((if c2=0 then l else [])=l):=by
     show _=_;by_cases b:c1=0
     ·rw [af (Na.out b)]
     ·have:=y.out b;rw [this.2.2];simp
    subst C;clear S D;go_wp2_with fail;go_quiet (fail);go_wp2;go_ret2;exact⟨_,by rw [z.out];rfl,by rw [z.out];simp only;rw [ay.out];exact(HO.out.mono (by omega)),below_drewN Q _⟩
   ·have t:¬A= []:=fun h=>by rw [h]at O;simp at O;omega
    have s:c2=0:=by
     by_cases h:c2=0
     ·exact h
     ·exact absurd (D h) t
    have b:c1=0:=by
     by_cases h:c1=0
     ·exact h
     ·have:=(y.out h).1;omega
    have z:xk (vF j=([],4)):=by
     show _=_;rw [W.out,T.out,af b];simp only;rw [af s,ag t]
    have aD:(0:Int)<(V:Int):=by omega
    clear S D s b;go_wp2_with fail;go_ret2;exact⟨_,by rw [z.out];rfl,by rw [z.out];exact Own.nil _ _,Q⟩
theorem JJ(w:rU)(a b c d:Int)(ha:0<=a/\a<=255)(g:0<=b/\b<=255)(hc:0<=c/\c<=255)(f:0<=d/\d<=255):
  gQ (w.alloc (.cells #[.int .u8 a,.int .u8 b,.int .u8 c,.int .u8 d] 5)) w.heap.size (.slice (some ⟨w.heap.size,0,none⟩) 4 4) [Pl.u8 a,Pl.u8 b,Pl.u8 c,Pl.u8 d]:=by
 have h:=O6 (base:=w.heap.size) (e:=5) (size:=1) w #[.int .u8 a,.int .u8 b,.int .u8 c,.int .u8 d] 4 (oC _) (by unfold BD;omega) rfl;exact uN h (by simp [dH,rY ha.1 ha.2,rY g.1 g.2,rY hc.1 hc.2,rY f.1 f.2])
theorem Du(w:rU)(a:Int)(ha:0<=a/\a<=255):
  gQ (w.alloc (.cells #[.int .u8 a] 5)) w.heap.size (.slice (some ⟨w.heap.size,0,none⟩) 1 1) [Pl.u8 a]:=by
 have h:=O6 (base:=w.heap.size) (e:=5) (size:=1) w #[.int .u8 a] 1 (oC _) (by unfold BD;omega) rfl;exact uN h (by simp [dH,rY ha.1 ha.2])
theorem JK(w:rU)(a b:Int)(ha:0<=a/\a<=255)(c:0<=b/\b<=255):
  gQ (w.alloc (.cells #[.int .u8 a,.int .u8 b] 5)) w.heap.size (.slice (some ⟨w.heap.size,0,none⟩) 2 2) [Pl.u8 a,Pl.u8 b]:=by
 have h:=O6 (base:=w.heap.size) (e:=5) (size:=1) w #[.int .u8 a,.int .u8 b] 2 (oC _) (by unfold BD;omega) rfl;exact uN h (by simp [dH,rY ha.1 ha.2,rY c.1 c.2])
theorem Nw(a:List UInt8)(k:Nat)(x y:Int)(h:k<a.length):Pl.sxy (a.drop k) x y=Pl.sxy (a.drop (k+1)) ((x+((a.getD k 0).toNat:Int))%65521) ((y+(x+((a.getD k 0).toNat:Int))%65521)%65521):=by
 rw [List.drop_eq_getElem_cons h];simp [Pl.sxy,List.getD,h]
theorem NH(a:Option Addr)(len cap:Nat)(d:List UInt8)(w:rU)(h:dF w a len cap d):
  GM qh 92 #[.slice a len cap] w fun e w'=>∃v,e= .returned v/\gQ w' w.heap.size v (mi d)/\xx w.heap.size w w':=by
 obtain⟨hl,hc,hm,f⟩:=h;unfold BD at hm;have A:=ae f;clear f;go_enter Tryz.func92,Tryz.ntmps92;go_wp2;go_loop [3,4,9] (fun p q i=>∃(k:Nat) (x y:Int),k<=len/\i= .int .i64 k/\p= .int .i64 x/\q= .int .i64 y/\0<=x/\x<65521/\0<=y/\y<65521/\xk (Pl.sxy d 1 0=Pl.sxy (d.drop k) x y)) (fun _ _ i=>len-(xh i).toNat)
 case atStart=>exact⟨0,1,0,Jj _,rfl,rfl,rfl,by omega,by omega,by omega,by omega,rfl⟩
 case round=>
  obtain⟨k,x,y,E,rfl,rfl,rfl,s,r,o,n,m⟩:=hrel;by_cases t:k<len
  ·obtain⟨b,off,rfl,F,g⟩:∃b off,a=some ⟨b,off,none⟩/\b<w.heap.size/\∀j u,(dH d)[j]? =some u->w.cell? ⟨b,off+j,none⟩=some u:=by
    rcases A.out with h|h
    ·rw [h]at hl;simp at hl;omega
    ·exact h
   have D:=g k _ (xB (by omega));clear g;have B:=ae (Nw d k x y (by omega));have z:=o8 (d.getD k 0);generalize (d.getD k 0).toNat=c at*;have l:(k:Int)<(len:Int):=by omega
   go_wp2;go_round
   case rel=>exact⟨k+1,(x+(c:Int))%65521,(y+(x+(c:Int))%65521)%65521,by omega,by go_num,by first|rfl|go_num,by first|rfl|go_num,by omega,by omega,by omega,by omega,by show _=_;rw [m.out,B.out]⟩
   case measure=>simp [xh];omega
  ·obtain rfl:k=len:=by omega
   have C:xk (mi d= [Pl.u8 (y/256),Pl.u8 (y%256),Pl.u8 (x/256),Pl.u8 (x%256)]):=by
    show _=_;unfold mi;rw [m.out,Jk (by omega)];rfl
   go_wp2;go_ret;exact⟨_,rfl,by rw [C.out];exact JJ w _ _ _ _ (by omega) (by omega) (by omega) (by omega),(oP _ _).alloc (oC _) _⟩
theorem Af(a:Option Addr)(len cap:Nat)(d:List UInt8)(w:rU)(h:dF w a len cap d):
  GM qh 126 #[.slice a len cap] w fun e w'=>∃v,e= .returned v/\gQ w' w.heap.size v (mi d)/\xx w.heap.size w w':=by
 obtain⟨hl,hc,hm,f⟩:=h;unfold BD at hm;have A:=ae f;clear f;go_enter Tryz.func126,Tryz.ntmps126;go_wp2;go_loop [3,4,5] (fun p q i=>∃(k:Nat) (x y:Int),k<=len/\i= .int .i64 k/\p= .int .i64 x/\q= .int .i64 y/\0<=x/\x<65521/\0<=y/\y<65521/\xk (Pl.sxy d 1 0=Pl.sxy (d.drop k) x y)) (fun _ _ i=>len-(xh i).toNat)
 case atStart=>exact⟨0,1,0,Jj _,rfl,rfl,rfl,by omega,by omega,by omega,by omega,rfl⟩
 case round=>
  obtain⟨k,x,y,E,rfl,rfl,rfl,s,r,o,n,m⟩:=hrel;by_cases t:k<len
  ·obtain⟨b,off,rfl,F,g⟩:∃b off,a=some ⟨b,off,none⟩/\b<w.heap.size/\∀j u,(dH d)[j]? =some u->w.cell? ⟨b,off+j,none⟩=some u:=by
    rcases A.out with h|h
    ·rw [h]at hl;simp at hl;omega
    ·exact h
   have D:=g k _ (xB (by omega));clear g;have B:=ae (Nw d k x y (by omega));have z:=o8 (d.getD k 0);generalize (d.getD k 0).toNat=c at*;have l:(k:Int)<(len:Int):=by omega
   go_wp2;go_round
   case rel=>exact⟨k+1,(x+(c:Int))%65521,(y+(x+(c:Int))%65521)%65521,by omega,by go_num,by first|rfl|go_num,by first|rfl|go_num|(congr 1;omega),by omega,by omega,by omega,by omega,by show _=_;rw [m.out,B.out]⟩
   case measure=>simp [xh];omega
  ·obtain rfl:k=len:=by omega
   have C:xk (mi d= [Pl.u8 (y/256),Pl.u8 (y%256),Pl.u8 (x/256),Pl.u8 (x%256)]):=by
    show _=_;unfold mi;rw [m.out,Jk (by omega)];rfl
   go_wp2;go_ret;exact⟨_,rfl,by rw [C.out];exact JJ w _ _ _ _ (by omega) (by omega) (by omega) (by omega),(oP _ _).alloc (oC _) _⟩
theorem Qu:∀(f:Nat) (n:Int) (w:rU),0<=n->n<Pl.lim f->n<=1099511627776->f<=6->
  GM qh 125 #[.int .i64 n] w fun e w'=>∃v,e= .returned v/\gQ w' w.heap.size v (Pl.encV f n)/\xx w.heap.size w w':=by
 intro f;induction f with
 |zero=>
  intro n w h0 i r _;simp only [Pl.lim]at i;have a:n<128:=by omega
  have j:xk (Pl.encV 0 n= [Pl.u8 n]):=uS a;go_enter Tryz.func125,Tryz.ntmps125;go_wp2;go_ret;exact⟨_,rfl,by rw [j.out];exact Du w _ (by omega),(oP _ _).alloc (oC _) _⟩
 |succ g m=>
  intro n w h0 i r z;have s:=ae m;clear m;by_cases a:n<128
  ·have j:xk (Pl.encV (g+1) n= [Pl.u8 n]):=uS a;clear i;go_enter Tryz.func125,Tryz.ntmps125;go_wp2;go_ret;exact⟨_,rfl,by rw [j.out];exact Du w _ (by omega),(oP _ _).alloc (oC _) _⟩
  ·have j:xk (Pl.encV (g+1) n= [Pl.u8 (n%128+128)]++Pl.encV g (n/128)):=by show _=_;rw [zZ a];rfl
   have H1:xk (n/128<Pl.lim g):=by simp only [Pl.lim]at i;show _<_;omega
   have A:=xe g (n/128);clear i;go_enter Tryz.func125,Tryz.ntmps125;go_wp2_with fail;refine(s.out (n/128) _ (by omega) H1.out (by omega) (by omega)).mono ?_;rintro e p ⟨v1,rfl,c,b⟩;obtain⟨a1,c1,rfl,h,d,_⟩:=c.shape;have x:=ae h;have u:=ae d;have o:gQ p w.heap.size (.slice (some ⟨w.heap.size,0,none⟩) 1 1) [Pl.u8 (n%128+128)]:=by
    rw [show n%128+128=128+n%128 by omega];exact(Du w (128+n%128) (by omega)).below b
   have t:=ae o;have q:=b.size;simp at q;clear o h d c;go_wp2_with (at_builtin;refine yH rfl (.tmp 12) (.tmp 15) rfl w.heap.size _ [Pl.u8 (n%128+128)] _ _ _ (Pl.encV g (n/128)) rfl t.out (by omega) rfl x.out u.out (by simp;omega) ?_;intro v2 y k l);go_ret;exact⟨_,rfl,by rw [j.out];exact k,((oP _ _).alloc (oC _) _).trans ((b.mono (by simp)).trans l.1)⟩
theorem Xl(a1 a2:Option Addr)(b c1 a c2:Nat)(x y:List UInt8)(w:rU)(d:dF w a1 b c1 x)(c:dF w a2 a c2 y):
  GM qh 255 #[.slice a1 b c1,.slice a2 a c2] w fun e w'=>e= .returned (.bool (decide (x=y)))/\w'=w:=by
 have g:=jL d;have f:=jL c;clear d c;go_enter Tryz.func255,Tryz.ntmps255;go_wp2;go_ret;exact⟨bf (by rw [Xh];simp),rfl⟩
theorem Ht(a:Option Addr)(len cap:Nat)(c:List UInt8)(w:rU)(h:dF w a len cap c):
  GM qh 216 #[.slice a len cap] w fun e w'=>e= .returned (.int .i64 (fU c))/\xx w.heap.size w w':=by
 have y:=ae h;obtain⟨hl,B,hm,d⟩:=h;unfold BD at hm;by_cases M:20000<len
 ·have f:xk (fU c=1):=by show _=_;unfold fU;rw [af (by omega)]
  clear d;go_enter Tryz.func216,Tryz.ntmps216;go_wp2;go_ret;exact⟨aF (by rw [f.out]),oP _ _⟩
 by_cases L:len<6
 ·have f:xk (fU c=5):=by show _=_;unfold fU;rw [ag (by omega),af (by omega)]
  clear d;go_enter Tryz.func216,Tryz.ntmps216;go_wp2;go_ret;exact⟨aF (by rw [f.out]),oP _ _⟩
 obtain⟨b,off,rfl,K,v⟩:∃b off,a=some ⟨b,off,none⟩/\b<w.heap.size/\∀j u,(dH c)[j]? =some u->w.cell? ⟨b,off+j,none⟩=some u:=by
  rcases d with h|h
  ·rw [h]at hl;simp at hl;omega
  ·exact h
 have A:=v 0 _ (xB (by omega));simp only [Nat.add_zero]at A;clear v;have x:(0:Int)<(len:Int):=by omega
 by_cases g:c.getD 0 0=116
 ·have o:(((c.getD 0 0).toNat:Int) != 116)=false:=by rw [g];rfl
  have H:=ae g;clear g;generalize ((c.getD 0 0).toNat:Int)=z at*;obtain⟨e,he⟩:∃e,len=e+4:=⟨len-4,by omega⟩
  have G:=ae he;have p:=ae (uw y.out (show e<=len by omega));have N:=ae (fun(hc:len<=e)=>DX (w:=w) (b:=b) (off:=off) (n:=e) hc hl);have F:=ae (qH (n:=e) y.out (by omega));obtain⟨q,r⟩:=ai (decide (c.drop e=mi (c.take e)));have f:xk (fU c=if q=true then 0 else 9):=by
   show _=_;unfold fU;rw [ag (by omega),ag (by omega),ag (fun h=>h H.out),hl,show len-4=e by omega]
   cases q
   ·have:=of_decide_eq_false r.out;rw [af (fun h=>this h.symm)];rfl
   ·have:=of_decide_eq_true r.out;rw [ag (fun h=>h this.symm)];rfl
  have t:(len:Int)-4=(e:Int):=by omega
  have hle:(e:Int)<=(len:Int):=by omega
  clear he hl d;go_enter Tryz.func216,Tryz.ntmps216;have C:¬(cap=e):=by omega
  have E:¬((cap:Int)=(e:Int)):=by omega
  cases q
  all_goals
   go_wp2_with fail;go_region_with (first
    |(go_at_call 92;refine(NH _ _ _ (c.take e) _ (p.out.below (Tn (oP _ _)))).mono ?_;rintro e J ⟨v1,rfl,i,k⟩;obtain⟨a1,c1,rfl,l,_,_⟩:=i.shape;have s:=ae l;have m:=ae k;clear l i k)
    |(go_at_call 255;refine(Xl _ _ _ _ _ _ (c.drop e) (mi (c.take e)) _ (F.out.below ((Tn (oP _ _)).trans m.out)) s.out).mono ?_;rw [r.out];rintro e I ⟨rfl,rfl⟩))
  all_goals
   go_wp2;go_ret;exact⟨aF (by rw [f.out];rfl),(Tn (oP _ _)).trans m.out⟩
 ·have o:(((c.getD 0 0).toNat:Int) != 116)=true:=by
   rw [bne_iff_ne];intro e;have D:(c.getD 0 0).toNat=(116:UInt8).toNat:=by show _=116;omega
   exact g (UInt8.toNat_inj.1 D)
  have f:xk (fU c=4):=by show _=_;unfold fU;rw [ag (by omega),ag (by omega),af g]
  generalize ((c.getD 0 0).toNat:Int)=z at*;clear g d;go_enter Tryz.func216,Tryz.ntmps216;go_wp2;go_ret;exact⟨aF (by rw [f.out]),oP _ _⟩
theorem V3{a:List UInt8}(h:fU a=0):6<=a.length/\a.length<=20000:=by
 unfold fU at h;by_cases b:20000<a.length
 ·rw [af b]at h;simp at h
 ·by_cases c:a.length<6
  ·rw [ag b,af c]at h;simp at h
  ·omega
theorem TC(a:Option Addr)(len cap:Nat)(f:List UInt8)(w:rU)(h:dF w a len cap f):
  GM qh 191 #[.slice a len cap] w fun e w'=>∃v,e= .returned (.tuple #[v,.int .i64 (kP f)])/\Own w' w.heap.size v (mf f)/\xx w.heap.size w w':=by
 have J:=ae h;obtain⟨hl,N,hm,i⟩:=h;unfold BD at hm;have D:=ae (Ht _ _ _ _ _ J.out);by_cases s:fU f=0
 ·have t:=V3 s;obtain⟨b,off,rfl,S,M⟩:∃b off,a=some ⟨b,off,none⟩/\b<w.heap.size/\∀j u,(dH f)[j]? =some u->w.cell? ⟨b,off+j,none⟩=some u:=by
   rcases i with h|h
   ·rw [h]at t;simp at t
   ·exact h
  clear M;obtain⟨e,he⟩:∃e,len=e+4:=⟨len-4,by omega⟩
  have C:=ae (qH (n:=1) (uw J.out (show e<=len by omega)) (by omega));have q:xk (kP f=if(vF ((f.take e).drop 1)).2=0 then Pl.fault (vF ((f.take e).drop 1)).1 else(vF ((f.take e).drop 1)).2):=by
   show _=_;unfold kP;rw [af s,hl,show len-4=e by omega]
  have p:xk (mf f=if kP f=0 then(vF ((f.take e).drop 1)).1 else []):=by
   show _=_;unfold mf;rw [hl,show len-4=e by omega]
  have B:=ae (ado ((f.take e).drop 1));rw [s]at D;have G:(len:Int)-4=(e:Int):=by omega
  have hle:(e:Int)<=(len:Int):=by omega
  have O:¬(cap=1):=by omega
  have P:¬((cap:Int)=1):=by omega
  have H:(1:Int)<=(e:Int):=by omega
  clear hl i s he;obtain⟨rd,I⟩:=ai (vF ((f.take e).drop 1));obtain⟨l,c⟩:=rd;rw [I.out]at q p B;simp only at q p B;go_enter Tryz.func191,Tryz.ntmps191;go_wp2_with fail;refine D.out.mono ?_;rintro x L ⟨rfl,k⟩;have d:=ae k;clear k;go_wp2_with fail;refine(EN _ _ _ _ _ (C.out.below d.out) (by intro h;cases h)).mono ?_;rw [I.out];rintro x Q ⟨v2,rfl,o,z⟩;simp only at o;have R:=B;obtain⟨a2,c2,rfl,A,_,_⟩:=o.shape B.out;have E:=ae A;have K:=ae o;have m:=ae z;clear A o z;by_cases hc:c=0
  ·subst hc;go_wp2_with fail;refine(dS _ _ _ _ _ E.out).mono ?_;rintro x w3 ⟨rfl,y⟩;have r:=ae y;clear y;have g:xk (kP f=Pl.fault l):=by show _=_;rw [q.out];simp
   by_cases F:Pl.fault l=0
   ·rw [F]at g⊢;go_wp2;go_ret2;exact⟨_,by rw [g.out];rfl,by rw [p.out,af g.out];exact(K.out.mono d.out.size).below r.out,d.out.trans ((m.out.trans (r.out.mono m.out.size)).mono d.out.size)⟩
   ·generalize Pl.fault l=T at*;go_wp2;go_ret2;exact⟨_,by rw [g.out];rfl,by rw [p.out,ag (by rw [g.out];exact F)];exact Own.nil _ _,d.out.trans ((m.out.trans (r.out.mono m.out.size)).mono d.out.size)⟩
  ·have g:xk (kP f=c):=by show _=_;rw [q.out];rw [ag hc]
   go_wp2;go_ret2;exact⟨_,by rw [g.out];rfl,by rw [p.out,ag (by rw [g.out];exact hc)];exact Own.nil _ _,d.out.trans (m.out.mono d.out.size)⟩
 ·have q:xk (kP f=fU f):=by show _=_;unfold kP;rw [ag s]
  have p:xk (mf f= []):=by show _=_;unfold mf;rw [ag (by rw [q.out];exact s)]
  clear i;generalize fU f=c at*;go_enter Tryz.func191,Tryz.ntmps191;go_wp2_with fail;refine D.out.mono ?_;rintro x L ⟨rfl,k⟩;have d:=ae k;clear k;go_wp2;go_ret2;exact⟨_,by rw [q.out];rfl,by rw [p.out];exact Own.nil _ _,d.out⟩
theorem xG(base:Nat)(v:xn)(c:List UInt8)(s:ByteArray)(w:rU)(h:gQ w base v c)(k:base<=w.heap.size)(o:s.size<=255)(hl:c.length<=1000000):
  GM qh 90 #[v,.string s] w fun e w'=>∃g,e= .returned g/\gQ w' base g (c++BK s)/\lZ base w w':=by
 have l:=ae h;clear h;go_enter Tryz.func90,Tryz.ntmps90;go_wp2_with (first
  |(at_builtin;refine uA rfl (.tmp 5) (.tmp 9) rfl base v c (s.size:Int) rfl l.out k rfl (by omega) (by omega) (by omega) ?_;intro v1 n a b;have i:=ae a;clear a;have j:=b.1.size)
  |(at_builtin;refine Ae rfl (.tmp 11) (.tmp 12) rfl base v1 (c++ [Pl.u8 (s.size:Int)]) s rfl i.out (by omega) rfl (by simp;omega) ?_;intro v2 m d f))
 go_ret;exact⟨_,rfl,by have e:=d;rw [PW]at e;exact e,b.trans f⟩
theorem Ce(base:Nat)(v:xn)(d:List UInt8)(n:Int)(w:rU)(h:gQ w base v d)(E:base<=w.heap.size)(h0:0<=n)(A:n<=1099511627776)(hl:d.length<=1000000):
  GM qh 91 #[v,.int .i64 n] w fun e w'=>∃o,e= .returned o/\gQ w' base o (d++Pl.encV 6 n)/\lZ base w w':=by
 have B:=ae h;clear h;go_enter Tryz.func91,Tryz.ntmps91;go_wp2;go_loopw [0,1] (fun t x wr=>∃(f:Nat) (c:List UInt8) (m:Int) (u:xn),u=t/\x= .int .i64 m/\f<=6/\0<=m/\m<=1099511627776/\xk (m<Pl.lim f)/\xk (gQ wr base u c)/\c.length<=1000000+6-f/\xk (d++Pl.encV 6 n=c++Pl.encV f m)/\lZ base w wr) (fun _ x _=>(xh x).toNat)
 case atStart=>exact⟨6,d,n,v,rfl,rfl,by omega,h0,A,by show _<_;simp only [Pl.lim];omega,B,by omega,rfl,lZ.refl _ _⟩
 case round=>
  obtain⟨f,c,m,u,rfl,rfl,D,z,y,p,r,hc,q,j⟩:=hrel;have C:=j.1.size;by_cases i:m<128
  ·have l:xk (d++Pl.encV 6 n=c++ [Pl.u8 m]):=by show _=_;rw [q.out,uS i]
   go_wp2_with (at_builtin;refine uA rfl (.tmp 16) (.tmp 19) rfl base u c m rfl r.out (by omega) rfl (by omega) (by omega) (by omega) ?_;intro v1 s a b);go_ret;exact⟨_,rfl,by rw [l.out];exact a,j.trans b⟩
  ·obtain⟨g,rfl⟩:∃g,f=g+1:=by
    cases f with
    |zero=>exact absurd p.out (by simp only [Pl.lim];omega)
    |succ g=>exact⟨g,rfl⟩
   have l:xk (d++Pl.encV 6 n=(c++ [Pl.u8 (m%128+128)])++Pl.encV g (m/128)):=by
    show _=_;rw [q.out,zZ i];simp
   have k:xk (m/128<Pl.lim g):=by
    have:=p.out;simp only [Pl.lim]at this;show _<_;omega
   go_wp2_with (at_builtin;refine uA rfl (.tmp 7) (.tmp 12) rfl base u c (m%128+128) rfl r.out (by omega) rfl (by omega) (by omega) (by omega) ?_;intro v1 s a b);go_roundw
   case rel=>exact⟨g,c++ [Pl.u8 (m%128+128)],m/128,_,rfl,by go_num,by omega,by omega,by omega,k,a,by simp;omega,l,j.trans b⟩
   case measure=>simp [xh];omega
theorem bM(a:Option Addr)(len cap:Nat)(es:List aK)(w:rU)(h:bI w a len cap es):
  GM qh 124 #[.slice a len cap] w fun e w'=>e= .returned (.int .i64 (Pl.fault es))/\xx w.heap.size w w':=by
 obtain⟨hl,hc,hm,A,g⟩:=h;unfold BD at hm;by_cases J:60<len
 ·go_enter Tryz.func124,Tryz.ntmps124;go_wp2;go_ret;exact⟨aF (Ha (by omega)).symm,oP _ _⟩
 go_enter Tryz.func124,Tryz.ntmps124;go_wp2;go_loopw [3] (fun i wr=>∃k:Nat,k<=len/\i= .int .i64 k/\xk (Pl.fault es=Pl.faultN es (len-k) k)/\xx w.heap.size w wr) (fun i _=>len-(xh i).toNat)
 case atStart=>exact⟨0,Jj _,rfl,by show _=_;rw [zY (by omega),hl];rfl,oP _ _⟩
 case round=>
  obtain⟨k,O,rfl,r,l⟩:=hrel;by_cases H:k<len
  ·obtain⟨b,off,rfl,B,G⟩:∃b off,a=some ⟨b,off,none⟩/\b<w.heap.size/\dN w b off es:=by
    rcases g with rfl|h
    ·simp at hl;omega
    ·exact h
   clear g;have q:=G.below B l;obtain⟨c0,c1,c2,Q⟩:=q k (by omega);have C:=A _ (lU es k (by omega));obtain⟨d,_,_,L⟩:=C;have s:=l.size;obtain⟨n,E⟩:∃n,len-k=n+1:=⟨len-k-1,by omega⟩
   have o:xk (len-k=n+1):=E;clear E;obtain⟨z,v⟩:=ai (qE (eF es k).key);obtain⟨x,t⟩:=ai (decide (1<=(eF es k).gz/\(eF es k).gz<=1099511627776));obtain⟨y,u⟩:=ai (decide (0<=(eF es k).org/\(eF es k).org<=11));obtain⟨p,F⟩:=ai (decide ((eF es k).val.size<=120));have D:xk ((eF es k).may=(z&&x&&y&&p)):=by
    show _=_;unfold aK.may uQ;rw [v.out,t.out,u.out,F.out]
   have K:((120:Int)<((eF es k).val.size:Int))=(p=false):=by
    have:=F.out
    cases p
    ·simp at this⊢;omega
    ·simp at this⊢;omega
   by_cases c:(z&&x&&y&&p)=true
   ·simp only [Qi]at c;obtain⟨⟨⟨rfl,rfl⟩,rfl⟩,rfl⟩:=c;have f:xk ((eF es k).may=true):=D.out;clear D;rcases Nat.eq_zero_or_pos k with j|j
    ·have P:decide (0<k)=false:=by simp;omega
     have N:xk (k=0):=j;clear j;go_wp2_with (first|(go_at_call 132;refine(gZ _ _ d).mono ?_;rw [v.out];rintro e w' ⟨rfl,rfl⟩)|(go_at_call 73;refine(dZ _ _ _ _).mono ?_;(first|rw [t.out]|rw [u.out]);rintro e w' ⟨rfl,rfl⟩));go_quiet (fail);go_wp2;go_roundw
     case rel=>exact⟨k+1,by omega,by go_num,by show _=_;rw [r.out,o.out,uj f.out (by simp [Bz,N.out])];congr 1;have:=o.out;omega,below_drewN (l.alloc s _) _⟩
     case measure=>simp [xh];omega
    ·obtain⟨m,rfl⟩:∃m,k=m+1:=⟨k-1,by omega⟩
     obtain⟨d0,d1,d2,d3⟩:=q m (by omega);have I:b<wr.heap.size:=by omega
     go_wp2_with (first|(go_at_call 132;refine(gZ _ _ d).mono ?_;rw [v.out];rintro e w' ⟨rfl,rfl⟩)|(go_at_call 73;refine(dZ _ _ _ _).mono ?_;(first|rw [t.out]|rw [u.out]);rintro e w' ⟨rfl,rfl⟩));go_quiet (fail);go_wp2
     ·go_ret;exact⟨aF (by rw [r.out,o.out,He f.out (JP ‹_›)]),below_drewN (l.alloc s _) _⟩
     ·go_roundw
      case rel=>exact⟨m+1+1,by omega,by go_num,by show _=_;rw [r.out,o.out,uj f.out (Gp ‹_›)];congr 1;have:=o.out;omega,below_drewN (l.alloc s _) _⟩
      case measure=>simp [xh];omega
   ·have f:xk ((eF es k).may=false):=by
     show _=_;rw [D.out];simpa using c
    have M:xk (Pl.fault es=4):=by
     show _=_;rw [r.out,o.out,ED f.out]
    cases z
    all_goals cases x
    all_goals cases y
    all_goals cases p
    all_goals first|(exact absurd rfl c)|skip
    all_goals
     go_wp2_with (first|(go_at_call 132;refine(gZ _ _ d).mono ?_;rw [v.out];rintro e w' ⟨rfl,rfl⟩)|(go_at_call 73;refine(dZ _ _ _ _).mono ?_;(first|rw [t.out]|rw [u.out]);rintro e w' ⟨rfl,rfl⟩));go_ret;exact⟨aF M.out.symm,l.alloc s _⟩
  ·obtain rfl:k=len:=by omega
   go_wp2;go_ret;exact⟨aF (by rw [r.out];simp [Pl.faultN]),l⟩
def Pl.uT(es:List aK):List UInt8:=if Pl.fault es=0 then Pl.enc es else []
theorem Ib{base:Nat}{w w':rU}{c0 c1 c2 a:xn}(h:lZ base (w.alloc (.cells #[c0,c1,c2,a] 55)) w'):
  w'.cell? ⟨w.heap.size,0,none⟩=some c0/\w'.cell? ⟨w.heap.size,1,none⟩=some c1/\w'.cell? ⟨w.heap.size,2,none⟩=some c2/\w'.cell? ⟨w.heap.size,3,none⟩=some a:=by
 have hh:=h.2 w.heap.size _ _ _ (wY w _) (by decide);refine⟨?_,?_,?_,?_⟩
 all_goals simp [Zf,hh]
theorem TA(a:Option Addr)(len cap:Nat)(es:List aK)(w:rU)(h:bI w a len cap es):
  GM qh 53 #[.slice a len cap] w fun e w'=>∃v,e= .returned (.tuple #[v,.int .i64 (Pl.fault es)])/\gQ w' w.heap.size v (uT es)/\xx w.heap.size w w':=by
 have Q:=ae h;have hlen:es.length=len:=h.1;have W:=h.2.1;have hm:=h.2.2.1;unfold BD at hm;clear h;obtain⟨c,p⟩:=ai (Pl.fault es);by_cases g:c=0
 ·subst g;have R:=ae ((bK es).1 p.out);have av:len<=60:=by have:=R.out.1;omega
  go_enter Tryz.func53,Tryz.ntmps53;go_wp2_with fail;refine(dS _ _ _ es _ Q.out).mono ?_;rw [p.out];rintro e S ⟨rfl,j⟩;have s:=j.size;go_wp2_with fail;go_loopw [5,19] (fun vv i wr=>∃(k:Nat) (c:List UInt8) (u:xn),u=vv/\k<=len/\i= .int .i64 k/\xk (gQ wr w.heap.size u c)/\c.length<=2+k*138/\xk (Pl.body es=c++Pl.encL (es.drop k))/\xx w.heap.size w wr) (fun _ i _=>len-(xh i).toNat)
  case atStart=>exact⟨0,[116,Pl.u8 (es.length:Int)],_,rfl,Jj _,rfl,by rw [hlen];exact(JK S 116 (len:Int) (by omega) (by omega)).mono s,by simp,rfl,j.alloc s _⟩
  case round=>
   obtain⟨k,c,u,rfl,hk,rfl,O,ar,Z,J⟩:=hrel;have U:=J.size;by_cases aa:k<len
   ·obtain⟨b,off,rfl,M,V⟩:∃b off,a=some ⟨b,off,none⟩/\b<w.heap.size/\dN w b off es:=by
     rcases Q.out.2.2.2.2 with h|h
     ·rw [h]at hlen;simp at hlen;omega
     ·exact h
    obtain⟨q0,q1,q2,q3⟩:=V.below M J k (by omega);clear V;have t:=Dw (R.out.2.1 _ (lU es k (by omega)));have lF:=ae (Hg (R.out.2.1 _ (lU es k (by omega))));have HD:=ae (xg es k (by omega));generalize eF es k=x at*;obtain⟨m,l,q,D⟩:=x;simp only at q0 q1 q2 q3 t;obtain⟨p1,p2,p3,p4,p5,p6,p7⟩:=t;go_wp2_with fail;refine(xG w.heap.size u c m _ (O.out.below ((oP _ _).alloc (oC _) _)) (by simp;omega) (by omega) (by omega)).mono ?_;rintro e w3 ⟨v3,rfl,d,n⟩;have vC:=ae d;clear d;obtain⟨H,G,F,E⟩:=Ib n;have r:=n.1.size;simp at r;have an:(c++BK m).length<=2+k*138+9:=by rw [IA,OX];omega
    go_wp2_with fail;refine(Ce w.heap.size v3 _ l _ vC.out (by omega) (by omega) (by omega) (by omega)).mono ?_;rintro e w4 ⟨v4,rfl,I,f⟩;have sV:=ae I;clear I H G F E;have B:=n.trans f;obtain⟨H,G,F,E⟩:=Ib B;have yw:=f.1.size;have ak:(c++BK m++Pl.encV 6 l).length<=2+k*138+16:=by rw [IA];have:=xe 6 l;omega
    go_wp2_with (at_builtin;refine uA rfl (.tmp 31) (.tmp 35) rfl w.heap.size v4 (c++BK m++Pl.encV 6 l) q rfl sV.out (by omega) rfl (by omega) (by omega) (by omega) ?_;intro v5 w5 T z;have oL:=ae T;clear T H G F E;have C:=B.trans z;obtain⟨H,G,F,E⟩:=Ib C;have oq:=z.1.size);have ad:(c++BK m++Pl.encV 6 l++ [Pl.u8 q]).length<=2+k*138+17:=by rw [IA];simp only [List.length_singleton];omega
    refine(xG w.heap.size v5 _ D _ oL.out (by omega) (by omega) (by omega)).mono ?_;rintro e w6 ⟨v6,rfl,Y,L⟩;have HF:xk (gQ w6 w.heap.size v6 (c++I9 ⟨m,l,q,D⟩)):=by
     have:=Y;rw [show c++BK m++Pl.encV 6 l++ [Pl.u8 q]++BK D=c++I9 ⟨m,l,q,D⟩ by simp [I9]]at this;exact this
    clear Y;go_wp2_with fail;go_roundw
    case rel=>exact⟨k+1,_,_,rfl,by omega,by go_num,HF,by rw [IA];have:=lF.out;omega,by show _=_;rw [Z.out,HD.out];simp [Pl.encL],(J.alloc U _).trans (C.trans L).1⟩
    case measure=>simp [xh];omega
   ·obtain rfl:k=len:=by omega
    have HB:xk (Pl.body es=c):=by show _=_;rw [Z.out,Jk (by omega)];simp [Pl.encL]
    obtain⟨a2,c2,rfl,A,K,_⟩:=O.out.shape;have HI:=ae A;clear A K;go_wp2_with fail;refine(NH _ _ _ c _ HI.out).mono ?_;rintro e w3 ⟨v3,rfl,d,o⟩;have r:=o.size;obtain⟨a3,c3,rfl,X,y,_⟩:=d.shape;have P:=ae X;have pW:=ae y;have N:=ae (O.out.below o);clear d X y;go_wp2_with (at_builtin;refine yH rfl (.tmp 42) (.tmp 44) rfl w.heap.size _ c _ _ _ (mi c) rfl N.out (by omega) rfl P.out pW.out (by rw [C9];omega) ?_;intro v4 w4 I f);go_ret2;exact⟨_,by rw [p.out];rfl,by unfold uT Pl.enc;rw [af p.out,HB.out];exact I,(J.trans (o.mono U)).trans f.1⟩
 ·have aq:(c != 0)=true:=by simp [g]
  have HP:xk (uT es= []):=by show _=_;unfold uT;rw [p.out,ag g]
  clear g;go_enter Tryz.func53,Tryz.ntmps53;go_wp2_with fail;refine(dS _ _ _ es _ Q.out).mono ?_;rw [p.out];rintro e S ⟨rfl,j⟩;go_wp2_with fail;go_ret2;exact⟨_,by rw [p.out];rfl,by rw [HP.out];exact gQ.nil _ _,j⟩
namespace Pl
theorem XH(x:UInt8):u8 (x.toNat:Int)=x:=by
 unfold u8;apply UInt8.toNat_inj.1;rw [UInt8.toNat_ofNat'];have:=x.toNat_lt;simp
theorem Bo{c:Int}{r:List UInt8}(h:(num c r).2.1=0):c=0/\r=u8 (num c r).1::(num c r).2.2:=by
 by_cases hc:c=0
 ·subst hc
  cases r with
  |nil=>rw [Lm]at h;simp at h
  |cons x t=>rw [wP];exact⟨rfl,by rw [XH]⟩
 ·rw [Bl hc]at h;exact absurd h hc
theorem Nq{c:Int}{r:List UInt8}(h:(kE c r).2.1=0):c=0/\r=BK (kE c r).1++(kE c r).2.2:=by
 unfold kE at h⊢;by_cases a:(num c r).2.1=0
 ·rw [af a]at h⊢;by_cases d:(num c r).1.toNat<=(num c r).2.2.length
  ·rw [af d];have b:=Bo a;have f:=iw c r;refine⟨b.1,?_⟩;have e:((⟨((num c r).2.2.take (num c r).1.toNat).toArray⟩:ByteArray).size:Int)=(num c r).1:=by
    show((((num c r).2.2.take (num c r).1.toNat).toArray.size:Nat):Int)=_;simp;omega
   unfold BK;rw [e];simp only [Qd,Rz];exact b.2
  ·rw [ag d]at h;simp at h
 ·rw [ag a]at h;exact absurd h a
theorem Jr:∀(f k:Nat) (v c:Int) (r:List UInt8),f+k=8->k<=7->(verF f k v c r).2.1=0->
  c=0/\k<=6/\∃m:Int,(verF f k v c r).1=v+m*128^k/\0<=m/\(0<k->1<=m)/\r=encV (6-k) m++(verF f k v c r).2.2
 |0,k,v,c,r=>fun o n=>by omega
 |f+1,k,v,c,r=>fun o n h=>by
  rw [verF]at h⊢;by_cases b:(num c r).2.1=0
  ·rw [af b]at h⊢;have d:=Bo b;have i:=iw c r;generalize (num c r).1=x at*;generalize (num c r).2.2=t at*;by_cases e:k=7\/(0<k/\x=0)
   ·rw [af e]at h;simp at h
   ·rw [ag e]at h⊢;by_cases a:x<128
    ·rw [af a];refine⟨d.1,by omega,x,?_,by omega,by omega,?_⟩
     ·rw [Int.emod_eq_of_lt i.1 a]
     ·rw [uS a];exact d.2
    ·rw [ag a]at h⊢;obtain⟨_,u,m,s,w,q,p⟩:=Jr f (k+1) _ _ _ (by omega) (by omega) h;have m1:=q (by omega);refine⟨d.1,by omega,x%128+128*m,?_,by omega,by omega,?_⟩
     ·rw [s,Int.pow_succ,Int.add_mul,Int.add_assoc];congr 2
      rw [aac 128 m,Int.mul_assoc,aac (128^k) 128]
     ·obtain⟨g,j⟩:∃g,6-k=g+1:=⟨5-k,by omega⟩
      rw [j,zZ (by omega)];have ha:(x%128+128*m)%128+128=x:=by omega
      have l:(x%128+128*m)/128=m:=by omega
      rw [ha,l,show g=6-(k+1) by omega,Qd,<-p];exact d.2
  ·rw [ag b]at h;exact absurd h b
theorem XG{c:Int}{r:List UInt8}(h:(gz c r).2.1=0):c=0/\r=encV 6 (gz c r).1++(gz c r).2.2:=by
 unfold gz at h⊢;obtain⟨h0,_,m,b,_,_,a⟩:=Jr 8 0 0 c r rfl (by omega) h;refine⟨h0,?_⟩;have:(verF 8 0 0 c r).1=m:=by rw [b];simp
 rw [this];exact a
theorem V9{c:Int}{r:List UInt8}(h:(jU c r).2.1=0):c=0/\r=I9 (jU c r).1++(jU c r).2.2:=by
 unfold jU at h⊢;simp only at h⊢;have a:=Nq h;have b:=Bo a.1;have d:=XG b.1;have e:=Nq d.1;refine⟨e.1,?_⟩;unfold I9;simp only [PW];rw [<-a.2,SN,<-b.2,<-d.2,<-e.2]
theorem Hf:∀(n:Nat) (l:List aK) (c:Int) (r:List UInt8),(entsN n l c r).2.1=0->
  ∃m,(entsN n l c r).1=l++m/\m.length=n/\r=encL m++(entsN n l c r).2.2
 |0,l,c,r=>fun _=>⟨[],by simp [entsN],rfl,by simp [entsN,encL]⟩
 |n+1,l,c,r=>fun h=>by
  rw [entsN]at h⊢;by_cases a:(jU c r).2.1=0
  ·rw [af a]at h⊢;obtain⟨m,e,d,b⟩:=Hf n _ _ _ h;refine⟨(jU c r).1::m,by rw [e];simp,by simp [d],?_⟩;rw [encL,PW,<-b];exact(V9 a).2
  ·rw [ag a]at h;exact absurd h a
theorem X9{r:List UInt8}(h:(vF r).2=0):r=u8 ((vF r).1.length:Int)::encL (vF r).1:=by
 unfold vF at h⊢;by_cases b:(num 0 r).2.1=0
 ·rw [af b]at h⊢;by_cases a:(entsN (num 0 r).1.toNat [] (num 0 r).2.1 (num 0 r).2.2).2.1=0
  ·rw [af a]at h⊢;by_cases c:(entsN (num 0 r).1.toNat [] (num 0 r).2.1 (num 0 r).2.2).2.2= []
   ·rw [af c];obtain⟨m,e,f,d⟩:=Hf _ _ _ _ a;rw [c,List.append_nil]at d;rw [List.nil_append]at e;simp only;rw [e,f,<-d];have g:=iw 0 r;rw [show(((num 0 r).1.toNat:Nat):Int)=(num 0 r).1 by omega];exact(Bo b).2
   ·rw [ag c]at h;simp at h
  ·rw [ag a]at h;exact absurd h a
 ·rw [ag b]at h;exact absurd h b
theorem xm{b:List UInt8}(h:kP b=0):fault (mf b)=0/\uT (mf b)=b:=by
 have d:mf b=(vF ((b.take (b.length-4)).drop 1)).1:=by unfold mf;rw [af h]
 unfold kP at h;by_cases a:fU b=0
 ·rw [af a]at h;by_cases c:(vF ((b.take (b.length-4)).drop 1)).2=0
  ·rw [af c,<-d]at h;refine⟨h,?_⟩;have e:=X9 c;rw [<-d]at e;unfold fU at a;by_cases g1:20000<b.length
   ·rw [af g1]at a;simp at a
   rw [ag g1]at a;by_cases g2:b.length<6
   ·rw [af g2]at a;simp at a
   rw [ag g2]at a;by_cases g3:b.getD 0 0=116
   ·rw [ag (fun x=>x g3)]at a;by_cases g4:mi (b.take (b.length-4))=b.drop (b.length-4)
    ·have f:b.take (b.length-4)=body (mf b):=by
      unfold body;rw [Qd,SN,<-e];match b,g2,g3 with
      |x::t,g2,g3=>
       simp only [List.getD_cons_zero]at g3;subst g3;simp only [List.length_cons]at g2⊢;obtain⟨k,g⟩:∃k,t.length+1-4=k+1:=⟨t.length-4,by omega⟩
       rw [g];simp
     unfold uT;rw [h];simp only [if_true];unfold enc;rw [<-f,g4,Rz]
    ·rw [af g4]at a;simp at a
   ·rw [af g3]at a;simp at a
  ·rw [ag c]at h;exact absurd h c
 ·rw [ag a]at h;exact absurd h a
end Pl
theorem dN.drewN{w:rU}{b off:Nat}{es:List aK}(h:dN w b off es)(n:Nat):dN (w.drewN n) b off es:=fun i a=>h i a
theorem abO(es:List aK)(key:ByteArray)(b off len cap c d i:Nat)(w:rU)(hl:es.length=len)(_hc:len<=cap)(_hm:cap<=BD)
  (a:dN w b off es)(j:w.cell? ⟨c,0,none⟩=some (.slice (some ⟨b,off,none⟩) len cap))(h:w.cell? ⟨d,0,none⟩=some (.string key))(g:i<len):
  GM qh 95 #[.int .i64 i,.pointer (some ⟨c,0,none⟩),.pointer (some ⟨d,0,none⟩)] w fun e w'=>e= .returned (.bool (!mr (eF es i).key key))/\∃n,w'=w.drewN n:=by
 unfold BD at _hm;obtain⟨c0,_,_,_⟩:=a i (by omega);have f:(i:Int)<(len:Int):=by omega
 go_enter Tryz.func95,Tryz.ntmps95;go_wp2_with fail;go_quiet (fail);go_wp2;go_ret;exact⟨rfl,_,rfl⟩
theorem SC(es:List aK)(key:ByteArray)(a:Option Addr)(len cap l o:Nat)(w:rU)(hl:es.length=len)(hc:len<=cap)(hm:cap<=BD)
  (c:es= []\/∃b off,a=some ⟨b,off,none⟩/\dN w b off es)(k:w.cell? ⟨l,0,none⟩=some (.slice a len cap))(g:w.cell? ⟨o,0,none⟩=some (.string key))(has:MV es)(J:len<=60):
  GM qh 94 #[.int .i64 len,.func (.func 95) #[] #[.pointer (some ⟨l,0,none⟩),.pointer (some ⟨o,0,none⟩)]] w fun e w'=>e= .returned (.int .i64 (Pl.pos es key))/\∃n,w'=w.drewN n:=by
 have f:cap<=BD:=hm;have N:xk (cap<=BD):=f;clear f;unfold BD at hm;have L:xk (es= []\/∃b off,a=some ⟨b,off,none⟩/\dN w b off es):=c;have H1:xk (w.cell? ⟨l,0,none⟩=some (.slice a len cap)):=k;have O:xk (w.cell? ⟨o,0,none⟩=some (.string key)):=g;have D:xk (MV es):=has;clear c k g has;go_enter Tryz.func94,Tryz.ntmps94;go_wp2;go_loopw [5,6] (fun i j wr=>∃x y n:Nat,x<=y/\y<=len/\i= .int .i64 x/\j= .int .i64 y/\xk (wr=w.drewN n)/\xk (∀t,t<x->mr (eF es t).key key=true)/\xk (∀t,y<=t->t<len->mr (eF es t).key key=false)) (fun i j _=>(xh j).toNat-(xh i).toNat)
 case atStart=>exact⟨0,len,0,Jj _,oC _,rfl,rfl,rfl,fun t h=>by omega,fun t h K=>by omega⟩
 case round=>
  obtain⟨x,y,n,F,P,rfl,rfl,r,B,A⟩:=hrel;by_cases I:x<y
  ·obtain⟨b,off,rfl,c⟩:∃b off,a=some ⟨b,off,none⟩/\dN w b off es:=by
    rcases L.out with h|h
    ·rw [h]at hl;simp at hl;omega
    ·exact h
   have v:dN wr b off es:=by rw [r.out];exact c.drewN n
   have k:wr.cell? ⟨l,0,none⟩=some (.slice (some ⟨b,off,none⟩) len cap):=by rw [r.out];exact H1.out
   have g:wr.cell? ⟨o,0,none⟩=some (.string key):=by rw [r.out];exact O.out
   have C:=fun m=>abO es key b off len cap l o m wr hl hc N.out v k g;have u:xk _:=C;clear C v k g;go_wp2_with fail;obtain⟨m,d,G,H⟩:∃m:Nat,((x:Int)+(y:Int))/2=(m:Int)/\x<=m/\m<y:=⟨(x+y)/2,by omega,by omega,by omega⟩
   rw [d];clear d;refine(u.out m (by omega)).mono ?_;rintro e w' ⟨rfl,q,z⟩;have M:xk (w'=wr.drewN q):=z;clear z;obtain⟨E,s⟩:=ai (mr (eF es m).key key);rw [s.out];have p:xk (w'=w.drewN (n+q)):=by show _=_;rw [M.out,r.out,World.drewN_drewN]
   cases E
   ·go_wp2;go_roundw
    case rel=>exact⟨x,m,n+q,by omega,by omega,rfl,rfl,p,B,fun t h K=>ad7 D.out (by omega) h s.out⟩
    case measure=>simp [xh];omega
   ·go_wp2;go_roundw
    case rel=>exact⟨m+1,y,n+q,by omega,by omega,by go_num,rfl,p,fun t h=>ZM D.out (by omega) (by omega) s.out,A⟩
    case measure=>simp [xh];omega
  ·obtain rfl:x=y:=by omega
   go_wp2;go_ret;exact⟨aF (by rw [Yd (by omega) B.out (fun h=>A.out x (oC _) (by omega))]),n,r.out⟩
theorem qF(a:Option Addr)(len cap:Nat)(es:List aK)(key:ByteArray)(w:rU)(h:bI w a len cap es)(has:MV es)(g:len<=60):
  GM qh 57 #[.slice a len cap,.string key] w fun e w'=>e= .returned (.tuple #[.int .i64 (Pl.pos es key),.bool (Pl.there es key)])/\xx w.heap.size w w':=by
 obtain⟨hl,hc,hm,_,c⟩:=h;have o:∀(fn:Fn) (first cap:Array xn) (w:rU),(Instr.makeFunc fn first cap).run qh w= .ok (.func fn first cap) w:=fun _ _ _ _=>rfl;have j:xk (xx w.heap.size w ((w.alloc (.cells #[.slice a len cap] 28)).alloc (.cells #[.string key] 9))):=((oP _ _).alloc (oC _) _).alloc (by simp) _;have m:xk (GM qh 94 #[.int .i64 len,.func (.func 95) #[] #[.pointer (some ⟨w.heap.size,0,none⟩),.pointer (some ⟨w.heap.size+1,0,none⟩)]] ((w.alloc (.cells #[.slice a len cap] 28)).alloc (.cells #[.string key] 9)) fun e w'=>e= .returned (.int .i64 (Pl.pos es key))/\∃n,w'=((w.alloc (.cells #[.slice a len cap] 28)).alloc (.cells #[.string key] 9)).drewN n):=by
  refine SC es key a len cap _ _ _ hl hc hm ?_ ?_ ?_ has g
  ·rcases c with h|⟨b,off,rfl,l,d⟩
   ·exact .inl h
   ·exact .inr ⟨b,off,rfl,d.below l j.out⟩
  ·go_simp
  ·go_simp
 have hp:=Dl es key;unfold BD at hm;rcases aab (Pl.pos es key) len with q|r
 ·obtain⟨b,off,rfl,l,d⟩:∃b off,a=some ⟨b,off,none⟩/\b<w.heap.size/\dN w b off es:=by
   rcases c with h|h
   ·rw [h]at hl;simp at hl;omega
   ·exact h
  obtain⟨c0,_,_,_⟩:=d (Pl.pos es key) (by omega);have i:xk (Pl.there es key=((eF es (Pl.pos es key)).key.toList==key.toList)):=by
   show _=_;unfold Pl.there;rw [ZL,zx (show Pl.pos es key<es.length by omega)];rfl
  generalize Pl.pos es key=p at*;clear c d;have k:(p:Int)<(len:Int):=by omega
  go_enter Tryz.func57,Tryz.ntmps57;go_wp2_with fail;refine m.out.mono ?_;rintro e w' ⟨rfl,n,f⟩;subst f;go_wp2_with fail;go_quiet (fail);go_wp2;go_ret2;exact⟨by rw [i.out];rfl,below_drewN (below_drewN j.out _) _⟩
 ·have i:xk (Pl.there es key=false):=by
   show _=_;unfold Pl.there;rw [Fb (show¬Pl.pos es key<es.length by omega)];rfl
  generalize Pl.pos es key=p at*;have t:decide ((p:Int)<(len:Int))=false:=by simp;omega
  have s:decide (p<len)=false:=by simp;omega
  go_enter Tryz.func57,Tryz.ntmps57;go_wp2_with fail;refine m.out.mono ?_;rintro e w' ⟨rfl,n,f⟩;subst f;go_wp2_with fail;go_quiet (fail);go_wp2;go_ret2;exact⟨by rw [i.out];rfl,below_drewN (below_drewN j.out _) _⟩
theorem fK(a:Option Addr)(len cap:Nat)(es:List aK)(key:ByteArray)(w:rU)(h:bI w a len cap es):
  GM qh 123 #[.slice a len cap,.string key] w fun e w'=>e= .returned (.int .i64 (YX es key))/\w'=w:=by
 obtain⟨hl,hc,hm,_,c⟩:=h;unfold BD at hm;go_enter Tryz.func123,Tryz.ntmps123;go_wp2;go_loop [5] (fun i=>∃k:Nat,k<=len/\i= .int .i64 k/\xk (∀t,t<k->¬(eF es t).key=key)) (fun i=>len-(xh i).toNat)
 case atStart=>exact⟨0,Jj _,rfl,fun t h=>by omega⟩
 case round=>
  obtain⟨k,m,rfl,f⟩:=hrel;by_cases l:k<len
  ·obtain⟨b,off,rfl,n,j⟩:∃b off,a=some ⟨b,off,none⟩/\b<w.heap.size/\dN w b off es:=by
    rcases c with h|h
    ·rw [h]at hl;simp at hl;omega
    ·exact h
   obtain⟨c0,_,_,_⟩:=j k (by omega);clear c j;by_cases he:(eF es k).key=key
   ·have g:xk ((eF es k).key=key):=he;have d:((eF es k).key.toList==key.toList)=true:=by rw [he];simp
    clear he;go_wp2;go_ret;exact⟨aF (by have:=GH es key k (by omega) f.out (fun _=>g.out);unfold YX;rw [this,af (by omega)]),rfl⟩
   ·have g:xk (¬(eF es k).key=key):=he;have d:=kT he;clear he;go_wp2;go_round
    case rel=>exact⟨k+1,by omega,by go_num,fun t h=>by rcases aab t k with q|q;exact f.out t q;obtain rfl:t=k:=(by omega);exact g.out⟩
    case measure=>simp [xh];omega
  ·obtain rfl:k=len:=by omega
   go_wp2;go_ret;exact⟨aF (by have:=GH es key k (by omega) f.out (fun h=>by omega);unfold YX;rw [this,ag (by omega)]),rfl⟩
theorem Ws(a:Option Addr)(len cap:Nat)(es:List aK)(x:aK)(w:rU)(h:bI w a len cap es):
  GM qh 88 #[.slice a len cap,.int .i64 (Pl.pos es x.key),.bool (Pl.there es x.key),.agg #[.string x.key,.int .i64 x.gz,.int .i64 x.org,.string x.val]] w
   fun e w'=>e= .returned (.bool (jM es x))/\xx w.heap.size w w':=by
 obtain⟨hl,hc,hm,_,c⟩:=h;unfold BD at hm;obtain⟨t,d⟩:=ai (Pl.there es x.key)
 cases t
 ·have g:xk (jM es x=decide ((len:Int)<60)):=by
   show _=_;unfold jM;rw [d.out,Xh];simp;omega
  rw [d.out];generalize jM es x=v at*;generalize Pl.pos es x.key=p at*;obtain⟨m,k,l,j⟩:=x;go_enter Tryz.func88,Tryz.ntmps88;go_wp2;go_ret;exact⟨bf g.out.symm,(oP _ _).alloc (oC _) _⟩
 ·have u:Pl.pos es x.key<len:=by
   have:=d.out;unfold Pl.there at this;simp only [Qi,ik]at this;omega
  have g:xk (jM es x=decide (0<BR x.gz x.org x.val (eF es (Pl.pos es x.key)).gz (eF es (Pl.pos es x.key)).org (eF es (Pl.pos es x.key)).val)):=by
   show _=_;unfold jM;rw [d.out];rfl
  rw [d.out];generalize jM es x=v at*;obtain⟨b,off,rfl,D,s⟩:∃b off,a=some ⟨b,off,none⟩/\b<w.heap.size/\dN w b off es:=by
   rcases c with h|h
   ·rw [h]at hl;simp at hl;omega
   ·exact h
  clear c;obtain⟨r,q,o,n⟩:=s (Pl.pos es x.key) (by omega);generalize Pl.pos es x.key=p at*;generalize eF es p=y at*;obtain⟨m,k,l,j⟩:=x;obtain⟨C,A,B,z⟩:=y;simp only at r q o n;have i:(p:Int)<(len:Int):=by omega
  go_enter Tryz.func88,Tryz.ntmps88;go_wp2_with fail;go_region_with (go_at_call 139;refine(P6 _ _ _ _ _ _ _ _ _).mono ?_;rintro e w' ⟨rfl,f⟩)
  all_goals
   go_wp2_with fail;go_ret;exact⟨bf g.out.symm,(((oP _ _).alloc (oC _) _).drew).trans (f.mono (by simp))⟩
def Pl.dY(a b:List aK):Int:=if Pl.fault a=0 then Pl.fault b else Pl.fault a
def Pl.iJ(a b:List aK):List aK:=if dY a b=0 then(Pl.mrg a [] b).1 else []
def Pl.gW(a b:List aK):List ByteArray:=if dY a b=0 then(Pl.mrg a [] b).2 else []
theorem Pl.Good.ok{es:List aK}(h:Pl.Good es):∀e∈es,e.ok:=fun e he=>adx (h.2.1 e he)
theorem WT(a:Option Addr)(len cap:Nat)(d:List aK)(b:Option Addr)(f yO:Nat)(c:List aK)(w:rU)(h:bI w a len cap d)(z:a=none->cap=0)(hB:bI w b f yO c):
  GM qh 52 #[.slice a len cap,.slice b f yO] w fun e w'=>∃I vk,e= .returned (.tuple #[I,vk,.int .i64 (dY d c)])/\
   Own w' w.heap.size I (iJ d c)/\bF w' w.heap.size vk (gW d c)/\xx w.heap.size w w':=by
 have U:xk (bI w a len cap d):=h;have HN:xk (a=none->cap=0):=z;have H:xk (bI w b f yO c):=hB;clear h z hB;obtain⟨ca,E⟩:=ai (Pl.fault d);obtain⟨cb,S⟩:=ai (Pl.fault c);by_cases m:ca=0
 ·by_cases o:cb=0
  ·subst m o;have W:xk (Pl.Good d):=(bK d).1 E.out;have V:xk (Pl.Good c):=(bK c).1 S.out;have p:xk (dY d c=0/\iJ d c=(Pl.mrg d [] c).1/\gW d c=(Pl.mrg d [] c).2):=by
    have:dY d c=0:=by unfold dY;rw [E.out,S.out];rfl
    refine⟨this,?_,?_⟩
    ·unfold iJ;rw [af this]
    ·unfold gW;rw [af this]
   have hlen:len<=60:=by have:=U.out.1;have:=W.out.1;omega
   have aR:f<=60:=by have:=H.out.1;have:=V.out.1;omega
   have N:c.length=f:=H.out.1;have aq:=H.out.2.1;have ak:=H.out.2.2.1;unfold BD at ak;go_enter Tryz.func52,Tryz.ntmps52;go_wp2_with fail;refine(dS _ _ _ d _ U.out).mono ?_;rw [E.out];rintro e w1 ⟨rfl,j⟩;go_wp2_with fail;refine(dS _ _ _ c _ (H.out.below j)).mono ?_;rw [S.out];rintro e w2 ⟨rfl,u⟩;have LK:xx w.heap.size w w2:=j.trans (u.mono j.size);clear j u;go_wp2_with (at_builtin;refine EI rfl (.const (.slice none 0 0)) (.tmp 25) rfl _ _ _ d rfl rfl (U.out.below LK) HN.out (by omega) ?_;intro I w3 y Q);have aw:xx w.heap.size w w3:=LK.trans (Q.mono LK.size);have HO:xk (Own w3 w.heap.size I d):=y.mono LK.size;clear y Q
   go_loopw [9,10,29] (fun I vk i wr=>∃(k:Nat) (ol:List aK) (q:List ByteArray) (J:xn),J=vk/\k<=f/\i= .int .i64 k/\xk (Own wr w.heap.size I ol)/\xk (bF wr w.heap.size J q)/\q.length<=k/\xk (Pl.mrg d [] c=Pl.mrg ol q (c.drop k))/\xk (Pl.Good ol)/\xx w.heap.size w wr) (fun _ _ i _=>f-(xh i).toNat)
   case atStart=>exact⟨0,d,[],_,rfl,Jj _,rfl,HO,bF.nil _ _,oC _,rfl,W,aw⟩
   case round=>
    obtain⟨k,ol,q,vk,rfl,hk,rfl,F,Qk,aL,G,T,s⟩:=hrel;by_cases aE:k<f
    ·obtain⟨bb,aM,rfl,ar,K⟩:∃b0 off,b=some ⟨b0,off,none⟩/\b0<w.heap.size/\dN w b0 off c:=by
      rcases H.out.2.2.2.2 with h|h
      ·rw [h]at N;simp at N;omega
      ·exact h
     obtain⟨q0,q1,q2,q3⟩:=K.below ar s k (by omega);have HX:xk ((eF c k).may=true):=V.out.2.1 _ (lU c k (by omega));have HD:xk (c.drop k=eF c k::c.drop (k+1)):=xg c k (by omega);have HA:xk (MV ol):=(yG ol).2 T.out.2.2;obtain⟨ao,cp,rfl,hE,hn,ad⟩:=F.out.shape T.out.ok;have HE:xk (bI wr ao ol.length cp ol):=hE;have yT:xk (ao=none->cp=0):=hn;have HL:xk (ol.length<=60):=T.out.1;clear hE hn K ad;have hz:=s.size;generalize eF c k=x at*;obtain⟨l,B,C,A⟩:=x;simp only at q0 q1 q2 q3;go_wp2_with fail;refine(qF _ _ _ ol _ _ (HE.out.below ((oP _ _).alloc (oC _) _)) HA.out HL.out).mono ?_;rintro e w4 ⟨rfl,D⟩;have L:xx (wr.heap.size+1) _ w4:=D.mono (by simp);obtain⟨x0,Z,Y,X⟩:=O9 L;have yw:=D.size;simp at yw;go_wp2_with fail
     refine(Ws _ _ _ ol ⟨l,B,C,A⟩ _ (HE.out.below (((oP _ _).alloc (oC _) _).trans (D.mono (by simp))))).mono ?_;rintro e w5 ⟨rfl,P⟩;have r:xx (wr.heap.size+1) _ w5:=L.trans (P.mono (by omega));have oq:=P.size;clear x0 Z Y X;obtain⟨x0,Z,Y,X⟩:=O9 r;have R:xx w.heap.size w w5:=(s.alloc hz _).trans (r.mono (by omega));have v:xx wr.heap.size wr w5:=((oP _ _).alloc (oC _) _).trans (r.mono (by omega));obtain⟨cc,jD⟩:=ai (jM ol ⟨l,B,C,A⟩);rw [jD.out]
     cases cc
     ·go_wp2_with fail;go_roundw
      case rel=>exact⟨k+1,ol,q,_,rfl,by omega,by go_num,F.out.below v,Qk.out.below v,by omega,by show _=_;rw [G.out,HD.out];simp [Pl.mrg,jD.out],T,R⟩
      case measure=>simp [xh];omega
     ·have HT:xk (Pl.there ol l=true->Pl.pos ol l<ol.length):=by
       intro ht;unfold Pl.there at ht;simp only [Qi,ik]at ht;exact ht.1
      go_wp2_with fail;refine(Lu _ _ _ ol (Pl.pos ol l) (Pl.there ol l) ⟨l,B,C,A⟩ _ (HE.out.below v) yT.out HL.out (Dl _ _) HT.out).mono ?_;rintro e w6 ⟨v6,rfl,n,t⟩;have aa:xx (wr.heap.size+1) _ w6:=r.trans (t.mono (by omega));have E8:=t.size;clear x0 Z Y X;obtain⟨x0,Z,Y,X⟩:=O9 aa;have av:xx wr.heap.size wr w6:=v.trans (t.mono (by omega));have ay:xk (bF w6 w.heap.size vk q):=Qk.out.below av;have CO:xk (Own w6 w5.heap.size v6 (LD ol (Pl.pos ol l) (Pl.there ol l) ⟨l,B,C,A⟩)):=n;clear n;go_wp2_with (at_builtin;refine uX rfl (.tmp 50) (.tmp 53) rfl w.heap.size vk q l rfl ay.out (by omega) rfl (by omega) ?_;intro aD w7 Uw JW O);have rV:xk (Own w7 w.heap.size v6 (Pl.ins ol ⟨l,B,C,A⟩)):=by
       have h6:=CO.out;rw [E5 ol ⟨l,B,C,A⟩]at h6;have ha:=Own.below h6 ((oP _ _).alloc (oC _) (.cells #[.string l] 9));refine(Own.kept ha JW ?_).mono (by omega);have l1:=Iy h6;have l2:=Iy Qk.out
       cases e1:v6.ownBlock with
       |none=>exact .inl rfl
       |some g=>
        right;intro e2;have a1:=(l1 g e1).1;have a2:=(l2 g e2.symm).2;omega
      have CS:xk (Pl.Good (Pl.ins ol ⟨l,B,C,A⟩)):=BC T.out HX.out jD.out;have Ze:xx w.heap.size w w7:=(R.trans (t.mono (by omega))).trans O;clear JW O;go_wp2_with fail;go_roundw
      case rel=>exact⟨k+1,_,q++ [l],_,rfl,by omega,by go_num,rV,Uw,by simp;omega,by show _=_;rw [G.out,HD.out];simp [Pl.mrg,jD.out],CS,Ze⟩
      case measure=>simp [xh];omega
    ·obtain rfl:k=f:=by omega
     go_wp2_with fail;go_ret3;have M:Pl.mrg d [] c=(ol,q):=by
      rw [G.out,Jk (by omega)];rfl
     exact⟨_,_,by rw [p.out.1];rfl,by rw [p.out.2.1,M];exact F.out,by rw [p.out.2.2,M];exact Qk.out,s⟩
  ·subst m;have an:(cb != 0)=true:=by simp [o]
   have p:xk (dY d c=cb/\iJ d c= []/\gW d c= []):=by
    have:dY d c=cb:=by unfold dY;rw [E.out,S.out];rfl
    refine⟨this,?_,?_⟩
    ·unfold iJ;rw [this,ag o]
    ·unfold gW;rw [this,ag o]
   clear o;go_enter Tryz.func52,Tryz.ntmps52;go_wp2_with fail;refine(dS _ _ _ d _ U.out).mono ?_;rw [E.out];rintro e w1 ⟨rfl,j⟩;go_wp2_with fail;refine(dS _ _ _ c _ (H.out.below j)).mono ?_;rw [S.out];rintro e w2 ⟨rfl,u⟩;go_wp2_with fail;go_ret3;exact⟨_,_,by rw [p.out.1];rfl,by rw [p.out.2.1];exact Own.nil _ _,by rw [p.out.2.2];exact bF.nil _ _,j.trans (u.mono j.size)⟩
 ·have an:(ca != 0)=true:=by simp [m]
  have p:xk (dY d c=ca/\iJ d c= []/\gW d c= []):=by
   have:dY d c=ca:=by unfold dY;rw [E.out,ag m]
   refine⟨this,?_,?_⟩
   ·unfold iJ;rw [this,ag m]
   ·unfold gW;rw [this,ag m]
  clear m;go_enter Tryz.func52,Tryz.ntmps52;go_wp2_with fail;refine(dS _ _ _ d _ U.out).mono ?_;rw [E.out];rintro e w1 ⟨rfl,j⟩;go_wp2_with fail;go_ret3;exact⟨_,_,by rw [p.out.1];rfl,by rw [p.out.2.1];exact Own.nil _ _,by rw [p.out.2.2];exact bF.nil _ _,j⟩
def Pl.Zt(k:Nat):Pl.DS:=⟨fun j=>if j<k then-1 else 0,fun _ _=>false,fun _=>false⟩
theorem uD:Tryz.zeroCells209=aad (n:=169) fun i=>rZ 0 (Zt 0) i.1:=by kernel_rfl
theorem ou.ext{w B f s t}(h:ou w B f s)(c:∀i,i<12->s.cost i=t.cost i)(b:∀i k,i<12->k<12->s.aH i k=t.aH i k)(a:∀i,i<12->s.done i=t.done i):ou w B f t:=by
 refine aj.ext h fun o d=> ?_;unfold rZ;split
 ·rfl
 ·split
  ·rw [c _ (by omega)]
  ·split
   ·rw [b _ _ (by omega) (by omega)]
   ·rw [a _ (by omega)]
theorem EP(f:Nat)(w:rU):ou (w.alloc (.cells (Tryz.zeroCells209.setIfInBounds 0 (.int .i64 f)) 209)) w.heap.size f (Zt 0):=by
 refine aj.new w _ _ _ _ (by rw [uD];simp) fun i a=> ?_;simp only [uD,Array.size_setIfInBounds,Array.size_ofFn]at a;rw [Array.getElem_setIfInBounds (by rw [uD];simpa using a)];simp only [uD,Tq];by_cases h:0=i
 ·subst h;rfl
 ·rw [ag h];unfold rZ;rw [ag (Ne.symm h),ag (Ne.symm h)]
theorem IW(f:Nat)(c:f<12)(w:rU):
  GM qh 102 #[.int .i64 f] w fun e w'=>e= .returned (.pointer (some ⟨w.heap.size,0,none⟩))/\ou w' w.heap.size f (rH f)/\xx w.heap.size w w':=by
 go_enter Tryz.func102,Tryz.ntmps102;go_wp2_with fail;go_loopw [8] (fun i wr=>∃k:Nat,k<=12/\i= .int .i64 k/\xk (ou wr w.heap.size f (Zt k))/\xk (xx w.heap.size w wr)) (fun i _=>12-(xh i).toNat)
 case atStart=>exact⟨0,by omega,rfl,EP f w,(oP _ _).alloc (oC _) _⟩
 case round=>
  obtain⟨k,l,rfl,a,d⟩:=hrel;by_cases b:k<12
  ·have hc:=a.out.cost k b;have g:=aj.soft a.out (1+k);have j:=aj.lt a.out;go_wp2_with fail;go_roundw
   case rel=>
    refine⟨k+1,by omega,by go_num,(a.out.xU k b (-1)).ext (fun i h=> ?_) (fun _ _ _ _=>rfl) (fun _ _=>rfl),d.out.setCell (oC _) _⟩;simp only [Zt,cZ];split<;>split<;>omega
   case measure=>simp [xh];omega
  ·obtain rfl:k=12:=by omega
   have hc:=a.out.cost f c;have g:=aj.soft a.out (1+f);have j:=aj.lt a.out;go_wp2_with fail;go_ret;refine⟨rfl,(a.out.xU f c 0).ext (fun i h=> ?_) (fun _ _ _ _=>rfl) (fun _ _=>rfl),d.out.setCell (oC _) _⟩;simp only [Zt,cZ,rH];split
   ·rfl
   ·simp
theorem GG:(Tryz.prog.info? 31).map (·.size)=some 12:=by kernel_rfl
theorem mO:(Tryz.prog.info? 206).map (·.size)=some 12:=by kernel_rfl
def iQ(c:Nat->Int):List xn:=(UX 12).map fun i=> .int .i64 (c i)
def jV(c:Nat->Bool):List xn:=(UX 12).map fun i=> .bool (c i)
theorem Q9(c:Nat->Int)(k:Nat)(a:k<12):(iQ c).toArray[k]? =some (.int .i64 (c k)):=by simp [iQ,a]
theorem Pg(c:Nat->Bool)(k:Nat)(a:k<12):(jV c).toArray[k]? =some (.bool (c k)):=by simp [jV,a]
theorem aX{ops:Array Oper}{rest:List Oper}{op:Oper}{a:Act}{w d:rU}{Q:Exit->Act->rU->Prop}(c:op.guard=none)(ty:Rw)(x y:Z5)(i:op.op= .store ty x y)
  (b o:Nat)(cells:List xn)(f:a.eval x= .pointer (some ⟨b,o,none⟩))(e:a.eval y= .agg cells.toArray)
  (g:w.there b o cells.length)(j:(Tryz.prog.info? ty).map (·.size)=some cells.length)(k:∀v∈cells,v.oneCell'=true)(hw:d=w.setCells b o cells)
  (h:wpList qh ops Q rest (a.put op.dst undef) d):wpList qh ops Q (op::rest) a w:=
 wpList_store_mid c ty x y i b o cells.toArray f e (by simpa using g) (by simpa using j) (all_oneCell_toArray k) (by rw [hw]at h;exact h)
theorem YW:(Tryz.prog.info? 3).map (·.size)=some 1:=by kernel_rfl
theorem VQ:(Tryz.prog.info? 4).map (·.size)=some 1:=by kernel_rfl
theorem Gz{T:Rw}{n:Nat}(h:(Tryz.prog.info? T).map (·.size)=some n):∃i,Tryz.prog.info? T=some i/\i.size=n:=by
 cases a:Tryz.prog.info? T with
 |none=>rw [a]at h;cases h
 |some i=>rw [a]at h;exact⟨i,rfl,by simpa using h⟩
theorem qj(c:Nat->Int)(k:Nat)(a:k<12)(w:rU):(Qe 31 (.agg (iQ c).toArray) (.int .i64 k)).run qh w= .ok (.int .i64 (c k)) w:=by
 have b:=Q9 c k a;simp only [SQ]at b;obtain⟨i,e,d⟩:=Gz YW;simp [Qe,part,isAgg,sizeOf,typeInfo,underlying,go_sem,Pe,Tryz.underlying3,e,d,b,a]
theorem jf(c:Nat->Bool)(k:Nat)(a:k<12)(w:rU):(Qe 206 (.agg (jV c).toArray) (.int .i64 k)).run qh w= .ok (.bool (c k)) w:=by
 have b:=Pg c k a;simp only [SQ]at b;obtain⟨i,e,d⟩:=Gz VQ;simp [Qe,part,isAgg,sizeOf,typeInfo,underlying,go_sem,Eb,Tryz.underlying4,e,d,b,a]
theorem ou.agm{w B f s}(h:ou w B f s):w.rangeAt B 1 (iQ s.cost):=aj.range h 1 _ (by simp [iQ]) fun j a=>by
 simp only [iQ,OI,OE]at a;rw [Jz _ _ _ a];simp [iQ]
theorem ou.GR{w B f s}(h:ou w B f s)(i:Nat)(b:i<12):w.rangeAt B (13+i*12) (jV (s.aH i)):=aj.range h _ _ (by simp [jV];omega) fun j a=>by
 simp only [jV,OI,OE]at a;rw [Jy _ _ _ _ b a];simp [jV]
theorem wQ(B f:Nat)(s:Pl.DS)(w:rU)(h:ou w B f s):
  GM qh 151 #[.pointer (some ⟨B,0,none⟩)] w fun e w'=>e= .returned (.int .i64 (qy s 12))/\w'=w:=by
 have F:=ae h.agm;have u:=ae h;clear h;go_enter Tryz.func151,Tryz.ntmps151;go_wp2_with (refine Ah rfl 31 (.tmp 8) rfl B 1 rfl (iQ s.cost) _ F.out Pe rfl GG ?_);go_loop [3,10] (fun b i=>∃(k:Nat) (v:Int),k<=12/\i= .int .i64 k/\b= .int .i64 v/\xk (v=qy s k)) (fun _ i=>12-(xh i).toNat)
 case atStart=>exact⟨0,-1,by omega,rfl,rfl,rfl⟩
 case round=>
  obtain⟨k,v,G,rfl,rfl,o⟩:=hrel;by_cases g:k<12
  ·have D:=qj s.cost k g w;have E:=u.out.done k g;obtain⟨c,m⟩:=ai (s.cost k);obtain⟨d,l⟩:=ai (s.done k);rw [m.out]at D;rw [l.out]at E;have p:xk (qy s (k+1)=if c= -1\/d=true then v else if v= -1\/c<s.cost v.toNat then k else v):=ae (by
    conv=>lhs;unfold qy
    rw [m.out,l.out,<-o.out])
   have H:=aj.lt u.out;by_cases j:c= -1
   ·subst j;go_wp2_with fail;go_round
    case rel=>exact⟨k+1,v,by omega,by go_num,rfl,by show _=_;rw [p.out,af (.inl rfl)]⟩
    case measure=>simp [xh];omega
   ·cases d
    case true=>
     go_wp2_with fail;go_round
     case rel=>exact⟨k+1,v,by omega,by go_num,rfl,by show _=_;rw [p.out,af (.inr rfl)]⟩
     case measure=>simp [xh];omega
    case false=>
     have x:xk (qy s (k+1)=if v= -1\/c<s.cost v.toNat then(k:Int)else v):=ae (by rw [p.out,ag (by simpa using j)]);clear p;by_cases z:v= -1
     ·subst z;go_wp2_with fail;go_round
      case rel=>exact⟨k+1,k,by omega,by go_num,rfl,by show _=_;rw [x.out,af (.inl rfl)]⟩
      case measure=>simp [xh];omega
     ·obtain⟨n,rfl,C⟩:∃n:Nat,v=n/\n<12:=by
       rcases mM s k with⟨t,_⟩|⟨n,t,I,_⟩
       ·exact absurd (o.out.trans t) z
       ·exact⟨n,o.out.trans t,by omega⟩
      have r:=u.out.cost n C;obtain⟨q,A⟩:=ai (s.cost n);rw [A.out]at r;have y:xk (qy s (k+1)=if c<q then(k:Int)else n):=ae (by
       have e:=x.out;rw [OG,A.out]at e;rw [e];by_cases a:c<q
       ·rw [af (.inr a),af a]
       ·rw [ag (by omega),ag a])
      by_cases a:c<q
      ·go_wp2_with fail;go_round
       case rel=>exact⟨k+1,k,by omega,by go_num,rfl,by show _=_;rw [y.out,af a]⟩
       case measure=>simp [xh];omega
      ·go_wp2_with fail;go_round
       case rel=>exact⟨k+1,n,by omega,by go_num,rfl,by show _=_;rw [y.out,ag a]⟩
       case measure=>simp [xh];omega
  ·obtain rfl:k=12:=by omega
   go_wp2_with fail;go_ret;exact⟨aF o.out,rfl⟩
theorem Oa:∀v∈OM 12 (Tf false),v.oneCell'=true:=by intro v a;rw [(List.mem_replicate.1 a).2];rfl
theorem Pl.LV(n j k:Nat)(h:Nat->Nat->Bool)(c:h n k=true)(i x:Nat):
  cZ (MX n j k h) j (cZ (MX n j k h j) k true) i x=MX n j (k+1) h i x:=by
 unfold MX cZ;by_cases b:i=j
 ·subst b;simp only [if_true];by_cases a:x=k
  ·subst a;simp [c]
  ·rw [ag a];congr 2
   exact decide_eq_decide.2 (by omega)
 ·simp [b]
theorem Pl.Fe(n j k:Nat)(h:Nat->Nat->Bool)(c:h n k=false)(i x:Nat):
  MX n j k h i x=MX n j (k+1) h i x:=by
 unfold MX cZ;by_cases a:i=j
 ·subst a;simp only [if_true];by_cases b:x=k
  ·subst b;simp [c]
  ·congr 2
   exact decide_eq_decide.2 (by omega)
 ·simp [a]
theorem Pl.BM(n j:Nat)(h:Nat->Nat->Bool)(i x:Nat):MX n j 0 h i x=h i x:=by
 unfold MX cZ;by_cases a:i=j
 ·subst a;simp
 ·simp [a]
theorem XL(B f n j:Nat)(c:Int)(s:Pl.DS)(w:rU)(h:ou w B f s)(S:n<12)(r:j<12):
  GM qh 152 #[.pointer (some ⟨B,0,none⟩),.int .i64 n,.int .i64 j,.int .i64 c] w fun e w'=>e= .returned (.tuple #[])/\ou w' B f (jk f n j c s)/\aI B w w':=by
 have U:=ae h;have hB:=aj.lt h;have ad:=h.cost j r;have ak:=aj.soft h (1+j);have av:=h.from;clear h;obtain⟨q,M⟩:=ai (s.cost j);obtain⟨s1,V⟩:=ai (II j c s);obtain⟨d,C⟩:=ai (Zq f n j s1.aH);have P:xk (jk f n j c s=if s1.cost j<c then s1 else⟨s1.cost,MX n j 12 d,s1.done⟩):=ae (by unfold jk;rw [V.out,C.out]);obtain⟨F,t⟩:=ai (f);rw [M.out]at ad;have J:(q= -1\/c<q)\/(q≠-1/\q<c)\/(q≠-1/\q=c):=by omega
 rcases J with X|⟨E,D⟩|⟨E,D⟩
 ·have L:xk (s1=⟨cZ s.cost j c,cZ s.aH j (fun _=>false),s.done⟩):=ae (by rw [<-V.out];unfold II;rw [M.out,af X]);have N:xk (s1.cost j=c):=ae (by rw [L.out];exact gU _ _ _);obtain⟨R,T⟩:=aV ((w.setCell ⟨B,1+j,none⟩ (.int .i64 c)).setCells B (13+j*12) (OM 12 (.bool false)));have o:xk (ou R B f s1):=ae (by rw [T.out,L.out];exact(U.out.xU j r c).Wx j r);have Q:xk (aI B w R):=ae (by rw [T.out];exact aI.setCells _ (13+j*12) _ ((aI.refl B w).setCell (1+j) (.int .i64 c)));have O:=ae (aj.there (U.out.xU j r c) (13+j*12) 12 (by omega));have aw:=aj.lt o.out;have aa:=o.out.cost j r;rw [N.out]at aa;have ar:=o.out.from;have Z:=o.out.aH j j r r;have W:=aj.soft o.out (13+j*12+j);by_cases u:n=f
  ·have p:xk (ou (R.setCell ⟨B,13+j*12+j,none⟩ (.bool true)) B F ⟨s1.cost,d,s1.done⟩):=ae (by
    rw [<-C.out,<-t.out];unfold Zq;rw [af u];exact o.out.CZ j j r r true)
   have z:=ae (Q.out.setCell (13+j*12+j) (.bool true));have y:=ae (p.out.GR n S);subst u;go_enter Tryz.func152,Tryz.ntmps152;rcases(by omega:q= -1\/(q≠-1/\c<q))with rfl|⟨E,X⟩
   all_goals
    go_wp2_with (first
     |refine aX rfl 206 (.tmp 38) (.tmp 35) rfl B (13+j*12) (OM 12 (Tf false)) rfl rfl O.out mO Oa T.out ?_
     |refine Ah rfl 206 (.tmp 64) rfl B (13+n*12) rfl (jV (d n)) _ y.out Eb rfl mO ?_)
    go_loopw [66] (fun i wr=>∃k:Nat,k<=12/\i= .int .i64 k/\xk (ou wr B F ⟨s1.cost,MX n j k d,s1.done⟩)/\xk (aI B w wr)) (fun i _=>12-(xh i).toNat)
    case atStart=>exact⟨0,by omega,rfl,p.out.ext (fun _ _=>rfl) (fun i x _ _=>(BM n j d i x).symm) (fun _ _=>rfl),z⟩
    case round=>
     obtain⟨k,Y,rfl,m,l⟩:=hrel;by_cases g:k<12
     ·have I:=fun w=>jf (d n) k g w;have H:=m.out.aH j k r g;have G:=aj.soft m.out (13+j*12+k);have K:=aj.lt m.out;obtain⟨b,A⟩:=ai (d n k);rw [A.out]at I
      cases b
      case true=>
       go_wp2_with fail;go_roundw
       case rel=>exact⟨k+1,by omega,by go_num,(m.out.CZ j k r g true).ext (fun _ _=>rfl) (fun i x _ _=>LV n j k d A.out i x) (fun _ _=>rfl),l.out.setCell _ _⟩
       case measure=>simp [xh];omega
      case false=>
       go_wp2_with fail;go_roundw
       case rel=>exact⟨k+1,by omega,by go_num,m.out.ext (fun _ _=>rfl) (fun i x _ _=>Fe n j k d A.out i x) (fun _ _=>rfl),l⟩
       case measure=>simp [xh];omega
     ·obtain rfl:k=12:=by omega
      go_wp2_with fail
      (try simp only [MJ,Exit.then])
      first|refine OO (v:= .tuple #[]) (by simp [results,Tryz.results152,go_sem]) rfl ?_|refine GX (v:= .tuple #[]) (by simp [results,Tryz.results152,go_sem]) rfl ?_
      have a:=m.out;rw [<-t.out]at a;refine⟨rfl,?_,l.out⟩;rw [P.out,ag (by rw [N.out];omega)];exact a
  ·have p:xk (ou R B F ⟨s1.cost,d,s1.done⟩):=ae (by
    rw [<-C.out,<-t.out];unfold Zq;rw [ag u];exact o.out)
   have z:=Q;have y:=ae (p.out.GR n S);go_enter Tryz.func152,Tryz.ntmps152;rcases(by omega:q= -1\/(q≠-1/\c<q))with rfl|⟨E,X⟩
   all_goals
    go_wp2_with (first
     |refine aX rfl 206 (.tmp 38) (.tmp 35) rfl B (13+j*12) (OM 12 (Tf false)) rfl rfl O.out mO Oa T.out ?_
     |refine Ah rfl 206 (.tmp 64) rfl B (13+n*12) rfl (jV (d n)) _ y.out Eb rfl mO ?_)
    go_loopw [66] (fun i wr=>∃k:Nat,k<=12/\i= .int .i64 k/\xk (ou wr B F ⟨s1.cost,MX n j k d,s1.done⟩)/\xk (aI B w wr)) (fun i _=>12-(xh i).toNat)
    case atStart=>exact⟨0,by omega,rfl,p.out.ext (fun _ _=>rfl) (fun i x _ _=>(BM n j d i x).symm) (fun _ _=>rfl),z⟩
    case round=>
     obtain⟨k,Y,rfl,m,l⟩:=hrel;by_cases g:k<12
     ·have I:=fun w=>jf (d n) k g w;have H:=m.out.aH j k r g;have G:=aj.soft m.out (13+j*12+k);have K:=aj.lt m.out;obtain⟨b,A⟩:=ai (d n k);rw [A.out]at I
      cases b
      case true=>
       go_wp2_with fail;go_roundw
       case rel=>exact⟨k+1,by omega,by go_num,(m.out.CZ j k r g true).ext (fun _ _=>rfl) (fun i x _ _=>LV n j k d A.out i x) (fun _ _=>rfl),l.out.setCell _ _⟩
       case measure=>simp [xh];omega
      case false=>
       go_wp2_with fail;go_roundw
       case rel=>exact⟨k+1,by omega,by go_num,m.out.ext (fun _ _=>rfl) (fun i x _ _=>Fe n j k d A.out i x) (fun _ _=>rfl),l⟩
       case measure=>simp [xh];omega
     ·obtain rfl:k=12:=by omega
      go_wp2_with fail
      (try simp only [MJ,Exit.then])
      first|refine OO (v:= .tuple #[]) (by simp [results,Tryz.results152,go_sem]) rfl ?_|refine GX (v:= .tuple #[]) (by simp [results,Tryz.results152,go_sem]) rfl ?_
      have a:=m.out;rw [<-t.out]at a;refine⟨rfl,?_,l.out⟩;rw [P.out,ag (by rw [N.out];omega)];exact a
 ·have L:xk (s1=s):=ae (by rw [<-V.out];unfold II;rw [M.out,ag (by omega)]);have aq:¬c<q:=by omega
  have an:¬q= -1:=E;go_enter Tryz.func152,Tryz.ntmps152;go_wp2_with fail
  (try simp only [MJ,Exit.then])
  refine GX (v:= .tuple #[]) (VB rfl _ _ _) rfl ?_;refine⟨rfl,?_,aI.refl _ _⟩;rw [P.out,L.out,M.out,af D];exact U.out
 ·have L:xk (s1=s):=ae (by rw [<-V.out];unfold II;rw [M.out,ag (by omega)]);have N:xk (s1.cost j=c):=ae (by rw [L.out,M.out,D]);have o:xk (ou w B f s1):=ae (by rw [L.out];exact U.out);have Z:=o.out.aH j j r r;have W:=aj.soft o.out (13+j*12+j);subst D;by_cases u:n=f
  ·have p:xk (ou (w.setCell ⟨B,13+j*12+j,none⟩ (.bool true)) B F ⟨s1.cost,d,s1.done⟩):=ae (by
    rw [<-C.out,<-t.out];unfold Zq;rw [af u];exact o.out.CZ j j r r true)
   have z:=ae ((aI.refl B w).setCell (13+j*12+j) (.bool true));have y:=ae (p.out.GR n S);subst u;go_enter Tryz.func152,Tryz.ntmps152
   all_goals
    go_wp2_with (refine Ah rfl 206 (.tmp 64) rfl B (13+n*12) rfl (jV (d n)) _ y.out Eb rfl mO ?_);go_loopw [66] (fun i wr=>∃k:Nat,k<=12/\i= .int .i64 k/\xk (ou wr B F ⟨s1.cost,MX n j k d,s1.done⟩)/\xk (aI B w wr)) (fun i _=>12-(xh i).toNat)
    case atStart=>exact⟨0,by omega,rfl,p.out.ext (fun _ _=>rfl) (fun i x _ _=>(BM n j d i x).symm) (fun _ _=>rfl),z⟩
    case round=>
     obtain⟨k,Y,rfl,m,l⟩:=hrel;by_cases g:k<12
     ·have I:=fun w=>jf (d n) k g w;have H:=m.out.aH j k r g;have G:=aj.soft m.out (13+j*12+k);have K:=aj.lt m.out;obtain⟨b,A⟩:=ai (d n k);rw [A.out]at I
      cases b
      case true=>
       go_wp2_with fail;go_roundw
       case rel=>exact⟨k+1,by omega,by go_num,(m.out.CZ j k r g true).ext (fun _ _=>rfl) (fun i x _ _=>LV n j k d A.out i x) (fun _ _=>rfl),l.out.setCell _ _⟩
       case measure=>simp [xh];omega
      case false=>
       go_wp2_with fail;go_roundw
       case rel=>exact⟨k+1,by omega,by go_num,m.out.ext (fun _ _=>rfl) (fun i x _ _=>Fe n j k d A.out i x) (fun _ _=>rfl),l⟩
       case measure=>simp [xh];omega
     ·obtain rfl:k=12:=by omega
      go_wp2_with fail
      (try simp only [MJ,Exit.then])
      first|refine OO (v:= .tuple #[]) (by simp [results,Tryz.results152,go_sem]) rfl ?_|refine GX (v:= .tuple #[]) (by simp [results,Tryz.results152,go_sem]) rfl ?_
      have a:=m.out;rw [<-t.out]at a;refine⟨rfl,?_,l.out⟩;rw [P.out,ag (by rw [N.out];omega)];exact a
  ·have p:xk (ou w B F ⟨s1.cost,d,s1.done⟩):=ae (by
    rw [<-C.out,<-t.out];unfold Zq;rw [ag u];exact o.out)
   have z:=ae (aI.refl B w);have y:=ae (p.out.GR n S);go_enter Tryz.func152,Tryz.ntmps152
   all_goals
    go_wp2_with (refine Ah rfl 206 (.tmp 64) rfl B (13+n*12) rfl (jV (d n)) _ y.out Eb rfl mO ?_);go_loopw [66] (fun i wr=>∃k:Nat,k<=12/\i= .int .i64 k/\xk (ou wr B F ⟨s1.cost,MX n j k d,s1.done⟩)/\xk (aI B w wr)) (fun i _=>12-(xh i).toNat)
    case atStart=>exact⟨0,by omega,rfl,p.out.ext (fun _ _=>rfl) (fun i x _ _=>(BM n j d i x).symm) (fun _ _=>rfl),z⟩
    case round=>
     obtain⟨k,Y,rfl,m,l⟩:=hrel;by_cases g:k<12
     ·have I:=fun w=>jf (d n) k g w;have H:=m.out.aH j k r g;have G:=aj.soft m.out (13+j*12+k);have K:=aj.lt m.out;obtain⟨b,A⟩:=ai (d n k);rw [A.out]at I
      cases b
      case true=>
       go_wp2_with fail;go_roundw
       case rel=>exact⟨k+1,by omega,by go_num,(m.out.CZ j k r g true).ext (fun _ _=>rfl) (fun i x _ _=>LV n j k d A.out i x) (fun _ _=>rfl),l.out.setCell _ _⟩
       case measure=>simp [xh];omega
      case false=>
       go_wp2_with fail;go_roundw
       case rel=>exact⟨k+1,by omega,by go_num,m.out.ext (fun _ _=>rfl) (fun i x _ _=>Fe n j k d A.out i x) (fun _ _=>rfl),l⟩
       case measure=>simp [xh];omega
     ·obtain rfl:k=12:=by omega
      go_wp2_with fail
      (try simp only [MJ,Exit.then])
      first|refine OO (v:= .tuple #[]) (by simp [results,Tryz.results152,go_sem]) rfl ?_|refine GX (v:= .tuple #[]) (by simp [results,Tryz.results152,go_sem]) rfl ?_
      have a:=m.out;rw [<-t.out]at a;refine⟨rfl,?_,l.out⟩;rw [P.out,ag (by rw [N.out];omega)];exact a
def OU(M:Nat->Nat->Int)(o:Nat):xn:= .int .i64 (M (o/12) (o%12))
def mF(w:rU)(B:Nat)(T:Rw)(M:Nat->Nat->Int):Prop:=aj w B T 144 (OU M)
theorem UA(M:Nat->Nat->Int)(a b:Nat)(c:b<12):OU M (a*12+b)= .int .i64 (M a b):=by
 unfold OU;rw [show(a*12+b)/12=a by omega,show(a*12+b)%12=b by omega]
theorem mF.cell{w B T M}(h:mF w B T M)(a b:Nat)(ha:a<12)(c:b<12):w.cell? ⟨B,a*12+b,none⟩=some (.int .i64 (M a b)):=by
 rw [aj.cell h _ (by omega),UA M a b c]
theorem mF.ext{w B T M M'}(h:mF w B T M)(e:∀a b,a<12->b<12->M a b=M' a b):mF w B T M':=by
 refine aj.ext h fun o c=> ?_;unfold OU;rw [e _ _ (by omega) (by omega)]
theorem mF.set{w B T M}(h:mF w B T M)(a b:Nat)(f:b<12)(v:Int):mF (w.setCell ⟨B,a*12+b,none⟩ (.int .i64 v)) B T (cZ M a (cZ (M a) b v)):=by
 refine(aj.set h _ _).ext fun o e=> ?_;unfold cZ OU;by_cases d:o=a*12+b
 ·subst d;rw [af rfl,show(a*12+b)/12=a by omega,show(a*12+b)%12=b by omega];simp
 ·rw [ag d];by_cases c:o/12=a
  ·simp only [af c];rw [ag (by omega),c]
  ·simp only [ag c]
theorem mF.row{w B T M}(h:mF w B T M)(a:Nat)(ha:a<12):w.rangeAt B (a*12) (iQ (M a)):=aj.range h _ _ (by simp [iQ];omega) fun j b=>by
 simp only [iQ,OI,OE]at b;rw [UA M a j b];simp [iQ]
def fC(M:Nat->Nat->Int):List xn:=(UX 144).map (OU M)
theorem jd(M):(fC M).length=144:=by simp [fC]
theorem BU(M):∀v∈fC M,v.oneCell'=true:=by
 intro v a;simp only [fC,List.mem_map]at a;obtain⟨o,_,rfl⟩:=a;rfl
theorem mF.all{w B T M}(h:mF w B T M):w.rangeAt B 0 (fC M):=aj.range h _ _ (by simp [fC]) fun j a=>by
 simp only [fC,OI,OE]at a;simp [fC]
theorem Nb:qL=aad (n:=144) fun i=>OU (fun _ _=>0) i.1:=by kernel_rfl
theorem mF.new(w:rU):mF (w.alloc (.cells qL 210)) w.heap.size 210 (fun _ _=>0):=by
 refine aj.new w _ _ _ _ (by rw [Nb];simp) fun i a=> ?_;simp only [Nb,Tq]
theorem yu:(Tryz.prog.info? 210).map (·.size)=some 144:=by kernel_rfl
def sZ(D:Nat->Bool)(V:Nat->xn)(o:Nat):xn:=if o%2=0 then .bool (D (o/2))else V (o/2)
def iL(w:rU)(B:Nat)(D:Nat->Bool)(ps:Nat->List (Int×Int)):Prop:=
 ∃V:Nat->xn,aj w B 170 24 (sZ D V)/\∀i,i<12->∃a len cap,V i= .slice a len cap/\(∀x,a=some x->x.block≠B)/\di w a len cap (ps i)
theorem iL.below{w w' B D ps}(h:iL w B D ps)(k:xx w.heap.size w w'):iL w' B D ps:=by
 obtain⟨V,f,d⟩:=h;refine⟨V,f.below k,fun i c=> ?_⟩;obtain⟨a,len,cap,e,b,hp⟩:=d i c;exact⟨a,len,cap,e,b,hp.below k⟩
theorem iL.drain{w B D ps}(h:iL w B D ps)(i:Nat)(b:i<12):w.cell? ⟨B,i*2,none⟩=some (.bool (D i)):=by
 obtain⟨V,a,_⟩:=h;rw [a.cell _ (by omega)];unfold sZ;rw [af (by omega),show i*2/2=i by omega]
theorem iL.afi{w B D ps}(h:iL w B D ps)(i:Nat)(b:i<12):∃a len cap,w.cell? ⟨B,i*2+1,none⟩=some (.slice a len cap)/\di w a len cap (ps i):=by
 obtain⟨V,d,c⟩:=h;obtain⟨a,len,cap,e,_,hp⟩:=c i b;refine⟨a,len,cap,?_,hp⟩;rw [d.cell _ (by omega)];unfold sZ;rw [ag (by omega),show(i*2+1)/2=i by omega,e]
theorem iL.lt{w B D ps}(h:iL w B D ps):B<w.heap.size:=by
 obtain⟨V,a,_⟩:=h;exact a.lt
def Pl.ng(ps:List (Int×Int)):Prop:=∀p∈ps,0<=p.1/\p.1<=11/\1<=p.2/\p.2<=1000
theorem Pl.ng.at{ps:List (Int×Int)}(h:ng ps)(k:Nat)(a:k<ps.length):0<=(Pl.pr ps k).1/\(Pl.pr ps k).1<=11/\1<=(Pl.pr ps k).2/\(Pl.pr ps k).2<=1000:=by
 refine h _ ?_;unfold Pl.pr;rw [List.getD_eq_getElem?_getD,List.getElem?_eq_getElem a];simp
def Pl.sayN(ps:List (Int×Int)):Nat->Nat->Int
 |0=>fun _=>0
 |k+1=>cZ (Pl.sayN ps k) (Pl.pr ps k).1.toNat (Pl.pr ps k).2
def Pl.say(ps:List (Int×Int)):Nat->Int:=Pl.sayN ps ps.length
def Pl.said(ps:Nat->List (Int×Int))(k j:Nat):Nat->Nat->Int:=fun a=>if a<k then Pl.say (ps a)else if a=k then Pl.sayN (ps a) j else fun _=>0
def Pl.yN(ps:Nat->List (Int×Int)):Nat->Nat->Int:=fun a b=>if 0<Pl.say (ps b) a then Pl.say (ps a) b else 0
def Pl.QY(ps:Nat->List (Int×Int))(k j:Nat):Nat->Nat->Int:=fun a b=>if a<k\/(a=k/\b<j)then yN ps a b else 0
theorem Pl.Vj(ps:Nat->List (Int×Int))(k j b:Nat)(v:Int)(d:(Pl.pr (ps k) j).1.toNat=b)(c:(Pl.pr (ps k) j).2=v):
  cZ (Pl.said ps k j) k (cZ (Pl.said ps k j k) b v)=Pl.said ps k (j+1):=by
 funext a
 unfold cZ Pl.said;by_cases h:a=k
 ·subst h;rw [af rfl,ag (by omega),af rfl,ag (by omega),af rfl];conv=>rhs;unfold Pl.sayN
  rw [d,c];rfl
 ·rw [ag h,ag h,ag h]
theorem Pl.Vk(ps:Nat->List (Int×Int))(k:Nat):Pl.said ps k (ps k).length=Pl.said ps (k+1) 0:=by
 funext a
 unfold Pl.said;by_cases h:a<k
 ·rw [af h,af (by omega)]
 ·rw [ag h];by_cases b:a=k
  ·subst b;rw [af rfl,af (by omega)];rfl
  ·rw [ag b,ag (by omega)];split<;>rfl
theorem Pl.Vh(ps:Nat->List (Int×Int)):Pl.said ps 0 0=fun _ _=>0:=by
 funext a
 unfold Pl.said;rw [ag (by omega)];split<;>rfl
theorem NM{P:Program}{fn:Func}{p:Tmp}{ty:Rw}{tmps:Array xn}{w:rU}{b o:Nat}{cs:List xn}{d:TypeDesc}(h:fn.results=#[.cell p ty])(hp:tmps.getD p undef= .pointer (some ⟨b,o,none⟩))
  (hc:w.rangeAt b o cs)(hu:P.underlying ty=some d)(c:d.isRow=true)(a:(P.info? ty).map (·.size)=some cs.length):
  (results fn tmps).run P w= .ok (.agg cs.toArray) w:=by
 have hl:=run_loadVar_mid (P:=P) w b o ty cs d hc hu c a;rw [Array.getD_eq_getD_getElem?]at hp;simp only [results,h];simp [hp,asAddr,hl]
theorem ad8{w w3:rU}(h:w3=((w.alloc (.cells qL 210)).alloc (.cells qL 210)).alloc (.cells qL 210)):
  w3.heap.size=w.heap.size+3/\xx w.heap.size w w3/\mF w3 w.heap.size 210 (fun _ _=>0)/\mF w3 (w.heap.size+1) 210 (fun _ _=>0)/\mF w3 (w.heap.size+1+1) 210 (fun _ _=>0):=by
 subst h;refine⟨by simp,(((oP _ _).alloc (by simp) _).alloc (by simp) _).alloc (by simp;omega) _,?_,?_,?_⟩
 ·exact aj.below (aj.below (mF.new w) ((oP _ _).alloc (oC _) _)) ((oP _ _).alloc (oC _) _)
 ·have:=mF.new (w.alloc (.cells qL 210));rw [show(w.alloc (.cells qL 210)).heap.size=w.heap.size+1 by simp]at this;exact aj.below this ((oP _ _).alloc (oC _) _)
 ·have:=mF.new ((w.alloc (.cells qL 210)).alloc (.cells qL 210));rw [show((w.alloc (.cells qL 210)).alloc (.cells qL 210)).heap.size=w.heap.size+1+1 by simp]at this;exact this
theorem aI.drew{B:Nat}{a w:rU}(h:aI B a w):aI B a w.drew:=⟨h.os,h.tape,h.output,h.size,h.block⟩
theorem mF.drew{w B T M}(h:mF w B T M):mF w.drew B T M:=h
theorem mF.alloc{w B T M}(h:mF w B T M)(o:Obj):mF (w.alloc o) B T M:=BF h o
theorem I4(B:Nat)(D:Nat->Bool)(ps:Nat->List (Int×Int))(w:rU)(h:iL w B D ps)(z:∀i,i<12->ng (ps i)):
  GM qh 150 #[.pointer (some ⟨B,0,none⟩)] w fun e w'=>e= .returned (.agg (fC (yN ps)).toArray)/\xx w.heap.size w w':=by
 have U:=ae h;have lD:=ae z;have P:=h.lt;clear h z;obtain⟨w3,r⟩:=aV (((w.alloc (.cells qL 210)).alloc (.cells qL 210)).alloc (.cells qL 210));have m:=ae (ad8 r.out);go_enter Tryz.func150,Tryz.ntmps150;go_wp2_with fail;go_loopw [13] (fun i wr=>∃k:Nat,k<=12/\i= .int .i64 k/\xk (mF wr (w.heap.size+1) 210 (Pl.said ps k 0))/\xk (aI (w.heap.size+1) w3 wr)) (fun i _=>12-(xh i).toNat)
 case atStart=>exact⟨0,by omega,rfl,by show mF _ _ _ _;rw [Vh,<-r.out];exact m.out.2.2.2.1,by show aI _ _ _;rw [<-r.out];exact aI.refl _ _⟩
 case round=>
  obtain⟨k,hk,rfl,V,t⟩:=hrel;have Q:xk (xx w.heap.size w wr):=ae (m.out.2.1.trans (t.out.below (by omega) (by have:=m.out.1;omega)));have IG:w.heap.size+3<=wr.heap.size:=by have:=t.out.size;have:=m.out.1;omega
  by_cases f:k<12
  ·have hd:=(Q.out.cell (p:=⟨B,k*2,none⟩) P).trans (U.out.drain k f);obtain⟨a,len,cap,N,hp⟩:=U.out.afi k f;have N:=(Q.out.cell (p:=⟨B,k*2+1,none⟩) P).trans N;have F:=ae hp;have an:B<wr.heap.size:=by omega
   clear hp;generalize D k=d at hd;go_wp2_with fail;go_region
   go_wp2_with fail;go_loopw [22] (fun i wr=>∃j:Nat,j<=len/\i= .int .i64 j/\xk (mF wr (w.heap.size+1) 210 (Pl.said ps k j))/\xk (aI (w.heap.size+1) w3 wr)) (fun i _=>len-(xh i).toNat)
   case atStart=>exact⟨0,by omega,rfl,V.out.alloc _,(t.out.alloc _).drew⟩
   case round=>
    obtain⟨j,hj,rfl,c,o⟩:=hrel;have J:xk (xx w.heap.size w wr):=ae (m.out.2.1.trans (o.out.below (by omega) (by have:=m.out.1;omega)));have Xq:w.heap.size+3<=wr.heap.size:=by have:=o.out.size;have:=m.out.1;omega
    have hlen:(ps k).length=len:=F.out.1;by_cases g:j<len
    ·obtain⟨b,off,rfl,H,O⟩:∃b off,a=some ⟨b,off,none⟩/\b<w.heap.size/\eP w b off (ps k):=by
      rcases F.out.2.2.2.2 with h|h
      ·rw [h]at hlen;simp at hlen;omega
      ·exact h
     obtain⟨c0,c1⟩:=(O.below H J.out) j (by omega);obtain⟨o1,Z,Y,X⟩:=(lD.out k f).at j (by omega);obtain⟨x,n⟩:∃x:Nat,xk ((Pl.pr (ps k) j).1=x):=⟨(Pl.pr (ps k) j).1.toNat,ae (by omega)⟩
     obtain⟨v,T⟩:=ai ((Pl.pr (ps k) j).2);have u:x<12:=by have:=n.out;omega
     rw [n.out]at c0;rw [T.out]at c1;clear o1 Z Y X O hlen;have ak:b<wr.heap.size:=by omega
     have A:w.heap.size+1<wr.heap.size:=by omega
     have aa:len<=9223372036854775807:=by have q:=F.out.2.1;have l:=F.out.2.2.1;unfold BD at l;omega
     have hg:=c.out.cell k x f u;have ad:=aj.soft c.out (k*12+x);go_wp2_with fail;go_region
     go_wp2_with fail;go_roundw
     case rel=>
      refine⟨j+1,by omega,by go_num,?_,((o.out.setCell _ _).alloc _).drew⟩;show mF _ _ _ _;rw [<-Vj ps k j x v (by rw [n.out];simp) T.out];exact((c.out.set k x u v).alloc _).drew
     case measure=>simp [xh];omega
    ·obtain rfl:j=len:=by omega
     go_wp2_with fail;go_roundw
     case rel=>exact⟨k+1,by omega,by go_num,by show mF _ _ _ _;rw [<-Vk,hlen];exact c.out,o⟩
     case measure=>simp [xh];omega
  ·obtain rfl:k=12:=by omega
   have CG:=ae (aj.but m.out.2.2.2.2 t.out (by omega));have L:=ae (aj.but m.out.2.2.1 t.out (by omega));rename rU=>M
   go_wp2_with fail;go_loopw [35] (fun i wr=>∃k:Nat,k<=12/\i= .int .i64 k/\xk (mF wr (w.heap.size+1+1) 210 (QY ps k 0))/\xk (aI (w.heap.size+1+1) M wr)) (fun i _=>12-(xh i).toNat)
   case atStart=>exact⟨0,by omega,rfl,mF.ext CG.out (fun a b _ _=>by unfold QY;rw [ag (by omega)]),aI.refl _ _⟩
   case round=>
    obtain⟨k,hk,rfl,R,s⟩:=hrel;by_cases f:k<12
    ·go_wp2_with fail;go_loopw [38] (fun i wr=>∃j:Nat,j<=12/\i= .int .i64 j/\xk (mF wr (w.heap.size+1+1) 210 (QY ps k j))/\xk (aI (w.heap.size+1+1) M wr)) (fun i _=>12-(xh i).toNat)
     case atStart=>exact⟨0,by omega,rfl,R,s⟩
     case round=>
      obtain⟨j,hj,rfl,c,o⟩:=hrel;by_cases g:j<12
      ·have A:=aj.but V.out o.out (by omega);have q:=mF.cell A j k g f;have l:=mF.cell A k j f g;have C:=c.out.cell k j f g;have h4:=aj.soft c.out (k*12+j);have h5:=aj.lt A;have h6:=aj.lt c.out;obtain⟨x,n⟩:=ai (Pl.say (ps j) k);obtain⟨y,S⟩:=ai (Pl.say (ps k) j);rw [show Pl.said ps 12 0 j k=x by unfold Pl.said;rw [af g,n.out]]at q;rw [show Pl.said ps 12 0 k j=y by unfold Pl.said;rw [af f,S.out]]at l;clear A;by_cases u:0<x
       ·go_wp2_with fail;go_region
        go_wp2_with fail;go_roundw
        case rel=>
         refine⟨j+1,by omega,by go_num,(c.out.set k j g y).ext (fun a b ha I=> ?_),(o.out.setCell _ _).drew⟩;unfold cZ QY;by_cases q:a=k
         ·subst q;rw [af rfl];by_cases l:b=j
          ·subst l;rw [af rfl,af (Or.inr ⟨rfl,by omega⟩)];unfold yN;rw [n.out,af u,S.out]
          ·rw [ag l];by_cases C:b<j
           ·rw [af (.inr ⟨rfl,C⟩),af (.inr ⟨rfl,by omega⟩)]
           ·rw [ag (by omega),ag (by omega)]
         ·rw [ag q];by_cases C:a<k
          ·rw [af (.inl C),af (.inl C)]
          ·rw [ag (by omega),ag (by omega)]
        case measure=>simp [xh];omega
       ·go_wp2_with fail;go_roundw
        case rel=>
         refine⟨j+1,by omega,by go_num,c.out.ext (fun a b ha I=> ?_),o⟩;unfold QY;by_cases q:a=k/\b=j
         ·obtain⟨rfl,rfl⟩:=q;rw [ag (by omega),af (.inr ⟨rfl,by omega⟩)];unfold yN;rw [n.out,ag u]
         ·by_cases l:a<k\/a=k/\b<j
          ·rw [af l,af (by omega)]
          ·rw [ag l,ag (by omega)]
        case measure=>simp [xh];omega
      ·obtain rfl:j=12:=by omega
       go_wp2_with fail;go_roundw
       case rel=>
        refine⟨k+1,by omega,by go_num,c.out.ext (fun a b ha I=> ?_),o⟩;unfold QY;by_cases l:a<k\/a=k/\b<12
        ·rw [af l,af (by omega)]
        ·rw [ag l,ag (by omega)]
       case measure=>simp [xh];omega
    ·obtain rfl:k=12:=by omega
     have HA:=ae (mF.ext (M':=yN ps) R.out (fun a b ha I=>by unfold QY;rw [af (.inl ha)]));have K:=ae HA.out.all;have E:=ae (aj.but L.out s.out (by omega));have G:=ae (aj.there E.out 0 144 (by omega));rw [<-jd (yN ps)]at G;obtain⟨W,n⟩:=aV (wr.setCells w.heap.size 0 (fC (yN ps)));have SS:xk (W.rangeAt w.heap.size 0 (fC (yN ps))):=ae (by rw [n.out];exact World.rangeAt_setCells_same _ _ _ _ G.out);go_wp2_with (first
      |refine Ah rfl 210 (.tmp 4) rfl (w.heap.size+1+1) 0 rfl (fC (yN ps)) _ K.out UQ rfl (by rw [jd];exact yu) ?_
      |refine aX rfl 210 (.tmp 2) (.tmp 58) rfl w.heap.size 0 (fC (yN ps)) rfl rfl G.out (by rw [jd];exact yu) (BU _) n.out ?_)
     refine GX (v:= .agg (fC (yN ps)).toArray) ?_ rfl ⟨rfl,?_⟩
     ·exact NM rfl rfl SS.out UQ rfl (by rw [jd];exact yu)
     ·rw [n.out];exact(m.out.2.1.trans ((t.out.below (by omega) (by have:=m.out.1;omega)).trans (s.out.below (by omega) (by have:=t.out.size;have:=m.out.1;omega)))).trans ((aI.setCells _ 0 _ (aI.refl w.heap.size wr)).below (oC _) (by have:=aj.lt E.out;omega))
def Pl.CB(s:Pl.DS)(N:Int):Prop:=∀v,-1<=s.cost v/\s.cost v<=N
theorem Pl.CB.step{s:Pl.DS}{N c:Int}(h:Pl.CB s N)(f n j:Nat)(h0: -1<=c)(a:c<=N):Pl.CB (jk f n j c s) N:=by
 have e:(jk f n j c s).cost=(II j c s).cost:=by unfold jk;split<;>rfl
 intro v;rw [e];unfold II;split
 ·simp only [cZ];split
  ·exact⟨h0,a⟩
  ·exact h v
 ·exact h v
theorem Pl.J8{L:Nat->Nat->Int}{f n:Nat}{s:Pl.DS}(h:s.cost n≠-1)(i:Nat):(Pl.dRow L f n s i).cost n=s.cost n:=by
 induction i with
 |zero=>rfl
 |succ i a=>
  unfold Pl.dRow;split
  ·by_cases b:n=i
   ·subst b;rw [qG (by rw [a];exact h) (by omega)];exact a
   ·rw [zy b];exact a
  ·exact a
theorem Pl.CB.row{L:Nat->Nat->Int}{f n:Nat}{s:Pl.DS}{N:Int}(e:∀a b,L a b<=1000)(h:Pl.CB s N)(d:s.cost n≠-1)(i:Nat):Pl.CB (Pl.dRow L f n s i) (N+1000):=by
 induction i with
 |zero=>intro v;have:=h v;exact⟨this.1,by show s.cost v<=_;omega⟩
 |succ i c=>
  unfold Pl.dRow;split
  ·refine c.step f n i ?_ ?_
   ·rw [J8 d];have:=h n;omega
   ·rw [J8 d];have:=h n;have:=e n i;omega
  ·exact c
theorem Pl.CB.iter{L:Nat->Nat->Int}{D:Nat->Bool}{f:Nat}(e:∀a b,L a b<=1000)(k:Nat):Pl.CB (dB L D f k) (1000*k):=by
 induction k with
 |zero=>intro v;show-1<=(if v=f then(0:Int)else-1)/\(if v=f then(0:Int)else-1)<=_;split<;>omega
 |succ k c=>
  unfold dB;rcases mM (dB L D f k) 12 with⟨d,_⟩|⟨n,d,j,g,i,h⟩
  ·rw [af d];intro v;have:=c v;omega
  ·rw [d,ag (by omega),OG];unfold xq;split
   ·intro v;have:=c v;exact⟨this.1,by show(dB L D f k).cost v<=_;omega⟩
   ·have:=Pl.CB.row (f:=f) (s:=kJ (dB L D f k) n) (n:=n) (N:=1000*k) e c g 12;intro v;have:=this v;omega
def oH(w:rU)(B i:Nat):Bool:=match w.cell? ⟨B,157+i,none⟩with|some (.bool b)=>b|_=>false
theorem ou.oH{w B f s}(h:ou w B f s)(i:Nat)(a:i<12):Go.Proofs.YtjjelkdajdeikaaGreatDoor.oH w B i=s.done i:=by unfold Go.Proofs.YtjjelkdajdeikaaGreatDoor.oH;rw [h.done i a]
theorem Pl.yE{d e:Nat->Bool}(n:Nat)(h:∀i,i<n->d i=e i):Aq d n=Aq e n:=by
 induction n with
 |zero=>rfl
 |succ n a=>unfold Aq;rw [a fun i b=>h i (by omega),h n (by omega)]
theorem mF.fill{w B T b}(h:mF w B T b)(M:Nat->Nat->Int):mF (w.setCells B 0 (fC M)) B T M:=by
 refine(aj.XT _ 0 _ _ h).ext fun o a=> ?_;rw [jd,af (by omega)];simp [fC,a]
theorem Pl.KO{ps:List (Int×Int)}(h:ng ps)(x:Nat):0<=Pl.say ps x/\Pl.say ps x<=1000:=by
 have key:∀k,k<=ps.length->0<=Pl.sayN ps k x/\Pl.sayN ps k x<=1000:=by
  intro k;induction k with
  |zero=>intro _;show(0:Int)<=0/\(0:Int)<=1000;omega
  |succ k a=>
   intro b;unfold Pl.sayN cZ;split
   ·have:=h.at k (by omega);omega
   ·exact a (by omega)
 exact key _ (oC _)
theorem aa0(B BT f:Nat)(D:Nat->Bool)(ps:Nat->List (Int×Int))(w:rU)(h:ou w B f (rH f))(hT:iL w BT D ps)(U:BT≠B)(hf:f<12)(S:∀i,i<12->ng (ps i))(hL:∀a b,yN ps a b<=1000):
  GM qh 103 #[.pointer (some ⟨B,0,none⟩),.pointer (some ⟨BT,0,none⟩)] w fun e w'=>e= .returned (.tuple #[])/\ou w' B f (dB (yN ps) D f 12)/\aI B w w':=by
 have HS:=ae h;have HT:=ae hT;have lD:=ae S;have HL:=ae hL;have hB:=aj.lt h;have an:=hT.lt;clear h hT S hL;go_enter Tryz.func103,Tryz.ntmps103;go_wp2_with fail;refine(I4 BT D ps w HT.out lD.out).mono ?_;rintro e t ⟨rfl,I⟩;have aD:=ae I;have O:=I.size;clear I;obtain⟨M,HM⟩:=ai (yN ps);rw [HM.out]at HL⊢;have Y:=ae (mF.new t);have yJ:=ae (aj.there Y.out 0 144 (by omega));rw [<-jd M]at yJ;obtain⟨A,HX⟩:=aV ((t.alloc (.cells qL 210)).setCells t.heap.size 0 (fC M));have HG:xk (mF A t.heap.size 210 M):=ae (by rw [HX.out];exact Y.out.fill M);have z:xk (xx w.heap.size w A):=ae (by
  rw [HX.out];exact(aD.out.alloc O _).trans ((aI.setCells _ 0 _ (aI.refl t.heap.size _)).below O (by simp;omega)))
 have W:=ae (aj.below HS.out z.out);have aL:w.heap.size<=A.heap.size:=z.out.size;have a7:t.heap.size<A.heap.size:=aj.lt HG.out;go_wp2_with (refine aX rfl 210 (.tmp 4) (.tmp 9) rfl t.heap.size 0 (fC M) rfl rfl yJ.out (by rw [jd];exact yu) (BU _) HX.out ?_);refine(wQ B f (rH f) A W.out).mono ?_;rintro e w' ⟨rfl,c⟩;rw [c];clear c w';go_wp2_with fail;go_loopw [5] (fun n wr=>∃(k:Nat) (v:Int),k<=12/\n= .int .i64 v/\xk (v=qy (dB M D f k) 12)/\xk (ou wr B f (dB M D f k))/\xk (aI B A wr)) (fun _ wr=>12-Aq (oH wr B) 12)
 case atStart=>exact⟨0,_,by omega,rfl,rfl,W.out,aI.refl _ _⟩
 case round=>
  obtain⟨k,v,hk,rfl,HV,l,q⟩:=hrel;rcases mM (dB M D f k) 12 with⟨C,_⟩|⟨m,C,J,h3,h4,_⟩
  ·obtain rfl:v= -1:=by rw [HV.out];exact C
   go_wp2_with fail
   (try simp only [MJ,Exit.then])
   first|refine OO (v:= .tuple #[]) (VB rfl _ _ _) rfl ?_|refine GX (v:= .tuple #[]) (VB rfl _ _ _) rfl ?_
   refine⟨rfl,?_,(aI.of z.out).trans q.out⟩;rw [HM.out,<-RJ C hk];exact l.out
  ·obtain rfl:v=m:=by rw [HV.out];exact C
   have aE:k<12:=O4 (L:=M) (D:=D) (f:=f) (by rw [C];omega);have E:xk (dB M D f (k+1)=xq M D f (dB M D f k) m):=ae (by
    conv=>lhs;unfold dB
    rw [C,ag (by omega),OG])
   have Kz:=ae (Pl.CB.iter (L:=M) (D:=D) (f:=f) HL.out k);clear HV;obtain⟨s,av⟩:=ai (dB M D f k);rw [av.out]at l E Kz h3 h4;have C:=ae C;have aa:xk (Aq s.done 12<Aq (dB M D f (k+1)).done 12):=ae (by
    rw [E.out,uU];exact UD J h4)
   have h3:=ae h3;have h4:=ae h4;have bb:=aj.lt l.out;have hd:=l.out.done m J;have ba:=aj.soft l.out (157+m);have r:=ae (l.out.aaW m J true);have a8:=r.out.from;have Q:wr.cell? ⟨BT,m*2,none⟩=some (.bool (D m)):=(Ee (w:=A) (q.out.block BT (by omega) U)).trans ((z.out.cell (p:=⟨BT,m*2,none⟩) an).trans (HT.out.drain m J));have bj:BT<wr.heap.size:=by have:=q.out.size;omega
   have aq:(wr.setCell ⟨B,157+m,none⟩ (.bool true)).cell? ⟨BT,m*2,none⟩=some (.bool (D m)):=(Ee (w:=wr) (BG _ _ _ _ U)).trans Q;have ay:xk ((wr.setCell ⟨B,157+m,none⟩ (.bool true)).rangeAt t.heap.size (m*12) (iQ (M m))):=ae (mF.row (T:=210) (aj.but HG.out (q.out.setCell (157+m) (.bool true)) (by omega)) m J);obtain⟨d,HD⟩:=ai (D m);rw [HD.out]at Q aq;by_cases G:d=true/\m≠f
   ·obtain⟨rfl,ad⟩:=G;have bd:¬((m:Int)=(f:Int)):=by omega
    have X:xk (xq M D f s m=kJ s m):=ae (by unfold xq;rw [HD.out,af ⟨rfl,ad⟩]);go_wp2_with fail;refine(wQ B f _ _ r.out).mono ?_;rintro e w' ⟨rfl,c⟩;rw [c];clear c w';go_wp2_with fail;go_roundw
    case rel=>exact⟨k+1,_,by omega,rfl,ae (by rw [E.out,X.out];rfl),ae (by rw [E.out,X.out];exact r.out),q.out.setCell _ _⟩
    case measure=>
     have e1:Aq (oH wr B) 12=Aq s.done 12:=yE 12 fun i F=>l.out.oH i F;have e2:Aq (oH (wr.setCell ⟨B,157+m,none⟩ (.bool true)) B) 12=Aq (cZ s.done m true) 12:=yE 12 fun i F=>r.out.oH i F;have e3:=aa.out;rw [E.out,uU]at e3;have e4:=Zw (cZ s.done m true) 12;rw [e1,e2];omega
   ·have X:xk (xq M D f s m=Pl.dRow M f m (kJ s m) 12):=ae (by unfold xq;rw [HD.out,ag G]);have Z:=ae (fun j=>Pl.CB.row (L:=M) (f:=f) (s:=kJ s m) (n:=m) (N:=1000*k) HL.out Kz.out h3.out j);rename rU=>w4
    have H:d=false\/(d=true/\((m:Int) != (f:Int))=false/\((m:Int)==(f:Int))=true):=by
     cases d
     ·exact .inl rfl
     ·have:m=f:=Classical.byContradiction fun g=>G ⟨rfl,g⟩;exact .inr ⟨rfl,by rw [this];simp,by rw [this];simp⟩
    rcases H with rfl|⟨rfl,bg,bh⟩
    all_goals
     go_wp2_with (refine Ah rfl 31 (.tmp 36) rfl t.heap.size (m*12) rfl (iQ (M m)) _ ay.out Pe rfl GG ?_);go_loopw [38] (fun i wr=>∃j:Nat,j<=12/\i= .int .i64 j/\xk (ou wr B f (Pl.dRow M f m (kJ s m) j))/\xk (aI B A wr)) (fun i _=>12-(xh i).toNat)
     case atStart=>exact⟨0,by omega,rfl,r.out,q.out.setCell _ _⟩
     case round=>
      obtain⟨j,hj,rfl,o,K⟩:=hrel;by_cases V:j<12
      ·have hg:=fun w=>qj (M m) j V w;have ak:=o.out.cost m J;have bc:=aj.lt o.out;obtain⟨x,u⟩:=ai ((Pl.dRow M f m (kJ s m) j).cost m);rw [u.out]at ak;obtain⟨y,HY⟩:=ai (M m j);rw [HY.out]at hg;have a6: -1<=x:=by rw [<-u.out];exact(Z.out j m).1
       have aR:x<=20000:=by have:=(Z.out j m).2;rw [u.out]at this;omega
       have aM:y<=1000:=by rw [<-HY.out];exact HL.out m j
       by_cases hy:0<y
       ·have qM:xk (Pl.dRow M f m (kJ s m) (j+1)=jk f m j (x+y) (Pl.dRow M f m (kJ s m) j)):=ae (by
         conv=>lhs;unfold Pl.dRow
         rw [HY.out,af hy,u.out])
        go_wp2_with fail;refine(XL B f m j (x+y) _ _ o.out J V).mono ?_;rintro e w5 ⟨rfl,R,P⟩;have aw:=ae R;have ar:=ae P;clear R P;go_wp2_with fail;go_roundw
        case rel=>exact⟨j+1,by omega,by go_num,ae (by rw [qM.out];exact aw.out),K.out.trans ar.out⟩
        case measure=>simp [xh];omega
       ·have qM:xk (Pl.dRow M f m (kJ s m) (j+1)=Pl.dRow M f m (kJ s m) j):=ae (by
         conv=>lhs;unfold Pl.dRow
         rw [HY.out,ag hy])
        go_wp2_with fail;go_roundw
        case rel=>exact⟨j+1,by omega,by go_num,ae (by rw [qM.out];exact o.out),K⟩
        case measure=>simp [xh];omega
      ·obtain rfl:j=12:=by omega
       go_wp2_with fail;refine(wQ B f _ _ o.out).mono ?_;rintro e w' ⟨rfl,c⟩;rw [c];clear c w';go_wp2_with fail;go_roundw
       case rel=>exact⟨k+1,_,by omega,rfl,ae (by rw [E.out,X.out]),ae (by rw [E.out,X.out];exact o.out),K⟩
       case measure=>
        have e1:Aq (oH w4 B) 12=Aq s.done 12:=yE 12 fun i F=>l.out.oH i F;have e2:Aq (oH wr B) 12=Aq (cZ s.done m true) 12:=yE 12 fun i F=>by rw [o.out.oH i F,DV];rfl
        have e3:=aa.out;rw [E.out,uU]at e3;have e4:=Zw (cZ s.done m true) 12;rw [e1,e2];omega
def RS(xs:List Int):List xn:=xs.map fun x=> .int .i64 x
def oh(w:rU)(base:Nat)(v:xn)(xs:List Int):Prop:=w.ownsRow base 3 1 v xs.length (RS xs)
theorem oh.nil(w:rU)(base:Nat):oh w base (.slice none 0 0) []:=Uz _ _ _ _
theorem oh.below{w w':rU}{base:Nat}{v:xn}{xs:List Int}(h:oh w base v xs)(k:xx w.heap.size w w'):oh w' base v xs:=iI h k
theorem oh.mono{w:rU}{base a:Nat}{v:xn}{xs:List Int}(h:oh w base v xs)(k:a<=base):oh w a v xs:=by
 obtain⟨h0,b⟩:=h;refine⟨h0,?_⟩;rcases b with b|⟨g,cap,cur,rfl,d,c⟩
 ·exact .inl b
 ·exact .inr ⟨g,cap,cur,rfl,by omega,c⟩
theorem oh.slice{w:rU}{base:Nat}{v:xn}{xs:List Int}(h:oh w base v xs):∃a cap,v= .slice a xs.length cap:=by
 obtain⟨_,⟨h,b⟩|⟨g,cap,cur,rfl,_⟩⟩:=h
 ·rw [b];exact⟨_,_,h⟩
 ·exact⟨_,_,rfl⟩
theorem Uo:(Tryz.prog.info? 3).map (fun i=>(i.zero,i.size,i.bytes))=some (some (.int .i64 0),1,8):=by kernel_rfl
theorem nX{tS:Rw}(B:Tryz.prog.underlying tS=some (.slice 3))
  {w:rU}{ops:Array Oper}{rest:List Oper}{o:Oper}{a:Act}{Q:Exit->Act->rU->Prop}(q:o.guard=none)(s x:Z5)
  (y:o.op= .call {callee:= .builtin .append,args:=#[s,x],argTypes:=#[tS,tS]})
  (base:Nat)(v:xn)(xs:List Int)(p:Int)(t:a.eval s=v)(b:oh w base v xs)(d:base<=w.heap.size)(r:a.eval x= .slice (some ⟨w.heap.size,0,none⟩) 1 1)(C:xs.length<=1000000)
  (h:∀e w',oh w' base e (xs++ [p])->xx base w w'->wpList qh ops Q rest (a.put o.dst e) w'):
  wpList qh ops Q (o::rest) a (w.alloc (.cells #[.int .i64 p] 3)):=by
 obtain⟨i0,n,l,i,g⟩:=partsOf Uo;refine X6 (w:=_) q s x tS y base 3 i0 _ 1 8 B n l i g rfl (by decide) _ xs.length (RS xs) t (Rq b _) ⟨w.heap.size,0,none⟩ 1 1 [.int .i64 p] r rfl ?_ ?_ (by unfold BD;omega) (by omega) (by simp;omega) ?_
 ·intro j u f;rw [bD];match j,f with
  |0,f=>simp at f;subst f;simp
 ·intro u hu;simp at hu;subst hu;rfl
 ·intro e w' c A _;have m:=Iy b;refine h e w' ?_ (((oP _ _).alloc d _).grown A (by simp;omega) (fun k z=>(m k z).1));unfold oh;simpa [RS]using c
def cellsW:List (Int×xn×List Int)->List xn
 | []=> []
 |t::r=> .int .i64 t.1::t.2.1::cellsW r
theorem zA:∀a b:List (Int×xn×List Int),cellsW (a++b)=cellsW a++cellsW b
 | [],_=>rfl
 |t::r,b=>by simp [cellsW,zA r b]
def qV(w:rU)(base:Nat)(v:xn)(ts:List (Int×xn×List Int)):Prop:=
 w.ownsRow base 126 2 v ts.length (cellsW ts)/\∀t∈ts,oh w 0 t.2.1 t.2.2
theorem qV.nil(w:rU)(base:Nat):qV w base (.slice none 0 0) []:=⟨Uz _ _ _ _,by simp⟩
theorem qV.below{w w':rU}{base:Nat}{v:xn}{ts:List (Int×xn×List Int)}(h:qV w base v ts)(k:xx w.heap.size w w'):qV w' base v ts:=
 ⟨iI h.1 k,fun t a=>(h.2 t a).below k⟩
theorem abl:(Tryz.prog.info? 126).map (fun i=>(i.zero,i.size,i.bytes))=some (some (.agg #[.int .i64 0,.slice none 0 0]),2,32):=by kernel_rfl
theorem xE
  {w:rU}{ops:Array Oper}{rest:List Oper}{o:Oper}{a:Act}{Q:Exit->Act->rU->Prop}(G:o.guard=none)(s x:Z5)
  (O:o.op= .call {callee:= .builtin .append,args:=#[s,x],argTypes:=#[122,122]})
  (base:Nat)(v:xn)(ts:List (Int×xn×List Int))(c:Int)(C:xn)(xs:List Int)(N:a.eval s=v)(b:qV w base v ts)(hh:oh w 0 C xs)(m:base<=w.heap.size)(M:a.eval x= .slice (some ⟨w.heap.size,0,none⟩) 1 1)(R:ts.length<=1000000)
  (h:∀n w',qV w' base n (ts++ [(c,C,xs)])->xx base w w'->wpList qh ops Q rest (a.put o.dst n) w'):
  wpList qh ops Q (o::rest) a (w.alloc (.cells #[.int .i64 c,C] 126)):=by
 obtain⟨i0,E,B,A,z⟩:=partsOf abl;obtain⟨ah,H,rfl⟩:=hh.slice;refine X6 (w:=_) G s x 122 O base 126 i0 _ 2 32 Tryz.underlying122 E B A z rfl (by decide) _ ts.length (cellsW ts) N (Rq b.1 _) ⟨w.heap.size,0,none⟩ 1 1 [.int .i64 c,.slice ah xs.length H] M rfl ?_ ?_ (by unfold BD;omega) (by omega) (by simp;omega) ?_
 ·intro j u l;rw [bD];match j,l with
  |0,l=>simp at l;subst l;simp
  |1,l=>simp at l;subst l;simp
 ·intro u hu;simp at hu;rcases hu with rfl|rfl<;>rfl
 ·intro n w' i I _;have D:=Iy b.1;refine h n w' ⟨?_,?_⟩ (((oP _ _).alloc m _).grown I (by simp;omega) (fun k P=>(D k P).1))
  ·rw [zA];simpa [cellsW]using i
  ·have key:∀f d,oh w 0 f d->oh w' 0 f d:=by
    intro f d ⟨L,y⟩;refine⟨L,?_⟩;rcases y with y|⟨g,cap,cur,rfl,K,p,qr⟩
    ·exact .inl y
    ·refine .inr ⟨g,cap,cur,rfl,K,?_,qr⟩;have F:=aG p;rw [I.block g (by simp;omega) ?_,Wq _ _ _ F]
     ·exact p
     ·intro e;rcases b.1.2 with⟨rfl,_⟩|⟨g2,J,S,rfl,_,r,_⟩
      ·simp [WZ]at e
      ·simp only [WZ,aae]at e;rw [e,r]at p;simp at p
   intro t q;simp only [List.mem_append,List.mem_singleton]at q;rcases q with q|rfl
   ·exact key _ _ (b.2 t q)
   ·exact key _ _ hh
def Pl.hopsL(h:Nat->Bool):Nat->List Int
 |0=> []
 |k+1=>if h k=true then Pl.hopsL h k++ [(k:Int)]else Pl.hopsL h k
theorem Pl.DT(h:Nat->Bool)(k:Nat):(Pl.hopsL h k).length<=k:=by
 induction k with
 |zero=>exact oC _
 |succ k a=>
  unfold Pl.hopsL;split
  ·rw [IA];show _+1<=_;omega
  ·omega
theorem Pl.wW{h:Nat->Bool}{k:Nat}(e:h k=true):Pl.hopsL h (k+1)=Pl.hopsL h k++ [(k:Int)]:=by
 show(if h k=true then _ else _)=_;rw [af e]
theorem Pl.pR{h:Nat->Bool}{k:Nat}(e:h k=false):Pl.hopsL h (k+1)=Pl.hopsL h k:=by
 show(if h k=true then _ else _)=_;rw [ag (by rw [e];decide)]
def Pl.EM(s:Pl.DS):Nat->List (Int×List Int)
 |0=> []
 |k+1=>EM s k++ [(s.cost k,Pl.hopsL (s.aH k) 12)]
def Pl.flat(ts:List (Int×xn×List Int)):List (Int×List Int):=ts.map fun t=>(t.1,t.2.2)
theorem XF(B f:Nat)(s:Pl.DS)(w:rU)(h:ou w B f s):
  GM qh 104 #[.pointer (some ⟨B,0,none⟩)] w fun e w'=>∃v ts,e= .returned v/\qV w' w.heap.size v ts/\Pl.flat ts=EM s 12/\xx w.heap.size w w':=by
 have Y:=ae h;have hB:=aj.lt h;clear h;go_enter Tryz.func104,Tryz.ntmps104;go_wp2_with fail;go_loopw [3,8] (fun vl i wr=>∃(k:Nat) (v:xn) (ts:List (Int×xn×List Int)),v=vl/\k<=12/\i= .int .i64 k/\xk (qV wr w.heap.size v ts)/\xk (Pl.flat ts=EM s k)/\xk (ts.length=k)/\xk (xx w.heap.size w wr)) (fun _ i _=>12-(xh i).toNat)
 case atStart=>exact⟨0,.slice none 0 0,[],rfl,by omega,rfl,qV.nil _ _,rfl,rfl,oP _ _⟩
 case round=>
  obtain⟨k,v,ts,D,hk,rfl,M,P,N,y⟩:=hrel;subst D;by_cases q:k<12
  ·have m:=ae (aj.below Y.out y.out);have hc:=ou.cost m.out k q;have V:=aj.lt m.out;obtain⟨c,Q⟩:=ai (s.cost k);rw [Q.out]at hc;obtain⟨H,O⟩:=ai (s.aH k);have I:xk ((wr.alloc (.cells #[.int .i64 c,.slice none 0 0] 126)).rangeAt B (13+k*12) (jV H)):=ae (by
    rw [<-O.out];exact World.rangeAt_alloc (ou.GR m.out k q) _)
   rename rU=>n
   go_wp2_with (refine Ah rfl 206 (.tmp 22) rfl B (13+k*12) rfl (jV H) _ I.out Eb rfl mO ?_);go_loopw [24] (fun i wr=>∃(j:Nat) (E:xn),j<=12/\i= .int .i64 j/\xk (wr.heap[n.heap.size]? =some (.cells #[.int .i64 c,E] 126))/\xk (oh wr (n.heap.size+1) E (Pl.hopsL H j))/\xk (xx n.heap.size n wr)) (fun i _=>12-(xh i).toNat)
   case atStart=>exact⟨0,.slice none 0 0,by omega,rfl,bW _ _,oh.nil _ _,(oP _ _).alloc (oC _) _⟩
   case round=>
    obtain⟨j,E,hj,rfl,u,o,g⟩:=hrel;obtain⟨a3,a,rfl⟩:=o.out.slice;obtain⟨z0,K,f0,f1,W⟩:=aQ u.out;by_cases F:j<12
    ·have U:=fun w=>jf H j F w;obtain⟨b,J⟩:=ai (H j);rw [J.out]at U;have hlen:=DT H j;obtain⟨p,x⟩:=ai ((Pl.hopsL H j).length);rw [x.out]at u o K hlen
     cases b
     case true=>
      have z:=ae (wW J.out);go_wp2_with (at_builtin;refine nX Tryz.underlying37 rfl (.tmp 30) (.tmp 32) rfl (n.heap.size+1) (.slice a3 p a) (Pl.hopsL H j) j rfl o.out (by omega) rfl (by have:=x.out;omega) ?_;intro v5 S l d;obtain⟨a5,r,rfl⟩:=l.slice;obtain⟨T,L⟩:=ai ((Pl.hopsL H j++ [(j:Int)]).length);rw [L.out]at l;have A:=ae l;have C:=ae d;have G:=(d.block n.heap.size (Xc _)).trans u.out;obtain⟨y0,y1,g0,g1,X⟩:=aQ G;have Z:=ae G;rw [L.out];clear l d G);go_roundw
      case rel=>
       refine⟨j+1,.slice a5 T r,by omega,by go_num,gK Z.out _,ae ?_,(g.out.trans (C.out.mono (Nat.le_succ _))).setCell (oC _) _⟩;rw [z.out];exact ownsRow_setCell_below A.out (Xc _) _
      case measure=>simp [xh];omega
     case false=>
      have z:=ae (pR J.out);go_wp2_with fail;go_roundw
      case rel=>exact⟨j+1,.slice a3 p a,by omega,by go_num,u,ae (by rw [z.out];exact o.out),g⟩
      case measure=>simp [xh];omega
    ·obtain rfl:j=12:=by omega
     have HOr:=ae (M.out.below g.out);have t:=ae (o.out.mono (Jj _));obtain⟨p,x⟩:=ai ((Pl.hopsL H 12).length);rw [x.out]at u o t K;have R:=y.out.size;have IG:=g.out.size;go_wp2_with (at_builtin;refine xE rfl (.tmp 36) (.tmp 38) rfl w.heap.size v ts c (.slice a3 p a) (Pl.hopsL H 12) rfl HOr.out t.out (by omega) rfl (by have:=N.out;omega) ?_;intro v5 S l d;have A:=ae l;have C:=ae d;clear l d);go_roundw
     case rel=>
      refine⟨k+1,_,ts++ [(c,.slice a3 p a,Pl.hopsL H 12)],rfl,by omega,by go_num,A,ae ?_,ae (by simp [N.out]),(y.out.trans (g.out.mono R)).trans C.out⟩;show(ts++_).map _=EM s k++_;rw [List.map_append,<-P.out,<-Q.out,<-O.out];rfl
     case measure=>simp [xh];omega
  ·obtain rfl:k=12:=by omega
   go_wp2_with fail;go_ret;exact⟨_,ts,rfl,M.out,P.out,y.out⟩
end Go.Proofs.YtjjelkdajdeikaaGreatDoor
