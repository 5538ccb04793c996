/-
  Facts put together.
-/
import Derived.Test.YtjjelkdajdeikaaGreatDoorNetRunsC15
import Derived.Test.YtjjelkdajdeikaaGreatDoorCards
import Derived.Test.YtjjelkdajdeikaaGreatDoorTie
import Derived.Deep.DeepHandedRow
open Go.Proofs.Tryz renaming zeroCells34→oC,prog→xk,underlying22→Ee
open Nat renaming lt_of_lt_of_le→oP,le_refl→rU,zero_le→xh
open Go.RowKit renaming Below→qh,intOf→Ah,Hid→Eb
open Go.RowKit.Below renaming refl→qL
open Go renaming World→xn,maxLen→xx,wpQuiet_nil→GM,Calls→Iy
open Go.Value.slice renaming injEq→BD
open Go.World renaming ownsRow_nil→BG
open Go.OpenSpec renaming ofChange→GX
set_option maxHeartbeats 8000000
namespace Go.Proofs.YtjjelkdajdeikaaGreatDoor
open Pl
open Go.RowKit
set_option maxRecDepth 20000
theorem zC.agt{w:xn}{base:Nat}{v:Value}{xs:List Pl.Ac}(h:zC w base v xs)(b:∀x∈xs,Jn x):∃a cap,v= .slice a xs.length cap/\oK w a xs.length cap xs/\(a=none->xs.length=0/\cap=0):=by
 obtain⟨a,cap,e,i,f,_⟩:=h.ai6 b;refine⟨a,cap,e,i,fun c=>⟨f c,?_⟩⟩;subst c e;obtain⟨_,⟨h,_⟩|⟨g,d,cur,h,_⟩⟩:=h
 ·simp only [BD]at h;exact h.2.2
 ·simp only [BD]at h;exact absurd h.1 (by simp)
theorem KQ(a b:Option Addr)(len h t:Nat)(l:List Int)(w:xn)(g:fV w a len h l)(m:fV w b len t l):
  Iy xk 14 #[.slice a len h,.slice b len t] w fun e w'=>e= .returned (.bool true)/\qh w.heap.size w w':=by
 have C:=ae g;have s:=ae m;have v:Eb (l.length=len):=ae g.1;have B:=g.2.1;have o:=g.2.2.1;have A:=m.2.1;have n:=m.2.2.1;unfold xx at o n;clear g m;go_enter Tryz.func14,Tryz.ntmps14;go_wp2_with fail;go_loopw [5] (fun i wr=>∃k:Nat,k<=len/\i= .int .i64 k/\Eb (qh w.heap.size w wr)) (fun i _=>len-(Ah i).toNat)
 case atStart=>exact⟨0,xh _,rfl,qL _ _⟩
 case round=>
  obtain⟨k,G,rfl,j⟩:=hrel;by_cases c:k<len
  ·obtain⟨g1,z,rfl,r,f⟩:=C.out.at c;obtain⟨g2,x,rfl,q,d⟩:=s.out.at c;have c1:=(j.out.cell (p:=⟨g1,z+k,none⟩) r).trans (f k (by rw [v.out];exact c));have c2:=(j.out.cell (p:=⟨g2,x+k,none⟩) q).trans (d k (by rw [v.out];exact c));generalize Pl.nm l k=y at*;clear f d;have F:=j.out.size;have E:g1<wr.heap.size:=by omega
   have D:g2<wr.heap.size:=by omega
   have u:(k:Int)<(len:Int):=by omega
   go_wp2_with fail;go_region
   go_wp2_with fail;go_roundw
   case rel=>exact⟨k+1,by omega,by go_num,j.out.drew⟩
   case measure=>simp [Ah];omega
  ·obtain rfl:k=len:=by omega
   go_wp2_with fail;go_ret;exact⟨rfl,j.out⟩
theorem FV(a b:Option Addr)(len cap o:Nat)(es:List aK)(w:xn)(ha:bI w a len cap es)(D:bI w b len o es):
  Iy xk 16 #[.slice a len cap,.slice b len o] w fun e w'=>e= .returned (.bool true)/\qh w.heap.size w w':=by
 obtain⟨hl,hc,hm,_,c⟩:=ha;obtain⟨_,C,l,_,q⟩:=D;unfold xx at hm l;have F:Eb (es= []\/∃b off,a=some ⟨b,off,none⟩/\b<w.heap.size/\dN w b off es):=c;have E:Eb (es= []\/∃d off,b=some ⟨d,off,none⟩/\d<w.heap.size/\dN w d off es):=q;clear c q;go_enter Tryz.func16,Tryz.ntmps16;go_wp2;go_loopw [5] (fun i wr=>∃k:Nat,k<=len/\i= .int .i64 k/\qh w.heap.size w wr) (fun i _=>len-(Ah i).toNat)
 case atStart=>exact⟨0,xh _,rfl,qL _ _⟩
 case round=>
  obtain⟨k,M,rfl,j⟩:=hrel;by_cases B:k<len
  ·obtain⟨b1,L,rfl,n,g⟩:∃b off,a=some ⟨b,off,none⟩/\b<w.heap.size/\dN w b off es:=by
    rcases F.out with h|h
    ·rw [h]at hl;simp at hl;omega
    ·exact h
   obtain⟨N,K,rfl,m,f⟩:∃d off,b=some ⟨d,off,none⟩/\d<w.heap.size/\dN w d off es:=by
    rcases E.out with h|h
    ·rw [h]at hl;simp at hl;omega
    ·exact h
   obtain⟨A,z,x,v⟩:=g.below n j k (by omega);obtain⟨u,t,s,r⟩:=f.below m j k (by omega);clear g f;generalize eF es k=y at*;obtain⟨J,H,I,G⟩:=y;simp only at A z x v u t s r;have p:(k:Int)<(len:Int):=by omega
   go_wp2_with fail;go_quiet (fail);go_wp2;go_roundw
   case rel=>exact⟨k+1,by omega,by go_num,below_drewN j _⟩
   case measure=>simp [Ah];omega
  ·obtain rfl:k=len:=by omega
   go_wp2;go_ret;exact⟨rfl,j⟩
def rP(w:xn)(a:Option Addr)(len cap:Nat)(ks:List ByteArray):Prop:=
 ks.length=len/\len<=cap/\cap<=xx/\(ks= []\/∃b off,a=some ⟨b,off,none⟩/\b<w.heap.size/\∀i,i<ks.length->w.cell? ⟨b,off+i,none⟩=some (.string (ks.getD i ⟨#[]⟩)))
theorem bF.shape{w:xn}{base:Nat}{v:Value}{b:List ByteArray}(h:bF w base v b):
  ∃a cap,v= .slice a b.length cap/\rP w a b.length cap b/\(a=none->cap=0)/\(∀x,a=some x->base<=x.block):=by
 obtain⟨_,h|⟨g,cap,cur,rfl,l,hh,d,hm,m,j⟩⟩:=h
 ·obtain⟨rfl,d⟩:=h;have f:b= []:=List.length_eq_zero_iff.1 d;subst f;exact⟨none,0,rfl,⟨rfl,rU _,by simp,.inl rfl⟩,fun _=>rfl,by simp⟩
 ·refine⟨some ⟨g,0,none⟩,cap,rfl,⟨rfl,d,hm,?_⟩,by simp,by rintro x ⟨⟩;exact l⟩;right;refine⟨g,0,rfl,lt_of_block hh,fun i k=> ?_⟩;have c:(b.map Value.string)[i]? =some (.string (b.getD i ⟨#[]⟩)):=by
   simp [List.getD,k]
  rw [<-j]at c;have e:cur[i]? =some (.string (b.getD i ⟨#[]⟩)):=by
   rw [List.getElem?_take]at c;split at c
   ·rw [<-Array.getElem?_toList];exact c
   ·cases c
  simp only [World.cell?,hh,Nat.zero_add];simpa using e
theorem rP.below{w w':xn}{a:Option Addr}{len cap:Nat}{d:List ByteArray}(h:rP w a len cap d)(k:qh w.heap.size w w'):rP w' a len cap d:=by
 obtain⟨m,l,j,c⟩:=h;refine⟨m,l,j,?_⟩;rcases c with c|⟨b,off,rfl,e,f⟩
 ·exact .inl c
 ·exact .inr ⟨b,off,rfl,oP e k.size,fun i g=>(k.cell (p:=⟨b,off+i,none⟩) e).trans (f i g)⟩
theorem KP(a b:Option Addr)(len cap q:Nat)(c:List ByteArray)(w:xn)(ha:rP w a len cap c)(z:rP w b len q c):
  Iy xk 15 #[.slice a len cap,.slice b len q] w fun e w'=>e= .returned (.bool true)/\qh w.heap.size w w':=by
 obtain⟨hl,hc,hm,d⟩:=ha;obtain⟨_,x,m,s⟩:=z;unfold xx at hm m;have C:Eb (c= []\/∃b off,a=some ⟨b,off,none⟩/\b<w.heap.size/\∀i,i<c.length->w.cell? ⟨b,off+i,none⟩=some (.string (c.getD i ⟨#[]⟩))):=d;have B:Eb (c= []\/∃f off,b=some ⟨f,off,none⟩/\f<w.heap.size/\∀i,i<c.length->w.cell? ⟨f,off+i,none⟩=some (.string (c.getD i ⟨#[]⟩))):=s;clear d s;go_enter Tryz.func15,Tryz.ntmps15;go_wp2;go_loopw [5] (fun i wr=>∃k:Nat,k<=len/\i= .int .i64 k/\qh w.heap.size w wr) (fun i _=>len-(Ah i).toNat)
 case atStart=>exact⟨0,xh _,rfl,qL _ _⟩
 case round=>
  obtain⟨k,F,rfl,l⟩:=hrel;by_cases v:k<len
  ·obtain⟨b1,u,rfl,o,j⟩:∃b off,a=some ⟨b,off,none⟩/\b<w.heap.size/\∀i,i<c.length->w.cell? ⟨b,off+i,none⟩=some (.string (c.getD i ⟨#[]⟩)):=by
    rcases C.out with h|h
    ·rw [h]at hl;simp at hl;omega
    ·exact h
   obtain⟨A,t,rfl,n,g⟩:∃f off,b=some ⟨f,off,none⟩/\f<w.heap.size/\∀i,i<c.length->w.cell? ⟨f,off+i,none⟩=some (.string (c.getD i ⟨#[]⟩)):=by
    rcases B.out with h|h
    ·rw [h]at hl;simp at hl;omega
    ·exact h
   have E:=(l.cell (p:=⟨b1,u+k,none⟩) o).trans (j k (by omega));have D:=(l.cell (p:=⟨A,t+k,none⟩) n).trans (g k (by omega));clear j g;generalize c.getD k ⟨#[]⟩=y at*;have r:(k:Int)<(len:Int):=by omega
   go_wp2_with fail;go_quiet (fail);go_wp2;go_roundw
   case rel=>exact⟨k+1,by omega,by go_num,below_drewN l _⟩
   case measure=>simp [Ah];omega
  ·obtain rfl:k=len:=by omega
   go_wp2;go_ret;exact⟨rfl,l⟩
namespace netRuns
open Go.ChangeShapes Go.WideShapes Go.ChangeAt Go.RowKit
set_option linter.unusedVariables false
theorem L9{w:xn}{ops:Array Oper}{rest:List Oper}{o:Oper}{a:Act}{Q:Exit->Act->xn->Prop}(l:o.guard=none)(s x:Operand)
  (y:o.op= .call {callee:= .builtin .append,args:=#[s,x],argTypes:=#[22,22]})
  (ao:Option Addr)(len cap:Nat)(es:List Pl.Ac)(v:a.eval s= .slice none 0 0)(t:a.eval x= .slice ao len cap)(E:oK w ao len cap es)(f:ao=none->cap=0)(G:len*88<=140737488351232)
  (h:∀m w',zC w' w.heap.size m es->qh w.heap.size w w'->wpList xk ops Q rest (a.put o.dst m) w'):wpList xk ops Q (o::rest) a w:=by
 obtain⟨i0,i,q,p,n⟩:=partsOf abn;obtain⟨hl,hc,hm,A,d⟩:=E;rcases ao with _|F
 ·obtain rfl:=f rfl;obtain rfl:len=0:=by omega
  obtain rfl:es= []:=List.length_eq_zero_iff.1 hl;exact wpList_append_own_none l s x 22 y w.heap.size 51 i0 9 Ee i _ 0 [] v (BG _ _ _ _) t (h _ _ (zC.nil _ _) (qL _ _))
 ·refine wpList_append_own (w:=w) l s x 22 y w.heap.size 51 i0 _ 9 88 Ee i q p n rfl (by decide) _ 0 [] v (BG _ _ _ _) F len cap (cellsAc es) t (by rw [rM,hl]) ?_ (EG _) (by unfold xx;omega) (by omega) (rU _) ?_
  ·intro j u g;rcases d with rfl|⟨b,off,r,_,z⟩
   ·simp [cellsAc]at g
   ·cases r;rw [bD];have C:j<es.length*9:=by have:=(List.getElem?_eq_some_iff.1 g).1;rwa [rM]at this
    have e:j=j/9*9+j%9:=by omega
    rw [e]at g⊢;rw [xy es (j/9) (j%9) (by omega) (by omega)]at g;have:=z (j/9) (by omega) (j%9) u g;rw [<-this,Nat.add_assoc]
  ·intro m w' c D _;rw [List.nil_append]at c;exact h m w' (Yo c rfl) ((qL _ _).grown D (rU _) (by intro k B;cases B))
theorem Kv.own{w:xn}{base:Nat}{v:Value}{ts:List D6}(h:Kv w base v ts):mD w 0 v ts:=⟨World.dh h.1 (xh _),h.2⟩
theorem walk(a:Option Addr)(len cap:Nat)(es:List Pl.Ac)(w:xn)(h:oK w a len cap es)(I:a=none->cap=0)(hb:len*88<=140737488351232)(hT:Ff w):
  Iy xk 3 #[.slice a len cap] w fun e w'=>e= .returned (.bool true)/\qh w.heap.size w w':=by
 have HA:=ae h;have HN:=ae I;have HT:=ae hT;have lF:=ae h.1;have lD:=ae h.2.2.2.1;have bB:=ae hb;have bN:=h.2.1;have bm:=h.2.2.1;unfold xx at bm;clear h I hT hb;go_enter Tryz.func3,Tryz.ntmps3;go_wp2_with (at_builtin;refine L9 rfl (.const (.slice none 0 0)) (.tmp 12) rfl _ _ _ es rfl rfl HA.out HN.out bB.out ?_;intro v1 w1 aL ba;obtain⟨a1,c1,rfl,a6,-⟩:=zC.agt aL lD.out;have bk:=ae a6;have u:=ae ba;clear aL a6 ba);rw [lF.out]at bk⊢;by_cases bb:400<len
 ·refine(ZY a1 len c1 w1 bb).mono ?_;rintro e v ⟨rfl,ak⟩;rw [ak];clear ak v;go_wp2_with fail;refine(Jd a len cap w1 bb).mono ?_;rintro e w3 ⟨D,P,K,T,L,rfl,h1,d⟩;have t:Eb (qh w.heap.size w w3):=ae (u.out.trans (d.mono u.out.size));have H1:=ae h1;have J:=t.out.size;obtain⟨l,Z⟩:=aV ((w3.alloc (.cells oC 34)).setCells w3.heap.size 0 (ax D P K T L));have g:bV (w3.alloc (.cells oC 34)) w3.heap.size (fun _=>false) nV nV nV (fun _ _=>0):=by rw [qW];exact bV.new w3 _ _ _ _ _
  have yJ:Eb ((w3.alloc (.cells oC 34)).there w3.heap.size 0 (ax D P K T L).length):=ae (by rw [bH];exact g.there 0 192 (by omega));have V:Eb (qh w.heap.size w l):=ae (t.out.trans ((((qL _ _).alloc (rU _) _).trans ((by rw [Z.out];exact aI.setCells _ 0 _ (aI.refl _ _):aI w3.heap.size (w3.alloc (.cells oC 34)) l).below (rU _) (by simp))).mono J));clear h1 d g;go_wp2_with (refine aX rfl 34 (.tmp 7) (.tmp 22) rfl w3.heap.size 0 (ax D P K T L) rfl rfl yJ.out (by rw [bH];exact fD) H1.out Z.out ?_);go_ret;exact⟨rfl,V.out⟩
 ·refine(ab2 a1 len c1 es w1 bk.out (by omega) (HT.out.below u.out)).mono ?_;rintro e v ⟨vr,vs,rfl,an,a8⟩;have W:Eb (qh w.heap.size w v):=ae (u.out.trans (a8.mono u.out.size));obtain⟨ts,ar,cr,gs,cs,A,C,rfl,rfl,q1,q2,q3,q4,q5,q6,q7,q8,q9,aa⟩:=ab3.read an;rw [lF.out]at q2 q3 q8⊢;unfold xx at q4 q6;have Xu:=ae q1;have bj:=ae q2;have bz:=ae q8;have bx:=ae q9;have bc:=ae aa;have aD:=q7;clear an a8 q1 q2 q8 q9 aa q7;go_wp2_with fail;refine(MG a len cap es v (HA.out.below W.out) (by omega)).mono ?_;rintro e w3 ⟨v3,us,P,K,T,rfl,O,M,c,d⟩;obtain⟨s,HS⟩:=ai (Pl.runN Pl.Nt.new es);have HG:Eb (fZ s):=ae (by rw [<-HS.out];exact fZ.new.run _);rw [HS.out]at c bc⊢;have N:us.length=len:=by have:=congrArg List.length M;rwa [List.length_map,wI,lF.out]at this
  obtain⟨ay,cy,rfl,y1,y2,y3⟩:=(Kv.own O).afl;rw [N]at y1 y3⊢;unfold xx at y2;have bs:=ae y3;have br:=ae O.2;have bt:=ae M;have Tj:=ae c;have bg:=ae N;have J:=d.size;have pG:=ae d;have t:Eb (qh w.heap.size w w3):=ae (W.out.trans (d.mono W.out.size));have bo:=t.out.size;obtain⟨l,Z⟩:=aV ((w3.alloc (.cells oC 34)).setCells w3.heap.size 0 (ax s.D P K T s.L));have g:bV (w3.alloc (.cells oC 34)) w3.heap.size (fun _=>false) nV nV nV (fun _ _=>0):=by rw [qW];exact bV.new w3 _ _ _ _ _
  have yJ:Eb ((w3.alloc (.cells oC 34)).there w3.heap.size 0 (ax s.D P K T s.L).length):=ae (by rw [bH];exact g.there 0 192 (by omega));have z:qh w3.heap.size w3 l:=((qL _ _).alloc (rU _) _).trans ((by rw [Z.out];exact aI.setCells _ 0 _ (aI.refl _ _):aI w3.heap.size (w3.alloc (.cells oC 34)) l).below (rU _) (by simp));have Xx:Eb (bV l w3.heap.size s.D P K T s.L):=ae (by rw [Z.out];exact bV.fill ⟨_,g⟩);have Tt:Eb (qh v.heap.size v l):=ae (pG.out.trans (z.mono J));have U:=ae z;have V:Eb (qh w.heap.size w l):=ae (t.out.trans (z.mono bo));have yw:=Tt.out.size;have bd:=U.out.size;have a7:=Xx.out.lt;clear O M c d N y3 g z
  go_wp2_with (refine aX rfl 34 (.tmp 7) (.tmp 22) rfl w3.heap.size 0 (ax s.D P K T s.L) rfl rfl yJ.out (by rw [bH];exact fD) Tj.out.one Z.out ?_);go_loopw [9] (fun i wr=>∃k:Nat,k<=len/\i= .int .i64 k/\Eb (qh l.heap.size l wr)) (fun i _=>len-(Ah i).toNat)
  case atStart=>exact⟨0,xh _,rfl,qL _ _⟩
  case round=>
   obtain⟨k,hk,rfl,f⟩:=hrel;by_cases b:k<len
   ·obtain⟨g1,rfl,o,av⟩:=bz.out.resolve_left (by omega);obtain⟨g2,rfl,_,n,aq⟩:=bs.out.resolve_left (by omega);obtain⟨p0,p1,p2,p3⟩:=av k (by rw [bj.out];exact b);obtain⟨r0,r1,r2,r3⟩:=aq k (by rw [bg.out];exact b);have er:(QA us k).r=(QA ts k).r:=by rw [acC,acC,bt.out,Xu.out]
    have R:=bx.out _ (TQ (ts:=ts) (i:=k) (by rw [bj.out];exact b));have y:=br.out _ (TQ (ts:=us) (i:=k) (by rw [bg.out];exact b));rw [er]at r0 r2 y;have q:Eb (qh v.heap.size v wr):=ae (Tt.out.trans (f.out.mono yw));have B:Eb (qh w3.heap.size w3 wr):=ae (U.out.trans (f.out.mono bd));obtain⟨pa,pc,ep,aE,_⟩:=(R.1.below q.out).ints;obtain⟨pb,pd,eq,aw,_⟩:=(y.1.below B.out).ints;obtain⟨ka,kc,ek,aR,_⟩:=bF.shape (bF.below R.2 q.out);obtain⟨kb,kd,el,aM,_⟩:=bF.shape (bF.below y.2 B.out);rw [ep]at p1;rw [ek]at p3;rw [eq]at r1;rw [el]at r3;have c0:=(q.out.cell (p:=⟨g1,k*4,none⟩) o).trans p0;have c1:=(q.out.cell (p:=⟨g1,k*4+1,none⟩) o).trans p1;have c2:=(q.out.cell (p:=⟨g1,k*4+2,none⟩) o).trans p2;have c3:=(q.out.cell (p:=⟨g1,k*4+3,none⟩) o).trans p3
    have d0:=(B.out.cell (p:=⟨g2,k*4,none⟩) n).trans r0;have d1:=(B.out.cell (p:=⟨g2,k*4+1,none⟩) n).trans r1;have d2:=(B.out.cell (p:=⟨g2,k*4+2,none⟩) n).trans r2;have d3:=(B.out.cell (p:=⟨g2,k*4+3,none⟩) n).trans r3;have F:=ae aE;have E:=ae aw;have H:=ae aR;have G:=ae aM;obtain⟨rr,bh⟩:=ai ((QA ts k).r);rw [bh.out]at c0 c1 c2 c3 d0 d1 d2 d3 F E H G;obtain⟨np,vT⟩:=ai (rr.path.length);obtain⟨nk,CE⟩:=ai (rr.keys.length);rw [vT.out]at c1 d1 F E;rw [CE.out]at c3 d3 H G;obtain⟨rc,bq,bO,bp⟩:=rr;simp only at c0 c2 d0 d2 F E H G;have Y:g1<wr.heap.size:=oP o q.out.size;have X:g2<wr.heap.size:=oP n B.out.size;have bL:(k:Int)<(len:Int):=by omega
    have IG:=f.out.size;clear av aq p0 p1 p2 p3 r0 r1 r2 r3 er R y ep eq ek el aE aw aR aM bh vT CE;go_wp2_with fail;have i0:=aC Y c0;have i1:=aC Y c1;have i2:=aC Y c2;have i3:=aC Y c3;have j0:=aC X d0;have j1:=aC X d1;have j2:=aC X d2;have j3:=aC X d3;have bE:=ae (fun x:WO wr=>KQ pa pb np pc pd bq x.w (F.out.below x.h) (E.out.below x.h));have bw:=ae (fun x:WO wr=>KP ka kb nk kc kd bp x.w (rP.below H.out x.h) (rP.below G.out x.h));have Q:=dO wr;clear c0 c1 c2 c3 d0 d1 d2 d3;refine aN (by kernel_rfl) (by kernel_rfl) ?_;repeat (go_big_quiet_step (first|(go_at_call 14;exact dP (bE.out _))|(go_at_call 15;exact dP (bw.out _))))
    refine GM ?_;intro w5 m;have S:=eU m;clear m i0 i1 i2 i3 j0 j1 j2 j3 Q;go_wp2_with fail;go_roundw
    case rel=>exact⟨k+1,by omega,by go_num,f.out.trans (S.mono IG)⟩
    case measure=>simp [Ah];omega
   ·obtain rfl:k=len:=by omega
    go_wp2_with fail;go_loopw [10] (fun i wr=>∃j:Nat,j<=12/\i= .int .i64 j/\Eb (qh l.heap.size l wr)) (fun i _=>12-(Ah i).toNat)
    case atStart=>exact⟨0,xh _,rfl,f⟩
    case round=>
     clear f b;obtain⟨j,hj,rfl,f⟩:=hrel;by_cases b:j<12
     ·obtain⟨p0,p1,p2⟩:=bc.out j b;have q:Eb (qh v.heap.size v wr):=ae (Tt.out.trans (f.out.mono yw));have B:Eb (qh w3.heap.size w3 wr):=ae (U.out.trans (f.out.mono bd));have c:=Xx.out.lq j b;obtain⟨ya,yc,ey,ad,_⟩:=((Tj.out.2.1 j b).below B.out).shape (Pl.Good.ok ((bK _).1 (HG.out.K j)));rw [ey]at c;have c0:=(q.out.cell (p:=⟨gs,j,none⟩) aD).trans p0;have d0:=(f.out.cell (p:=⟨w3.heap.size,j*16,none⟩) a7).trans c;have UT:=ae (p1.below q.out);have bl:=ae ad;have Y:gs<wr.heap.size:=oP aD q.out.size;have X:w3.heap.size<wr.heap.size:=oP a7 f.out.size;obtain⟨nk,CE⟩:=ai ((s.K j).length);rw [CE.out]at c0 d0 UT bl;have bR:(j:Int)<12:=by omega
      have Xq:=f.out.size;clear p0 p1 p2 ey ad c CE;go_wp2_with fail;have i0:=aC Y c0;have j0:=aC X d0;have bA:=ae (fun x:WO wr=>FV (A j) ya nk (C j) yc (s.K j) x.w (UT.out.below x.h) (bl.out.below x.h));have Q:=dO wr;clear c0 d0;refine aN (by kernel_rfl) (by kernel_rfl) ?_;repeat (go_big_quiet_step ((go_at_call 16;exact dP (bA.out _))))
      refine GM ?_;intro w5 m;have S:=eU m;clear m i0 j0 Q;go_wp2_with fail;go_roundw
      case rel=>exact⟨j+1,by omega,by go_num,f.out.trans (S.mono Xq)⟩
      case measure=>simp [Ah];omega
     ·obtain rfl:j=12:=by omega
      go_wp2_with fail;go_ret;exact⟨rfl,V.out.trans (f.out.mono (by omega))⟩
open Go.ChangeShapes Go.ChangeAt
theorem ad5:joinedFacts Tryz.pinned.checked.prog 3 Tryz.f3 (GX Rows.netRunsSpec).bare Rows.netRunsRow=true:=by kernel_rfl
end netRuns
end Go.Proofs.YtjjelkdajdeikaaGreatDoor
