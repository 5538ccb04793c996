/-
  Facts put together.
-/
import Derived.Test.YtjjelkdajdeikaaGreatDoorNetRunsC2
import Derived.Deep.DeepAppendWide
import Derived.Lib.BufferRead
open Nat renaming le_refl→oC,lt_succ_self→xn,eq_zero_or_pos→GM,le_trans→IA,lt_of_lt_of_le→OE,lt_or_ge→Pe,zero_le→Rw
open Go.RowKit.Below renaming refl→oP
open Go renaming World→qh,Value→rU,undef→xh,Calls→BG,maxLen→Eb,bodyPost_ret→OG,TypeId→OM,getD_set_ne→Qe,lt_of_block→Tf,Act→WZ,wpQuiet_nil→aad,info_parts→aah,wpList_append_own→aai,Operand→aaj
open Go.Proofs.Tryz renaming prog→qL,underlying105→Ee,underlying9→Rq,underlying5→aab,f119→aaq
open Go.RowKit renaming Below→xk,Hid→BD,intOf→GX
open Go.Oper renaming wp→xx
open Go.World renaming frozen?_setCell→Ah,setCell→OI,cell?→UX,ownsRow_nil→Xc,size_alloc→Zf,frozen?→aae
open Go.World.ownsRow renaming alloc→Iy,lt→SQ,kept→aak
open Array renaming getElem?_setIfInBounds_ne→Jj,replicate→Ru,getElem?_toList→Uz,getElem?_modify→UQ
open Bool renaming and_eq_true→Jk,eq_iff_iff→MJ
open List renaming map_cons→LM,length_cons→OO,getElem?_take→Qd,getElem_append_left→Tn,filter_cons_of_pos→Tq,take_succ_cons→VB,pairwise_cons→Xh,length_append→X6,getD→aac
open Int renaming eq_ofNat_of_zero_le→O6,lt_or_le→Qi,pow_succ→aan
open Option.some renaming injEq→PW,inj→aar
open Go.Value renaming ownBlock→Rz,int→Z5
open Go.WalkArith renaming wf_i64→SN
open ByteArray renaming size→Wq
open Go.IntKind renaming i64→aaf
open BitVec renaming ofInt→aag
open Go.World.grownBy renaming refl→aal
open List.Pairwise renaming filter→aam
open Go.Code renaming region→aao
open Ne renaming symm→aap
set_option maxHeartbeats 8000000
namespace Go.Proofs.YtjjelkdajdeikaaGreatDoor
open Pl
open Go.RowKit
set_option maxRecDepth 20000
def dE(h:Pl.RH):List rU:= [.int .i64 h.p.1,.int .i64 h.p.2,.bool h.here,.int .i64 h.cost,.slice h.ha h.hl h.hc]
def cellsR:List Pl.RH->List rU
 | []=> []
 |h::r=>dE h++cellsR r
theorem dA:∀a:List Pl.RH,(cellsR a).length=a.length*5
 | []=>rfl
 |h::r=>by simp [cellsR,dE,dA r];omega
theorem jo:∀(a b:List Pl.RH),cellsR (a++b)=cellsR a++cellsR b
 | [],_=>rfl
 |h::r,b=>by simp [cellsR,jo r b]
theorem jO:∀a:List Pl.RH,∀u∈cellsR a,u.oneCell'=true
 | [],u,h=>by simp [cellsR]at h
 |e::r,u,h=>by
  simp only [cellsR,List.mem_append]at h;rcases h with h|h
  ·simp [dE]at h;rcases h with rfl|rfl|rfl|rfl|rfl<;>rfl
  ·exact jO r u h
theorem NK{w:qh}{b off:Nat}{h:Pl.RH}{r:List Pl.RH}:
  lX w b off (h::r)↔(w.cell? ⟨b,off,none⟩=some (.int .i64 h.p.1)/\w.cell? ⟨b,off+1,none⟩=some (.int .i64 h.p.2)/\w.cell? ⟨b,off+2,none⟩=some (.bool h.here)/\w.cell? ⟨b,off+3,none⟩=some (.int .i64 h.cost)/\w.cell? ⟨b,off+4,none⟩=some (.slice h.ha h.hl h.hc))/\lX w b (off+5) r:=by
 constructor
 ·intro k;refine⟨?_,fun i a=> ?_⟩
  ·have:=k 0 (by simp);simpa [AY]using this
  ·have:=k (i+1) (by simpa using a);rw [AZ,show off+(i+1)*5=off+5+i*5 by omega]at this;exact this
 ·rintro⟨h0,c⟩ i a
  cases i with
  |zero=>simpa [AY]using h0
  |succ i=>
   rw [AZ,show off+(i+1)*5=off+5+i*5 by omega];exact c i (by simpa using a)
theorem uI{w:qh}{b:Nat}:∀(c:List Pl.RH) (off:Nat),lX w b off c↔∀j u,(cellsR c)[j]? =some u->w.cell? ⟨b,off+j,none⟩=some u
 | [],off=>by
  constructor
  ·intro _ j u h;simp [cellsR]at h
  ·intro _ i d;simp at d
 |e::r,off=>by
  rw [NK,uI r (off+5)];constructor
  ·rintro⟨⟨h0,m,l,k,g⟩,f⟩ j u a;match j,a with
   |0,a=>simp [cellsR,dE]at a;subst a;exact h0
   |1,a=>simp [cellsR,dE]at a;subst a;exact m
   |2,a=>simp [cellsR,dE]at a;subst a;exact l
   |3,a=>simp [cellsR,dE]at a;subst a;exact k
   |4,a=>simp [cellsR,dE]at a;subst a;exact g
   |j+5,a=>
    have:=f j u (by simpa [cellsR,dE]using a);rwa [show off+(j+5)=off+5+j by omega]
  ·intro h;refine⟨⟨?_,?_,?_,?_,?_⟩,fun j u a=> ?_⟩
   ·exact h 0 _ (by simp [cellsR,dE])
   ·exact h 1 _ (by simp [cellsR,dE])
   ·exact h 2 _ (by simp [cellsR,dE])
   ·exact h 3 _ (by simp [cellsR,dE])
   ·exact h 4 _ (by simp [cellsR,dE])
   ·have:=h (j+5) u (by simpa [cellsR,dE]using a);rwa [show off+5+j=off+(j+5) by omega]
theorem Pl.TR(a:List Pl.RH)(n i:Nat)(h:i<n)(b:i<a.length):Pl.rh (a.take n) i=Pl.rh a i:=by
 rw [ru _ _ (by simp;omega),ru _ _ b];simp
theorem Pl.TS(a:List Pl.RH)(n i:Nat)(b:n+i<a.length):Pl.rh (a.drop n) i=Pl.rh a (n+i):=by
 rw [ru _ _ (by simp;omega),ru _ _ b];simp
theorem Pl.Di(a b:List Pl.RH)(i:Nat)(h:i<a.length):Pl.rh (a++b) i=Pl.rh a i:=by
 rw [ru a i h,ru _ i (by simp;omega),Tn h]
theorem Pl.Vm(a:List Pl.RH)(x:Pl.RH):Pl.rh (a++ [x]) a.length=x:=by
 rw [ru _ _ (by simp)];simp
theorem Pl.Dc(a b:List Pl.Rt)(i:Nat)(h:i<a.length):Pl.rt (a++b) i=Pl.rt a i:=by
 rw [Pl.rt_eq a i h,Pl.rt_eq _ i (by simp;omega),Tn h]
theorem Pl.Vl(a:List Pl.Rt)(x:Pl.Rt):Pl.rt (a++ [x]) a.length=x:=by
 rw [Pl.rt_eq _ _ (by simp)];simp
def fF(w:qh)(base:Nat)(v:rU)(hs:List Pl.RH):Prop:=w.ownsRow base 80 5 v hs.length (cellsR hs)
theorem tZ:(Tryz.prog.info? 80).map (fun i=>(i.zero,i.size,i.bytes))=some (some (.agg #[.int .i64 0,.int .i64 0,.bool false,.int .i64 0,.slice none 0 0]),5,56):=by kernel_rfl
theorem fF.nil(w:qh)(base:Nat):fF w base (.slice none 0 0) []:=Xc _ _ _ _
theorem fF.below{w w':qh}{base:Nat}{v:rU}{a:List Pl.RH}(h:fF w base v a)(k:xk w.heap.size w w'):fF w' base v a:=iI h k
theorem fF.mono{w:qh}{base a:Nat}{v:rU}{c:List Pl.RH}(h:fF w base v c)(k:a<=base):fF w a v c:=by
 obtain⟨h0,b⟩:=h;refine⟨h0,?_⟩;rcases b with b|⟨g,cap,cur,rfl,e,d⟩
 ·exact .inl b
 ·exact .inr ⟨g,cap,cur,rfl,by omega,d⟩
theorem fF.rows{w:qh}{base:Nat}{v:rU}{b:List Pl.RH}(h:fF w base v b):
  ∃a cap,v= .slice a b.length cap/\jw w a b.length cap b/\(∀x,a=some x->base<=x.block):=by
 obtain⟨_,⟨h,m⟩|⟨g,cap,cur,rfl,l,hh,k,hm,i,f⟩⟩:=h
 ·have e:b= []:=List.length_eq_zero_iff.1 m;subst e;exact⟨none,0,h,⟨rfl,oC _,by simp,fun _=>rfl,.inl rfl⟩,by simp⟩
 ·refine⟨_,cap,rfl,⟨rfl,k,hm,by simp,.inr ⟨g,0,rfl,aG hh,?_⟩⟩,by rintro x ⟨⟩;exact l⟩;rw [uI];intro j u c;rw [<-f]at c;have d:cur[j]? =some u:=by
   rw [Qd]at c;split at c
   ·rw [<-Uz];exact c
   ·cases c
  simp [UX,hh,d]
theorem Lj{w:qh}{base n:Nat}{v:rU}{xs:List rU}{a:List Pl.RH}(h:w.ownsRow base 80 5 v n xs)(e:xs=cellsR a):fF w base v a:=by
 subst e;have b:n=a.length:=by
  have:=h.1;rw [dA]at this;omega
 subst b;exact h
theorem Mc{w:qh}{b1 h:Nat}{u v:rU}{xs:List Int}{c:List Pl.RH}(f:dI w b1 u xs)(d:fF w h v c):u.ownBlock=none\/u.ownBlock≠v.ownBlock:=by
 obtain⟨_,⟨rfl,_⟩|⟨g,cap,cur,rfl,_,hh,_⟩⟩:=f
 ·exact .inl rfl
 ·right;obtain⟨_,⟨rfl,_⟩|⟨g2,b,i,rfl,_,a,_⟩⟩:=d
  ·simp [Rz]
  ·simp only [Rz,ne_eq,PW];intro e;subst e;rw [hh]at a;simp at a
theorem uz{w:qh}{ops:Array Oper}{rest:List Oper}{o:Oper}{a:WZ}{Q:Exit->WZ->qh->Prop}(y:o.guard=none)(s x:aaj)
  (B:o.op= .call {callee:= .builtin .append,args:=#[s,x],argTypes:=#[30,30]})
  (base:Nat)(v:rU)(g:List Pl.RH)(e:Pl.RH)(q:a.eval s=v)(c:fF w base v g)(f:base<=w.heap.size)(A:a.eval x= .slice (some ⟨w.heap.size,0,none⟩) 1 1)(D:g.length<=4000000000000)
  (h:∀i w',fF w' base i (g++ [e])->(w.alloc (.cells #[.int .i64 e.p.1,.int .i64 e.p.2,.bool e.here,.int .i64 e.cost,.slice e.ha e.hl e.hc] 80)).grownBy w' v.ownBlock->xk base w w'->wpList qL ops Q rest (a.put o.dst i) w'):
  wpList qL ops Q (o::rest) a (w.alloc (.cells #[.int .i64 e.p.1,.int .i64 e.p.2,.bool e.here,.int .i64 e.cost,.slice e.ha e.hl e.hc] 80)):=by
 obtain⟨i0,t,n,m,l⟩:=partsOf tZ;refine wpList_append_own_wide (w:=_) y s x 30 B base 80 i0 _ 5 56 Tryz.underlying30 t n m l rfl (by decide) _ g.length (cellsR g) q (Iy c _) ⟨w.heap.size,0,none⟩ 1 1 (dE e) A rfl ?_ ?_ (by unfold Eb;omega) (by omega) (by simp;omega) ?_
 ·intro j u b;rw [bD];match j,b with
  |0,b=>simp [dE]at b;subst b;simp
  |1,b=>simp [dE]at b;subst b;simp
  |2,b=>simp [dE]at b;subst b;simp
  |3,b=>simp [dE]at b;subst b;simp
  |4,b=>simp [dE]at b;subst b;simp
  |j+5,b=>simp [dE]at b
 ·have:=jO [e];simpa [cellsR]using this
 ·intro i w' d z _;have r:=SQ c;exact h i w' (Lj d (by rw [jo];simp [cellsR])) z (((oP _ _).alloc f _).grown z (by simp;omega) (fun k C=>(r k C).1))
def dG(w:qh)(base:Nat)(v:rU)(hs:List Pl.RH)(rs:List Pl.Rt):Prop:=fF w base v hs/\hs.length=rs.length/\∀i,i<hs.length->bU w base (Pl.rh hs i) (Pl.rt rs i)
theorem dG.nil(w:qh)(base:Nat):dG w base (.slice none 0 0) [] []:=⟨fF.nil _ _,rfl,fun i h=>by simp at h⟩
theorem dG.below{w w':qh}{base:Nat}{v:rU}{a:List Pl.RH}{rs:List Pl.Rt}(h:dG w base v a rs)(k:xk w.heap.size w w'):dG w' base v a rs:=⟨h.1.below k,h.2.1,fun i b=>(h.2.2 i b).below k⟩
theorem dG.mono{w:qh}{base a:Nat}{v:rU}{b:List Pl.RH}{rs:List Pl.Rt}(h:dG w base v b rs)(k:a<=base):dG w a v b rs:=⟨h.1.mono k,h.2.1,fun i c=>(h.2.2 i c).mono k⟩
theorem dG.reads{w:qh}{base:Nat}{v:rU}{a:List Pl.RH}{rs:List Pl.Rt}(h:dG w base v a rs):ReadsAll w a rs:=⟨h.2.1,fun i b=>(h.2.2 i b).reads.1⟩
theorem dG.snoc{w w':qh}{base:Nat}{v b:rU}{a:List Pl.RH}{rs:List Pl.Rt}{e:Pl.RH}{r:Pl.Rt}{o:Obj}(h:dG w base v a rs)(k:bU w base e r)(n:fF w' base b (a++ [e]))(m:(w.alloc o).grownBy w' v.ownBlock):dG w' base b (a++ [e]) (rs++ [r]):=by
 have key:∀x y,bU w base x y->bU w' base x y:=by
  intro x y ⟨j,g,f,c,d⟩;exact⟨j,g,f,aak (Iy c o) m (Mc c h.1),d⟩
 refine⟨n,by simp [h.2.1],fun i l=> ?_⟩;simp only [X6,OO,List.length_nil]at l;rcases Pe i a.length with q|q
 ·rw [Di _ _ _ q,Dc _ _ _ (by rw [<-h.2.1];exact q)];exact key _ _ (h.2.2 i q)
 ·obtain rfl:i=a.length:=by omega
  rw [Vm];have:Pl.rt (rs++ [r]) a.length=r:=by rw [h.2.1];exact Vl rs r
  rw [this];exact key _ _ k
structure Pl.Nt where
 D:Nat->Bool
 P:Nat->List (Int×Int)
 K:Nat->List aK
 T:Nat->List Pl.Rt
 L:Nat->Nat->Int
def aT(w:qh)(B:Nat)(s:Pl.Nt):Prop:=∃VP VK VT,fG w B s.D VP VK VT s.L/\(∀i,i<12->aU 49 w (B+1) (VP i) (s.P i))/\(∀i,i<12->Own w (B+1) (VK i) (s.K i))/\
 (∀i,i<12->∃hs,dG w (B+1) (VT i) hs (s.T i))/\∀i j,i<12->j<12->i≠j->(VP i).ownBlock=none\/(VP i).ownBlock≠(VP j).ownBlock
structure bG(B:Nat)(w w':qh):Prop where
 os:w'.os=w.os
 tape:w'.tape=w.tape
 output:w'.output=w.output
 size:w.heap.size<=w'.heap.size
 block:∀k,k<w.heap.size->k≠B->(k<B\/∀cur m,w.heap[k]? ≠some (.cells cur 49 m))->w'.heap[k]? =w.heap[k]?
theorem bG.refl(B:Nat)(w:qh):bG B w w:=⟨rfl,rfl,rfl,oC _,fun _ _ _ _=>rfl⟩
theorem bG.of{B:Nat}{w w':qh}(h:aI B w w'):bG B w w':=⟨h.os,h.tape,h.output,h.size,fun k a b _=>h.block k a b⟩
theorem bG.trans{B:Nat}{a b c:qh}(h:bG B a b)(k:bG B b c):bG B a c:=
 ⟨k.os.trans h.os,k.tape.trans h.tape,k.output.trans h.output,IA h.size k.size,fun i f g d=>by
  have e:=h.block i f g d;rw [k.block i (OE f h.size) g (by rw [e];exact d),e]⟩
theorem dL{B:Nat}{w w':qh}{base:Nat}{e:OM}{sz:Nat}{v:rU}{n:Nat}{xs:List rU}(h:w.ownsRow base e sz v n xs)(k:aI B w w')(d:B<base):w'.ownsRow base e sz v n xs:=by
 obtain⟨h0,a⟩:=h;refine⟨h0,?_⟩;rcases a with a|⟨g,cap,cur,rfl,c,hh,b⟩
 ·exact .inl a
 ·exact .inr ⟨g,cap,cur,rfl,c,(k.block g (aG hh) (by omega)).trans hh,b⟩
theorem dG.but{B:Nat}{w w':qh}{base:Nat}{v:rU}{a:List Pl.RH}{rs:List Pl.Rt}(h:dG w base v a rs)(k:aI B w w')(b:B<base):dG w' base v a rs:=
 ⟨dL h.1 k b,h.2.1,fun i j=>by
  obtain⟨g,f,e,d,c⟩:=h.2.2 i j;exact⟨g,f,e,d.but k (.inl b),c⟩⟩
theorem aT.lt{w B s}(h:aT w B s):B<w.heap.size:=by
 obtain⟨_,_,_,h,_⟩:=h;exact h.lt
theorem aT.below{w w':qh}{B s}(h:aT w B s)(k:xk w.heap.size w w'):aT w' B s:=by
 obtain⟨l,m,j,g,f,e,d,c⟩:=h;exact⟨l,m,j,g.below k,fun i a=>(f i a).below k,fun i a=>(e i a).below k,fun i a=>by obtain⟨b,q⟩:=d i a;exact⟨b,q.below k⟩,c⟩
theorem aT.box{w w':qh}{B s X}(h:aT w B s)(k:aI X w w')(A:X≠B)(d:∀cur m,w.heap[X]? ≠some (.cells cur 49 m)/\w.heap[X]? ≠some (.cells cur 55 m)/\w.heap[X]? ≠some (.cells cur 80 m)/\w.heap[X]? ≠some (.cells cur 3 m)):aT w' B s:=by
 have key:∀{base:Nat} {e:OM} {sz:Nat} {v:rU} {n:Nat} {xs:List rU},(∀cur m,w.heap[X]? ≠some (.cells cur e m))->w.ownsRow base e sz v n xs->w'.ownsRow base e sz v n xs:=by
  intro base e sz v n xs f ⟨h0,b⟩;refine⟨h0,?_⟩;rcases b with b|⟨g,cap,cur,rfl,z,hh,x⟩
  ·exact .inl b
  ·refine .inr ⟨g,cap,cur,rfl,z,(k.block g (aG hh) ?_).trans hh,x⟩;rintro rfl;exact f _ _ hh
 obtain⟨H,I,G,b,F,E,D,C⟩:=h;refine⟨H,I,G,aj.but b k (aap A),fun i a=>key (fun c m=>(d c m).1) (F i a),fun i a=>key (fun c m=>(d c m).2.1) (E i a),fun i a=> ?_,C⟩;obtain⟨u,q⟩:=D i a;refine⟨u,key (fun c m=>(d c m).2.2.1) q.1,q.2.1,fun j y=> ?_⟩;obtain⟨t,r,p,o,l⟩:=q.2.2 j y;exact⟨t,r,p,key (fun c m=>(d c m).2.2.2) o,l⟩
theorem aT.wG{w:qh}{B s}(h:aT w B s)(a:Nat)(ha:a<12)(v:rU)(es:List aK)(d:Own w (B+1) v es):aT (w.setCell ⟨B,a*4+2,none⟩ v) B {s with K:=cZ s.K a es}:=by
 obtain⟨o,p,n,m,l,k,j,g⟩:=h;have c:aI B w (w.setCell ⟨B,a*4+2,none⟩ v):=(aI.refl B w).setCell _ _;refine⟨o,cZ p a v,n,m.wG a ha v,fun i b=>dL (l i b) c (xn _),fun i b=> ?_,fun i b=> ?_,g⟩
 ·unfold cZ;by_cases e:i=a
  ·rw [af e];simp only [af e];exact dL d c (xn _)
  ·rw [ag e];simp only [ag e];exact dL (k i b) c (xn _)
 ·obtain⟨f,q⟩:=j i b;exact⟨f,q.but c (xn _)⟩
theorem aT.setTable{w:qh}{B s}(h:aT w B s)(a:Nat)(ha:a<12)(v:rU)(d:List Pl.RH)(rs:List Pl.Rt)(f:dG w (B+1) v d rs):aT (w.setCell ⟨B,a*4+3,none⟩ v) B {s with T:=cZ s.T a rs}:=by
 obtain⟨o,p,n,m,l,k,j,g⟩:=h;have c:aI B w (w.setCell ⟨B,a*4+3,none⟩ v):=(aI.refl B w).setCell _ _;refine⟨o,p,cZ n a v,m.setTable a ha v,fun i b=>dL (l i b) c (xn _),fun i b=>dL (k i b) c (xn _),fun i b=> ?_,g⟩;unfold cZ;by_cases e:i=a
 ·rw [af e];simp only [af e];exact⟨d,f.but c (xn _)⟩
 ·rw [ag e];simp only [ag e];obtain⟨gs,q⟩:=j i b;exact⟨gs,q.but c (xn _)⟩
theorem aT.qY{w:qh}{B s}(h:aT w B s)(a:Nat)(ha:a<12)(v:rU)(ps:List (Int×Int))(r:aU 49 w (B+1) v ps)(l:∀d k g,fG w B s.D d k g s.L->∀i,i<12->i≠a->(v.ownBlock=none\/v.ownBlock≠(d i).ownBlock)/\((d i).ownBlock=none\/(d i).ownBlock≠v.ownBlock)):aT (w.setCell ⟨B,a*4+1,none⟩ v) B {s with P:=cZ s.P a ps}:=by
 obtain⟨d,k,g,o,z,y,x,u⟩:=h;have m:=l d k g o;have f:aI B w (w.setCell ⟨B,a*4+1,none⟩ v):=(aI.refl B w).setCell _ _;refine⟨cZ d a v,k,g,o.qY a ha v,fun i b=> ?_,fun i b=>dL (y i b) f (xn _),fun i b=> ?_,fun i j b n c=> ?_⟩
 ·unfold cZ;by_cases e:i=a
  ·rw [af e];simp only [af e];exact dL r f (xn _)
  ·rw [ag e];simp only [ag e];exact dL (z i b) f (xn _)
 ·obtain⟨t,q⟩:=x i b;exact⟨t,q.but f (xn _)⟩
 ·unfold cZ;by_cases e:i=a
  ·subst e;rw [af rfl,ag (aap c)];exact(m j n (aap c)).1
  ·rw [ag e];by_cases p:j=a
   ·subst p;rw [af rfl];exact(m i b e).2
   ·rw [ag p];exact u i j b n c
theorem aA{n:Nat}{xs:List rU}(h:xs.length=n+1):∃x a,xs=x::a/\a.length=n:=by
 cases xs with
 |nil=>simp at h
 |cons x r=>exact⟨x,r,rfl,by simpa using h⟩
theorem abg(xs:List rU)(h:xs.length=11):∃l k j i g f e d c b a,xs= [l,k,j,i,g,f,e,d,c,b,a]:=by
 obtain⟨l,G,rfl,h0⟩:=aA h;obtain⟨k,F,rfl,w⟩:=aA h0;obtain⟨j,E,rfl,v⟩:=aA w;obtain⟨i,D,rfl,u⟩:=aA v;obtain⟨g,C,rfl,t⟩:=aA u;obtain⟨f,B,rfl,s⟩:=aA t;obtain⟨e,A,rfl,r⟩:=aA s;obtain⟨d,z,rfl,q⟩:=aA r;obtain⟨c,y,rfl,p⟩:=aA q;obtain⟨b,x,rfl,o⟩:=aA p;obtain⟨a,n,rfl,m⟩:=aA o;obtain rfl:=List.length_eq_zero_iff.1 m;exact⟨l,k,j,i,g,f,e,d,c,b,a,rfl⟩
theorem abf(xs:List rU)(h:xs.length=14):∃n m l k j i g f e d c b a o,xs= [n,m,l,k,j,i,g,f,e,d,c,b,a,o]:=by
 obtain⟨n,P,rfl,h0⟩:=aA h;obtain⟨m,O,rfl,F⟩:=aA h0;obtain⟨l,N,rfl,E⟩:=aA F;obtain⟨k,M,rfl,D⟩:=aA E;obtain⟨j,L,rfl,C⟩:=aA D;obtain⟨i,K,rfl,B⟩:=aA C;obtain⟨g,J,rfl,A⟩:=aA B;obtain⟨f,I,rfl,z⟩:=aA A;obtain⟨e,H,rfl,y⟩:=aA z;obtain⟨d,G,rfl,x⟩:=aA y;obtain⟨c,w,rfl,s⟩:=aA x;obtain⟨b,v,rfl,r⟩:=aA s;obtain⟨a,u,rfl,q⟩:=aA r;obtain⟨o,t,rfl,p⟩:=aA q;obtain rfl:=List.length_eq_zero_iff.1 p;exact⟨n,m,l,k,j,i,g,f,e,d,c,b,a,o,rfl⟩
theorem abe(xs:List rU)(h:xs.length=15):∃o n m l k j i g f e d c b p a,xs= [o,n,m,l,k,j,i,g,f,e,d,c,b,p,a]:=by
 obtain⟨o,S,rfl,h0⟩:=aA h;obtain⟨n,R,rfl,H⟩:=aA h0;obtain⟨m,Q,rfl,G⟩:=aA H;obtain⟨l,P,rfl,F⟩:=aA G;obtain⟨k,O,rfl,E⟩:=aA F;obtain⟨j,N,rfl,D⟩:=aA E;obtain⟨i,M,rfl,C⟩:=aA D;obtain⟨g,L,rfl,B⟩:=aA C;obtain⟨f,K,rfl,A⟩:=aA B;obtain⟨e,J,rfl,z⟩:=aA A;obtain⟨d,y,rfl,t⟩:=aA z;obtain⟨c,x,rfl,s⟩:=aA t;obtain⟨b,w,rfl,r⟩:=aA s;obtain⟨p,v,rfl,q⟩:=aA r;obtain⟨a,u,rfl,I⟩:=aA q;obtain rfl:=List.length_eq_zero_iff.1 I;exact⟨o,n,m,l,k,j,i,g,f,e,d,c,b,p,a,rfl⟩
theorem Ui(xs:List rU)(h:xs.length=20):∃t s r q p o n m l k j i g u f e d c b a,xs= [t,s,r,q,p,o,n,m,l,k,j,i,g,u,f,e,d,c,b,a]:=by
 obtain⟨t,y0,rfl,h0⟩:=aA h;obtain⟨s,y1,rfl,W⟩:=aA h0;obtain⟨r,y2,rfl,V⟩:=aA W;obtain⟨q,y3,rfl,U⟩:=aA V;obtain⟨p,y4,rfl,T⟩:=aA U;obtain⟨o,y5,rfl,S⟩:=aA T;obtain⟨n,y6,rfl,R⟩:=aA S;obtain⟨m,y7,rfl,Q⟩:=aA R;obtain⟨l,Z,rfl,P⟩:=aA Q;obtain⟨k,Y,rfl,O⟩:=aA P;obtain⟨j,N,rfl,D⟩:=aA O;obtain⟨i,M,rfl,C⟩:=aA D;obtain⟨g,L,rfl,B⟩:=aA C;obtain⟨u,K,rfl,A⟩:=aA B;obtain⟨f,J,rfl,X⟩:=aA A;obtain⟨e,I,rfl,z⟩:=aA X;obtain⟨d,H,rfl,y⟩:=aA z;obtain⟨c,G,rfl,x⟩:=aA y;obtain⟨b,F,rfl,w⟩:=aA x;obtain⟨a,E,rfl,v⟩:=aA w;obtain rfl:=List.length_eq_zero_iff.1 v;exact⟨t,s,r,q,p,o,n,m,l,k,j,i,g,u,f,e,d,c,b,a,rfl⟩
theorem Uh(xs:List rU)(h:xs.length=21):∃u t s r q p o n m l k j i v g f e d c b a,xs= [u,t,s,r,q,p,o,n,m,l,k,j,i,v,g,f,e,d,c,b,a]:=by
 obtain⟨u,y0,rfl,h0⟩:=aA h;obtain⟨t,y1,rfl,Z⟩:=aA h0;obtain⟨s,y2,rfl,Y⟩:=aA Z;obtain⟨r,y3,rfl,X⟩:=aA Y;obtain⟨q,y4,rfl,W⟩:=aA X;obtain⟨p,y5,rfl,V⟩:=aA W;obtain⟨o,y6,rfl,U⟩:=aA V;obtain⟨n,y7,rfl,T⟩:=aA U;obtain⟨m,y8,rfl,S⟩:=aA T;obtain⟨l,y9,rfl,R⟩:=aA S;obtain⟨k,Q,rfl,F⟩:=aA R;obtain⟨j,P,rfl,E⟩:=aA F;obtain⟨i,O,rfl,D⟩:=aA E;obtain⟨v,N,rfl,C⟩:=aA D;obtain⟨g,M,rfl,G6⟩:=aA C;obtain⟨f,L,rfl,B⟩:=aA G6;obtain⟨e,K,rfl,A⟩:=aA B;obtain⟨d,J,rfl,z⟩:=aA A;obtain⟨c,I,rfl,y⟩:=aA z;obtain⟨b,H,rfl,x⟩:=aA y;obtain⟨a,G,rfl,w⟩:=aA x;obtain rfl:=List.length_eq_zero_iff.1 w;exact⟨u,t,s,r,q,p,o,n,m,l,k,j,i,v,g,f,e,d,c,b,a,rfl⟩
theorem aba(xs:List rU)(h:xs.length=26):∃x w v u t s r q p o m l k y j i g f e d c n P O b a,xs= [x,w,v,u,t,s,r,q,p,o,m,l,k,y,j,i,g,f,e,d,c,n,P,O,b,a]:=by
 obtain⟨x,y0,rfl,h0⟩:=aA h;obtain⟨w,y1,rfl,h1⟩:=aA h0;obtain⟨v,y2,rfl,h2⟩:=aA h1;obtain⟨u,y3,rfl,h3⟩:=aA h2;obtain⟨t,y4,rfl,h4⟩:=aA h3;obtain⟨s,y5,rfl,h5⟩:=aA h4;obtain⟨r,y6,rfl,h6⟩:=aA h5;obtain⟨q,y7,rfl,h7⟩:=aA h6;obtain⟨p,y8,rfl,h8⟩:=aA h7;obtain⟨o,y9,rfl,h9⟩:=aA h8;obtain⟨m,ar,rfl,N⟩:=aA h9;obtain⟨l,aq,rfl,M⟩:=aA N;obtain⟨k,an,rfl,L⟩:=aA M;obtain⟨y,ak,rfl,K⟩:=aA L;obtain⟨j,ad,rfl,G6⟩:=aA K;obtain⟨i,aa,rfl,J⟩:=aA G6;obtain⟨g,Z,rfl,I⟩:=aA J;obtain⟨f,Y,rfl,H⟩:=aA I;obtain⟨e,X,rfl,G⟩:=aA H;obtain⟨d,W,rfl,F⟩:=aA G;obtain⟨c,V,rfl,E⟩:=aA F;obtain⟨n,U,rfl,D⟩:=aA E;obtain⟨P,T,rfl,C⟩:=aA D;obtain⟨O,S,rfl,B⟩:=aA C;obtain⟨b,R,rfl,A⟩:=aA B;obtain⟨a,Q,rfl,z⟩:=aA A
 obtain rfl:=List.length_eq_zero_iff.1 z;exact⟨x,w,v,u,t,s,r,q,p,o,m,l,k,y,j,i,g,f,e,d,c,n,P,O,b,a,rfl⟩
theorem aa'(xs:List rU)(h:xs.length=31):∃B A z y x w v u t s q p o C n m l k j i g r Z Y f e X d c b a,xs= [B,A,z,y,x,w,v,u,t,s,q,p,o,C,n,m,l,k,j,i,g,r,Z,Y,f,e,X,d,c,b,a]:=by
 obtain⟨B,y0,rfl,h0⟩:=aA h;obtain⟨A,y1,rfl,h1⟩:=aA h0;obtain⟨z,y2,rfl,h2⟩:=aA h1;obtain⟨y,y3,rfl,h3⟩:=aA h2;obtain⟨x,y4,rfl,h4⟩:=aA h3;obtain⟨w,y5,rfl,h5⟩:=aA h4;obtain⟨v,y6,rfl,h6⟩:=aA h5;obtain⟨u,y7,rfl,h7⟩:=aA h6;obtain⟨t,y8,rfl,h8⟩:=aA h7;obtain⟨s,y9,rfl,h9⟩:=aA h8;obtain⟨q,bd,rfl,W⟩:=aA h9;obtain⟨p,bc,rfl,V⟩:=aA W;obtain⟨o,bb,rfl,U⟩:=aA V;obtain⟨C,ba,rfl,T⟩:=aA U;obtain⟨n,a8,rfl,G6⟩:=aA T;obtain⟨m,a7,rfl,S⟩:=aA G6;obtain⟨l,a6,rfl,R⟩:=aA S;obtain⟨k,aR,rfl,Q⟩:=aA R;obtain⟨j,aM,rfl,P⟩:=aA Q;obtain⟨i,aL,rfl,O⟩:=aA P;obtain⟨g,aE,rfl,N⟩:=aA O;obtain⟨r,aD,rfl,M⟩:=aA N;obtain⟨Z,ay,rfl,L⟩:=aA M;obtain⟨Y,aw,rfl,K⟩:=aA L;obtain⟨f,av,rfl,J⟩:=aA K;obtain⟨e,ar,rfl,I⟩:=aA J
 obtain⟨X,aq,rfl,H⟩:=aA I;obtain⟨d,an,rfl,G⟩:=aA H;obtain⟨c,ak,rfl,F⟩:=aA G;obtain⟨b,ad,rfl,E⟩:=aA F;obtain⟨a,aa,rfl,D⟩:=aA E;obtain rfl:=List.length_eq_zero_iff.1 D;exact⟨B,A,z,y,x,w,v,u,t,s,q,p,o,C,n,m,l,k,j,i,g,r,Z,Y,f,e,X,d,c,b,a,rfl⟩
theorem aT.ql{w w':qh}{B s X}{cs:Array rU}(h:aT w B s)(k:aI X w w')(b:w.heap[X]? =some (.cells cs 40))(a:X≠B):aT w' B s:=
 h.box k a (by
  intro cur m;rw [b];refine⟨?_,?_,?_,?_⟩<;>(intro e;simp at e))
def jy(w:qh)(X:Nat)(d0 d1 d2 d3:rU):qh:=(((w.setCell ⟨X,0,none⟩ d0).setCell ⟨X,1,none⟩ d1).setCell ⟨X,2,none⟩ d2).setCell ⟨X,3,none⟩ d3
theorem lL{w:qh}{X:Nat}{c0 c1 c2 a:rU}{T:OM}(h:w.heap[X]? =some (.cells #[c0,c1,c2,a] T))(d0 d1 d2 d3:rU):(jy w X d0 d1 d2 d3).heap[X]? =some (.cells #[d0,d1,d2,d3] T):=by
 have:=aG h;simp [jy,OI,UQ,h]
theorem Vd(w:qh)(X:Nat)(d0 d1 d2 d3:rU):(jy w X d0 d1 d2 d3).heap.size=w.heap.size:=by simp [jy]
theorem jF{a w:qh}{X:Nat}(h:aI X a w)(d0 d1 d2 d3:rU):aI X a (jy w X d0 d1 d2 d3):=(((h.setCell _ _).setCell _ _).setCell _ _).setCell _ _
theorem az{w:qh}{base:Nat}{e:OM}{sz:Nat}{v:rU}{n:Nat}{xs:List rU}(h:w.ownsRow base e sz v n xs):∃a cap,v= .slice a n cap:=by
 obtain⟨_,⟨h,b⟩|⟨g,cap,cur,rfl,_⟩⟩:=h
 ·rw [b];exact⟨_,_,h⟩
 ·exact⟨_,_,rfl⟩
theorem kF{X:Nat}{w w':qh}{base:Nat}{e:OM}{sz:Nat}{v:rU}{n:Nat}{xs:List rU}(h:w.ownsRow base e sz v n xs)(k:aI X w w')(b:∀cur m,w.heap[X]? ≠some (.cells cur e m)):w'.ownsRow base e sz v n xs:=by
 obtain⟨h0,a⟩:=h;refine⟨h0,?_⟩;rcases a with a|⟨g,cap,cur,rfl,d,hh,c⟩
 ·exact .inl a
 ·refine .inr ⟨g,cap,cur,rfl,d,(k.block g (aG hh) ?_).trans hh,c⟩;rintro rfl;exact b _ _ hh
theorem qx{w w':qh}{X base:Nat}{v:rU}{a:List ByteArray}{cs:Array rU}(h:bF w base v a)(k:aI X w w')(b:w.heap[X]? =some (.cells cs 40)):bF w' base v a:=
 kF h k (by intro cur m e;rw [b]at e;simp at e)
theorem aT.blk{w B s}(h:aT w B s):∃cs,w.heap[B]? =some (.cells cs 92):=by
 obtain⟨_,_,_,h,_⟩:=h;exact⟨_,h⟩
theorem Ud{w w':qh}{B base:Nat}{v:rU}{b:List ByteArray}(h:bF w base v b)(k:aI B w w')(a:∃cs,w.heap[B]? =some (.cells cs 92)):bF w' base v b:=by
 obtain⟨cs,a⟩:=a;exact kF h k (by intro cur m e;rw [a]at e;simp at e)
theorem N9{w:qh}{base g:Nat}{k:ByteArray}(b:base<=g)(a:w.heap[g]? =some (.cells #[.string k] 9)):bF w base (.slice (some ⟨g,0,none⟩) 1 1) [k]:=
 ⟨by simp,.inr ⟨g,1,#[.string k],rfl,b,a,by simp,by unfold Eb;omega,by simp,by simp⟩⟩
theorem zU(n:Int)(w:qh):
  BG qL 179 #[.int .i64 n] w fun e w'=>e= .returned (.bool false)/\w'=w:=by
 go_enter Tryz.func179,Tryz.ntmps179;go_wp2;go_ret;exact⟨bf (by simp),rfl⟩
theorem zT(x:ByteArray)(w:qh):
  BG qL 199 #[.string x] w fun e w'=>e= .returned (.bool false)/\w'=w:=by
 go_enter Tryz.func199,Tryz.ntmps199;go_wp2;go_ret;exact⟨bf (by simp),rfl⟩
theorem BQ(a b:Int)(w:qh):
  BG qL 147 #[.int .i64 a,.int .i64 b] w fun e w'=>e= .returned (.int .i64 (lV a b))/\w'=w:=by
 rcases Int.lt_trichotomy a b with h|rfl|h
 ·go_enter Tryz.func147,Tryz.ntmps147;go_wp2_with (go_at_call 179;refine(zU _ _).mono ?_;rintro e w' ⟨rfl,rfl⟩);go_ret;exact⟨aF (abL h).symm,rfl⟩
 ·go_enter Tryz.func147,Tryz.ntmps147;go_wp2_with (go_at_call 179;refine(zU _ _).mono ?_;rintro e w' ⟨rfl,rfl⟩);go_ret;exact⟨aF (abN _).symm,rfl⟩
 ·have c:¬a<b:=by omega
  go_enter Tryz.func147,Tryz.ntmps147;go_wp2_with (go_at_call 179;refine(zU _ _).mono ?_;rintro e w' ⟨rfl,rfl⟩);go_ret;exact⟨aF (abM h).symm,rfl⟩
theorem Zx(a b:ByteArray)(w:qh):
  BG qL 172 #[.string a,.string b] w fun e w'=>e= .returned (.int .i64 (xu a b))/\w'=w:=by
 rcases Pl.tri a b with⟨h,c,d⟩|rfl|⟨h,c,d⟩
 ·go_enter Tryz.func172,Tryz.ntmps172;go_wp2_with (go_at_call 199;refine(zT _ _).mono ?_;rintro e w' ⟨rfl,rfl⟩);go_ret;exact⟨aF (LW h).symm,rfl⟩
 ·have h:=kN a;have c:Op.bytesLess a.toList a.toList=false:=h;clear h;go_enter Tryz.func172,Tryz.ntmps172;go_wp2_with (go_at_call 199;refine(zT _ _).mono ?_;rintro e w' ⟨rfl,rfl⟩);go_ret;exact⟨aF (LY _).symm,rfl⟩
 ·have he:=kT d;go_enter Tryz.func172,Tryz.ntmps172;go_wp2_with (go_at_call 199;refine(zT _ _).mono ?_;rintro e w' ⟨rfl,rfl⟩);go_ret;exact⟨aF (LX c).symm,rfl⟩
theorem P6(n m:ByteArray)(v1 a v2 d:Int)(c b:ByteArray)(w:qh):
  BG qL 139 #[.agg #[.string n,.int .i64 v1,.int .i64 a,.string c],.agg #[.string m,.int .i64 v2,.int .i64 d,.string b]] w
   fun e w'=>e= .returned (.int .i64 (BR v1 a c v2 d b))/\xk w.heap.size w w':=by
 obtain⟨c1,H1⟩:=ai (lV v1 v2);obtain⟨c2,l⟩:=ai (lV a d);obtain⟨h,k⟩:=ai (xu c b);have j:BD (BR v1 a c v2 d b=if c1≠0 then c1 else if c2≠0 then c2 else h):=by
  show _=_;unfold BR;rw [H1.out,l.out,k.out]
 by_cases g:c1=0
 all_goals by_cases f:c2=0
 all_goals
  first|(have b1:(c1 != 0)=false:=by simp [g])|(have b1:(c1 != 0)=true:=by simp [g])
 all_goals
  first|(have o:(c2 != 0)=false:=by simp [f])|(have o:(c2 != 0)=true:=by simp [f])
 all_goals
  have i:BD (BR v1 a c v2 d b=if c1≠0 then c1 else if c2≠0 then c2 else h):=j;clear j;have p:BD (c1=0\/True):=Or.inr trivial;simp only [g,f,ne_eq,not_true_eq_false,not_false_eq_true,if_true,if_false]at i;clear g f p;go_enter Tryz.func139,Tryz.ntmps139;go_wp2_with (first|(go_at_call_of 147 (Z5 aaf v1);refine(BQ _ _ _).mono ?_;rw [H1.out];rintro e w' ⟨rfl,rfl⟩)|(go_at_call_of 147 (Z5 aaf a);refine(BQ _ _ _).mono ?_;rw [l.out];rintro e w' ⟨rfl,rfl⟩)|(go_at_call 172;refine(Zx _ _ _).mono ?_;rw [k.out];rintro e w' ⟨rfl,rfl⟩));go_ret;exact⟨aF i.out.symm,((oP _ _).alloc (oC _) _).alloc (by simp) _⟩
theorem Xo(m l:ByteArray)(v1 f v2 d:Int)(b c:ByteArray)(w:qh):
  BG qL 130 #[.agg #[.string m,.int .i64 v1,.int .i64 f,.string b],.agg #[.string l,.int .i64 v2,.int .i64 d,.string c]] w
   fun e w'=>e= .returned (.bool (vw v1 f b v2 d c))/\xk w.heap.size w w':=by
 by_cases i:v1=v2
 ·subst i;by_cases g:f=d
  ·subst g;rcases Pl.tri b c with⟨h,k,j⟩|rfl|⟨h,k,j⟩
   ·have a:BD (xu b c= -1):=LW h;go_enter Tryz.func130,Tryz.ntmps130;go_wp2;go_ret;exact⟨bf (by rw [MB,a.out];rfl),((oP _ _).alloc (oC _) _).alloc (by simp) _⟩
   ·have a:BD (xu b b=0):=LY _;go_enter Tryz.func130,Tryz.ntmps130;go_wp2;go_ret;exact⟨bf (by rw [MB,a.out];simp),((oP _ _).alloc (oC _) _).alloc (by simp) _⟩
   ·have a:BD (xu b c=1):=LX k;have he:=kT j;go_enter Tryz.func130,Tryz.ntmps130;go_wp2;go_ret;exact⟨bf (by rw [MB,a.out];simp),((oP _ _).alloc (oC _) _).alloc (by simp) _⟩
  ·have n:(f != d)=true:=by simp [g]
   have a:BD (¬f=d):=g;clear g;go_enter Tryz.func130,Tryz.ntmps130;go_wp2;go_ret;exact⟨bf (by rw [abY _ _ _ _ _ a.out]),((oP _ _).alloc (oC _) _).alloc (by simp) _⟩
 ·have n:(v1 != v2)=true:=by simp [i]
  have a:BD (¬v1=v2):=i;clear i;go_enter Tryz.func130,Tryz.ntmps130;go_wp2;go_ret;exact⟨bf (by rw [abX _ _ _ _ _ _ a.out]),((oP _ _).alloc (oC _) _).alloc (by simp) _⟩
structure WO(W:qh) where
 w:qh
 h:xk W.heap.size W w
theorem aN{P:Program}{id:Nat}{Q:Exit->WZ->qh->Prop}{a:WZ}{w:qh}{l:List Oper}(hm:P.follows .mixedOrders=true)(b:Region.lexB .any l.toArray=true)
  (h:wpQuiet P l.toArray (fun w'=>∃x:WO w,w'=x.w) (fun c=>∀w',(∃x:WO w,w'=x.w)->Q .normal c w') l a):(aao id l.toArray true).wp P Q a w:=
 wp_region_quiet (C:=fun w'=>∃x:WO w,w'=x.w) hm b ⟨⟨_,(oP _ _).drew⟩,rfl⟩ (by simpa using h)
theorem dP{P:Program}{f:FuncId}{args:Array rU}{W:qh}{x:WO W}{v:rU}
  (h:BG P f args x.w fun e w'=>e= .returned v/\xk x.w.heap.size x.w w'):BG P f args x.w fun e a=>e= .returned v/\∃y:WO W,a=y.w:=
 h.mono fun _ w' ⟨he,b⟩=>⟨he,⟨w',x.h.trans (b.mono x.h.size)⟩,rfl⟩
theorem eU{W w':qh}(h:∃x:WO W,w'=x.w):xk W.heap.size W w':=by
 obtain⟨x,rfl⟩:=h;exact x.h
theorem dO(W:qh):Nonempty (WO W):=⟨⟨_,oP _ _⟩⟩
theorem aC{W:qh}{b o:Nat}{v:rU}(a:b<W.heap.size)(h:W.cell? ⟨b,o,none⟩=some v):∀x:WO W,x.w.cell? ⟨b,o,none⟩=some v:=fun x=>(x.h.cell (p:=⟨b,o,none⟩) a).trans h
theorem aeb(b off:Nat)(x y:Int)(w:qh)(h0:w.cell? ⟨b,off,none⟩=some (.int .i64 x))(o:w.cell? ⟨b,off+1,none⟩=some (.int .i64 y)):
  BG qL 146 #[.slice (some ⟨b,off,none⟩) 2 2] w fun e w'=>e= .returned (.int .i64 (if x≠0 then x else y))/\w'=w:=by
 obtain⟨r,f⟩:=ai ((if x≠0 then x else y));rw [f.out];go_enter Tryz.func146,Tryz.ntmps146;go_wp2;go_loop [8] (fun i=>∃k:Nat,k<=2/\i= .int .i64 k/\BD (0<k->x=0)/\BD (1<k->y=0)) (fun i=>2-(GX i).toNat)
 case atStart=>exact⟨0,by omega,rfl,ae (by omega),ae (by omega)⟩
 case round=>
  obtain⟨k,n,rfl,j,m⟩:=hrel;have h:k=0\/k=1\/k=2:=by omega
  rcases h with rfl|rfl|rfl
  ·by_cases a:x=0
   ·subst a;go_wp2;go_round
    case rel=>exact⟨1,by omega,by go_num,ae (by first|(intro _;rfl)|simp),ae (by omega)⟩
    case measure=>simp [GX]
   ·have c:r=x:=by rw [<-f.out,af a]
    have d:=ae c;have b1:(x==0)=false:=by simpa using a
    clear a c;go_wp2;go_ret;exact⟨aF d.out.symm,rfl⟩
  ·have a:x=0:=j.out (by omega);have c:r=y:=by rw [<-f.out,ag (by simp [a])]
   have d:=ae c;have l:=ae a;clear c a j m f;by_cases g:y=0
   ·subst g;go_wp2;go_round
    case rel=>exact⟨2,by omega,by go_num,ae (fun _=>l.out),ae (by first|(intro _;rfl)|simp)⟩
    case measure=>simp [GX]
   ·have b1:(y==0)=false:=by simpa using g
    clear g;go_wp2;go_ret;exact⟨aF d.out.symm,rfl⟩
  ·have c:r=0:=by rw [<-f.out,ag (by simp [j.out (by omega)]),m.out (by omega)]
   have d:=ae c;clear c;go_wp2;go_ret;exact⟨aF d.out.symm,rfl⟩
def PF(p1 p2 q1 q2 c1 c2 r:Int)(R:Nat)(w:qh):Nat->rU->Prop
 |0,v=>v= .pointer (some ⟨R,0,none⟩)
 |1,v=>v= .int .i64 p1
 |2,v=>v= .pointer (some ⟨R+1,0,none⟩)
 |3,v=>v= .int .i64 q1
 |4,v=>v= .int .i64 c1
 |5,v=>v= .pointer (some ⟨R,1,none⟩)
 |6,v=>v= .int .i64 p2
 |7,v=>v= .pointer (some ⟨R+1,1,none⟩)
 |8,v=>v= .int .i64 q2
 |9,v=>v= .int .i64 c2
 |10,v=>∃b,v= .slice (some ⟨b,0,none⟩) 2 2/\b<w.heap.size/\w.cell? ⟨b,0,none⟩=some (.int .i64 c1)/\w.cell? ⟨b,1,none⟩=some (.int .i64 c2)
 |11,v=>v= .int .i64 r
 |_,_=>True
theorem PF.mono{p1 p2 d c c1 c2 r:Int}{R:Nat}{w w':qh}{k:Nat}{v:rU}(h:PF p1 p2 d c c1 c2 r R w k v)(a:xk w.heap.size w w'):PF p1 p2 d c c1 c2 r R w' k v:=by
 have j:=a.size;match k,h with
 |10,⟨b,i,e,g,f⟩=>exact⟨b,i,by omega,((uy a).1 b 0 e).trans g,((uy a).1 b 1 e).trans f⟩
 |0,h=>exact h
 |1,h=>exact h
 |2,h=>exact h
 |3,h=>exact h
 |4,h=>exact h
 |5,h=>exact h
 |6,h=>exact h
 |7,h=>exact h
 |8,h=>exact h
 |9,h=>exact h
 |11,h=>exact h
 |n+12,h=>exact h
structure ab4(p1 p2 q1 q2 c1 c2 r:Int)(R:Nat)(W0:qh)(listed:Array Bool)(a:WZ)(w:qh):Prop where
 ls:listed.size=13
 sz:a.tmps.size=17
 df:a.defers= []
 s2:a.tmps[2]?.getD xh= .pointer (some ⟨R,0,none⟩)
 s3:a.tmps[3]?.getD xh= .pointer (some ⟨R+1,0,none⟩)
 f:∀k,k<12->listed.getD k false=true->PF p1 p2 q1 q2 c1 c2 r R w k (a.tmps[k+5]?.getD xh)
 nb:xk W0.heap.size W0 w
 dn:listed.getD 12 false=true->a.tmps[4]?.getD xh= .int .i64 r
theorem ab4.put{p1 p2 d c c1 c2 r:Int}{R:Nat}{j:qh}{listed:Array Bool}{a:WZ}{w w':qh}{i:Nat}{v:rU}(h:ab4 p1 p2 d c c1 c2 r R j listed a w)(n:i<12)(e:xk w.heap.size w w')(l:PF p1 p2 d c c1 c2 r R w' i v):
  ab4 p1 p2 d c c1 c2 r R j (listed.setIfInBounds i true) (a.put (some (i+5)) v) w':=by
 refine⟨by simp [h.ls],by simp [Act.put,h.sz],h.df,by rw [jT (by omega)];exact h.s2,by rw [jT (by omega)];exact h.s3,?_,h.nb.trans (e.mono h.nb.size),fun g=> ?_⟩
 ·intro k m hl;by_cases b:i=k
  ·subst b;rw [eval_eq (by rw [h.sz];omega)];exact l
  ·rw [Qe false b]at hl;rw [jT (by omega)];exact(h.f k m hl).mono e
 ·rw [Qe false (by omega)]at g;rw [jT (by omega)];exact h.dn g
theorem iM(p q:Int×Int)(w:qh):
  BG qL 100 #[.agg #[.int .i64 p.1,.int .i64 p.2],.agg #[.int .i64 q.1,.int .i64 q.2]] w fun e w'=>e= .returned (.int .i64 (Dq p q))/\xk w.heap.size w w':=by
 obtain⟨p1,p2⟩:=p;obtain⟨u,t⟩:=q;obtain⟨c1,H1⟩:=ai (lV p1 u);obtain⟨c2,M⟩:=ai (lV p2 t);obtain⟨r,L⟩:=ai ((if c1≠0 then c1 else c2));have Q:BD (Dq (p1,p2) (u,t)=r):=ae (by unfold Dq;rw [H1.out,M.out,L.out]);go_enter Tryz.func100,Tryz.ntmps100;go_wp2_with fail;refine wp_region_any (by kernel_rfl) ?_;obtain⟨s,j⟩:∃s:qh,s=((w.alloc (.cells #[.int .i64 p1,.int .i64 p2] 49)).alloc (.cells #[.int .i64 u,.int .i64 t] 49)):=⟨_,rfl⟩
 have J:w.heap.size<s.heap.size:=by rw [j];simp;omega
 have y:w.heap.size+1<s.heap.size:=by rw [j];simp
 have d0:s.cell? ⟨w.heap.size,0,none⟩=some (.int .i64 p1):=by rw [j];simp
 have d1:s.cell? ⟨w.heap.size,1,none⟩=some (.int .i64 p2):=by rw [j];simp
 have d2:s.cell? ⟨w.heap.size+1,0,none⟩=some (.int .i64 u):=by rw [j];simp
 have d3:s.cell? ⟨w.heap.size+1,1,none⟩=some (.int .i64 t):=by rw [j];simp
 have z:xk w.heap.size w s:=by rw [j];exact((oP _ _).alloc (oC _) _).alloc (by simp) _
 refine Jp (ab4 p1 p2 u t c1 c2 r w.heap.size s) ?_ ?_ _ _ _ _ (by decide+kernel) ?_
 ·intro i listed a W I c;rw [mem_ready]at I;obtain⟨hl,o,A,d⟩:=I;have O:i<13:=(Array.getElem?_eq_some_iff.1 A).1;have C:i=0\/i=1\/i=2\/i=3\/i=4\/i=5\/i=6\/i=7\/i=8\/i=9\/i=10\/i=11\/i=12:=by omega
  rcases C with rfl|rfl|rfl|rfl|rfl|rfl|rfl|rfl|rfl|rfl|rfl|rfl|rfl
  all_goals
   simp at A;subst A;refine au rfl rfl ?_
  ·have g:=c.s2;simp [xx,go_sem,g];exact c.put (i:=0) (by omega) (oP _ _) rfl
  ·have g:a.tmps[5]?.getD xh= .pointer (some ⟨w.heap.size,0,none⟩):=c.f 0 (by omega) (d ⟨0,.data⟩ (by simp) rfl);have l:=((uy c.nb).1 w.heap.size 0 J).trans d0;simp [xx,go_sem,g,l];exact c.put (i:=1) (by omega) (oP _ _) rfl
  ·have g:=c.s3;simp [xx,go_sem,g];exact c.put (i:=2) (by omega) (oP _ _) rfl
  ·have g:a.tmps[7]?.getD xh= .pointer (some ⟨w.heap.size+1,0,none⟩):=c.f 2 (by omega) (d ⟨2,.data⟩ (by simp) rfl);have l:=((uy c.nb).1 (w.heap.size+1) 0 y).trans d2;simp [xx,go_sem,g,l];exact c.put (i:=3) (by omega) (oP _ _) rfl
  ·have g:a.tmps[6]?.getD xh= .int .i64 p1:=c.f 1 (by omega) (d ⟨1,.data⟩ (by simp) rfl);have l:a.tmps[8]?.getD xh= .int .i64 u:=c.f 3 (by omega) (d ⟨3,.data⟩ (by simp) rfl);simp [xx,go_sem,g,l];refine(BQ p1 u W).mono ?_;rw [H1.out];rintro e G ⟨rfl,rfl⟩;exact c.put (i:=4) (by omega) (oP _ _) rfl
  ·have g:=c.s2;simp [xx,go_sem,g];exact c.put (i:=5) (by omega) (oP _ _) rfl
  ·have g:a.tmps[10]?.getD xh= .pointer (some ⟨w.heap.size,1,none⟩):=c.f 5 (by omega) (d ⟨5,.data⟩ (by simp) rfl);have l:=((uy c.nb).1 w.heap.size 1 J).trans d1;simp [xx,go_sem,g,l];exact c.put (i:=6) (by omega) (oP _ _) rfl
  ·have g:=c.s3;simp [xx,go_sem,g];exact c.put (i:=7) (by omega) (oP _ _) rfl
  ·have g:a.tmps[12]?.getD xh= .pointer (some ⟨w.heap.size+1,1,none⟩):=c.f 7 (by omega) (d ⟨7,.data⟩ (by simp) rfl);have l:=((uy c.nb).1 (w.heap.size+1) 1 y).trans d3;simp [xx,go_sem,g,l];exact c.put (i:=8) (by omega) (oP _ _) rfl
  ·have g:a.tmps[11]?.getD xh= .int .i64 p2:=c.f 6 (by omega) (d ⟨6,.data⟩ (by simp) rfl);have l:a.tmps[13]?.getD xh= .int .i64 t:=c.f 8 (by omega) (d ⟨8,.data⟩ (by simp) rfl);simp [xx,go_sem,g,l];refine(BQ p2 t W).mono ?_;rw [M.out];rintro e G ⟨rfl,rfl⟩;exact c.put (i:=9) (by omega) (oP _ _) rfl
  ·have g:a.tmps[9]?.getD xh= .int .i64 c1:=c.f 4 (by omega) (d ⟨4,.data⟩ (by simp) rfl);have l:a.tmps[14]?.getD xh= .int .i64 c2:=c.f 9 (by omega) (d ⟨9,.data⟩ (by simp) rfl);simp [xx,go_sem,g,l];exact c.put (i:=10) (by omega) ((oP _ _).alloc (oC _) _) ⟨W.heap.size,rfl,by simp,by simp,by simp⟩
  ·obtain⟨b,g,R,E,D⟩:=c.f 10 (by omega) (d ⟨10,.data⟩ (by simp) rfl);simp only [Nat.reduceAdd]at g;simp [xx,go_sem,g];refine(aeb b 0 c1 c2 W E D).mono ?_;rw [L.out];rintro e G ⟨rfl,rfl⟩;exact c.put (i:=11) (by omega) (oP _ _) rfl
  ·have g:a.tmps[16]?.getD xh= .int .i64 r:=c.f 11 (by omega) (d ⟨11,.data⟩ (by simp) rfl);simp [xx,go_sem,g];refine⟨by simp [c.ls],by simp [c.sz],c.df,?_,?_,?_,c.nb,?_⟩
   ·have:=jT (a:=a) (m:=4) (n:=2) (v:= .int .i64 r) (by omega);exact this.trans c.s2
   ·have:=jT (a:=a) (m:=4) (n:=3) (v:= .int .i64 r) (by omega);exact this.trans c.s3
   ·intro k H x;rw [Qe false (by omega)]at x;have:=jT (a:=a) (m:=4) (n:=k+5) (v:= .int .i64 r) (by omega);exact this▸c.f k H x
   ·intro _;exact eval_eq (a:=a) (m:=4) (v:= .int .i64 r) (by rw [c.sz];omega)
 ·intro listed a W N c;rename_i K hK;have F:=mX (by decide+kernel) c.ls N 12 (by decide);have P:=c.dn F;refine hK a W ?_;refine wp_ret ?_;show bodyPost qL Tryz.f100 _ Exit.ret a W;refine OG (v:= .int .i64 r) (by simp [results,Tryz.results100,go_sem,P]) c.df ⟨aF Q.out.symm,z.trans (c.nb.mono z.size)⟩
 ·rw [<-j];refine⟨by rfl,by rfl,rfl,by rfl,by rfl,?_,Below.drew (oP _ _),?_⟩
  ·intro k H h;have:(Ru 13 false).getD k false=true:=h;rw [show(Ru 13 false).getD k false=false from by by_cases B:k<13<;>simp [B]]at this
   cases this
  ·intro h;have:(Ru 13 false).getD 12 false=true:=h;simp at this
theorem Pl.wO{p:Int×Int}(h:p.2<0\/8<p.2\/p.1<0\/255<p.1):iH p=2:=by
 unfold iH;rw [ag];unfold Pl.inP;simp;omega
theorem Pl.Ub{p:Int×Int}(b:0<=p.2/\p.2<=8)(a:0<=p.1/\p.1<=255):iH p=if p.1%Pl.span p.2=0 then 0 else 4:=by
 unfold iH;rw [af];unfold Pl.inP;simp;omega
theorem oI(p:Int×Int)(w:qh):
  BG qL 99 #[.agg #[.int .i64 p.1,.int .i64 p.2]] w fun e w'=>e= .returned (.int .i64 (iH p))/\xk w.heap.size w w':=by
 obtain⟨a,b⟩:=p;have c:xk w.heap.size w (w.alloc (.cells #[.int .i64 a,.int .i64 b] 49)):=(oP _ _).alloc (oC _) _;rcases Qi b 0 with g|g
 ·have d:=ae (wO (p:=(a,b)) (.inl g));go_enter Tryz.func99,Tryz.ntmps99;go_wp2;go_ret;exact⟨aF d.out.symm,c⟩
 rcases Qi 8 b with f|f
 ·have d:=ae (wO (p:=(a,b)) (.inr (.inl f)));go_enter Tryz.func99,Tryz.ntmps99;go_wp2;go_ret;exact⟨aF d.out.symm,c⟩
 rcases Qi a 0 with h|h
 ·have d:=ae (wO (p:=(a,b)) (.inr (.inr (.inl h))));go_enter Tryz.func99,Tryz.ntmps99;go_wp2;go_ret;exact⟨aF d.out.symm,c⟩
 rcases Qi 255 a with j|j
 ·have d:=ae (wO (p:=(a,b)) (.inr (.inr (.inr j))));go_enter Tryz.func99,Tryz.ntmps99;go_wp2;go_ret;exact⟨aF d.out.symm,c⟩
 have d:=ae (Ub (p:=(a,b)) ⟨g,f⟩ ⟨h,j⟩);obtain⟨t0,t1,t2,t3,t4,t5,t6,t7,t8⟩:=FM;have i:=Ic ⟨g,f⟩;rcases i with rfl|rfl|rfl|rfl|rfl|rfl|rfl|rfl|rfl
 all_goals
  clear g f;have l:∀k,a.tmod k=a%k:=fun k=>Int.tmod_eq_emod_of_nonneg h;simp only [t0,t1,t2,t3,t4,t5,t6,t7,t8]at d;go_enter Tryz.func99,Tryz.ntmps99;go_wp2_with fail;go_quiet (fail);go_wp2_with fail
 all_goals go_ret
 all_goals exact⟨aF (by rw [d.out];split<;>simp_all),aO c _⟩
theorem Pl.U7{m:Int}(h:0<=m/\m<=7):(Pl.span m).tdiv 2=Pl.span (m+1)/\0<=Pl.span m/\Pl.span m<=256:=by
 have:m=0\/m=1\/m=2\/m=3\/m=4\/m=5\/m=6\/m=7:=by omega
 rcases this with rfl|rfl|rfl|rfl|rfl|rfl|rfl|rfl<;>decide
theorem zH(b:Int)(w:qh)(s:0<=b/\b<=8):
  BG qL 121 #[.int .i64 b] w fun e w'=>e= .returned (.int .i64 (Pl.span b))/\w'=w:=by
 obtain⟨f,r⟩:=s;go_enter Tryz.func121,Tryz.ntmps121;go_wp2;go_loop [0,3] (fun g n=>∃(k:Nat) (x:Int),g= .int .i64 k/\(k:Int)<=b/\n= .int .i64 x/\BD (x=Pl.span (b-k))) (fun g _=>(GX g).toNat)
 case atStart=>exact⟨b.toNat,256,by go_num,by omega,rfl,ae (by rw [Int.toNat_of_nonneg f,Int.sub_self];rfl)⟩
 case round=>
  obtain⟨k,x,rfl,t,rfl,l⟩:=hrel;rcases GM k with rfl|i
  ·have h:BD (x=Pl.span b):=ae (by rw [l.out];simp);go_wp2;go_ret;exact⟨aF h.out,rfl⟩
  ·obtain⟨m,rfl⟩:∃m,k=m+1:=⟨k-1,by omega⟩
   obtain⟨d,a,c⟩:=U7 (m:=b-((m+1:Nat):Int)) (by omega);rw [<-l.out]at d a c;obtain⟨y,j⟩:=ai (Pl.span (b-((m+1:Nat):Int)+1));rw [j.out]at d;have q:0<=y/\y<=256:=by rw [<-d,Int.tdiv_eq_ediv_of_nonneg a];omega
   obtain⟨p,o⟩:=q;go_wp2;go_round
   case rel=>exact⟨m,y,by go_num,by omega,by first|rfl|go_num,ae (by rw [<-j.out];congr 1;omega)⟩
   case measure=>simp [GX]
theorem dR(a:Option Addr)(len cap:Nat)(ps:List (Int×Int))(w:qh)(h:di w a len cap ps):
  BG qL 60 #[.slice a len cap] w fun e w'=>e= .returned (.int .i64 (fM ps))/\xk w.heap.size w w':=by
 obtain⟨hl,hc,hm,X,g⟩:=h;unfold Eb at hm;by_cases h6:6<len
 ·have J:=ae (Dp (ps:=ps) (by omega));go_enter Tryz.func60,Tryz.ntmps60;go_wp2;go_ret;exact⟨aF J.out.symm,oP _ _⟩
 go_enter Tryz.func60,Tryz.ntmps60;go_wp2;go_loopw [11] (fun i wr=>∃k:Nat,k<=len/\i= .int .i64 k/\BD (fM ps=Pl.pfxN ps (len-k) k)/\BD (∀j,j<k->iH (Pl.pr ps j)=0)/\xk w.heap.size w wr) (fun i _=>len-(GX i).toNat)
 case atStart=>exact⟨0,Rw _,rfl,by show _=_;rw [xY (by omega),hl];rfl,ae (by intro j Z;omega),oP _ _⟩
 case round=>
  obtain⟨k,hk,rfl,D,S,o⟩:=hrel;by_cases Y:k<len
  ·obtain⟨b,off,rfl,G,V⟩:∃b off,a=some ⟨b,off,none⟩/\b<w.heap.size/\eP w b off ps:=by
    rcases g with rfl|h
    ·simp at hl;omega
    ·exact h
   clear g;have u:=V.below G o;obtain⟨c0,c1⟩:=u k (by omega);have r:=o.size;obtain⟨n,N⟩:∃n,len-k=n+1:=⟨len-k-1,by omega⟩
   have B:BD (len-k=n+1):=N;clear N;have v:b<wr.heap.size:=by omega
   obtain⟨pp,A⟩:=ai (Pl.pr ps k);rw [A.out]at c0 c1;obtain⟨I,q⟩:=ai (iH pp);by_cases f:I=0
   ·subst f;have C:BD (iH (Pl.pr ps k)=0):=ae (by rw [A.out,q.out]);have R:BD (∀j,j<k+1->iH (Pl.pr ps j)=0):=by
     refine ae fun j Z=> ?_;rcases Pe j k with h|h
     ·exact S.out j h
     ·obtain rfl:j=k:=by omega
      exact C.out
    rcases GM k with l|l
    ·have hd:decide (0<k)=false:=by simp;omega
     have U:BD (k=0):=l;clear l;go_wp2_with fail;refine(oI pp _).mono ?_;rw [q.out];rintro e s ⟨rfl,d⟩;go_wp2_with fail;go_quiet (fail);go_wp2_with fail;go_roundw
     case rel=>exact⟨k+1,by omega,by go_num,by show _=_;have h:=B.out;rw [D.out,h];have hm:=C.out;rw [U.out]at hm⊢;rw [zM hm];congr 1;have h0:=U.out;omega,R,aO ((o.alloc r _).trans (d.mono (by simp;omega))) _⟩
     case measure=>simp [GX];omega
    ·obtain⟨m,rfl⟩:∃m,k=m+1:=⟨k-1,by omega⟩
     obtain⟨d0,d1⟩:=u m (by omega);obtain⟨E,T⟩:=ai (Pl.pr ps m);rw [T.out]at d0 d1;obtain⟨H,P⟩:=ai (Dq E pp);have Q:BD (decide (0<=H)=oz (Pl.pr ps m) (Pl.pr ps (m+1))):=by
      refine ae ?_;rw [<-P.out,<-A.out,<-T.out];exact Yg (gm (S.out m (by omega))) (gm C.out)
     have XB:BD (∀W,BG qL 100 #[.agg #[.int .i64 E.1,.int .i64 E.2],.agg #[.int .i64 pp.1,.int .i64 pp.2]] W fun e w'=>e= .returned (.int .i64 H)/\xk W.heap.size W w'):=by
      refine ae fun W=> ?_;have:=iM E pp W;rwa [P.out]at this
     by_cases hle:0<=H
     all_goals
      go_wp2_with fail;refine(oI pp _).mono ?_;rw [q.out];rintro e s ⟨rfl,d⟩;have M:xk (wr.heap.size+1) (wr.alloc (.cells #[.int .i64 pp.1,.int .i64 pp.2] 49)) s:=by simpa using d
      obtain⟨L,K,xs,c⟩:=vK M;have z:=(c.cell (p:=⟨b,off+m*2,none⟩) v).trans d0;have y:=(c.cell (p:=⟨b,off+m*2+1,none⟩) v).trans d1;clear d M;have O:b<s.heap.size:=by omega
      go_wp2_with fail;have i0:=aC xs L;have i1:=aC xs K;have i2:=aC O z;have i3:=aC O y;have F:=dO s;refine aN (by kernel_rfl) (by kernel_rfl) ?_;repeat (go_big_quiet_step ((go_at_call 100;exact dP (XB.out _))))
      refine aad ?_;intro w5 t;have x:=eU t;clear t i0 i1 i2 i3 F L K z y;go_wp2_with fail
     ·go_ret;exact⟨aF (by rw [D.out,B.out,F6 C.out (by rw [<-Q.out];simpa using hle)]),o.trans ((c.mono r).trans (x.mono (IA r c.size)))⟩
     ·go_roundw
      case rel=>exact⟨m+1+1,by omega,by go_num,by show _=_;rw [D.out,B.out,KX C.out (by rw [<-Q.out];simpa using hle)];congr 1;have:=B.out;omega,R,o.trans ((c.mono r).trans (x.mono (IA r c.size)))⟩
      case measure=>simp [GX];omega
   ·have J:BD (fM ps=I):=by
     refine ae ?_;rw [D.out,B.out,Bd (by rw [A.out,q.out];exact f),A.out,q.out]
    have aa:(I==0)=false:=by simpa using f
    clear f;go_wp2_with fail;refine(oI pp _).mono ?_;rw [q.out];rintro e s ⟨rfl,d⟩;go_wp2_with fail;go_ret;exact⟨aF J.out.symm,(o.alloc r _).trans (d.mono (by simp;omega))⟩
  ·obtain rfl:k=len:=by omega
   go_wp2;go_ret;exact⟨aF (by rw [D.out];simp [Pl.pfxN]),o⟩
theorem Pm(a:Option Addr)(len cap:Nat)(c:List Int)(w:qh)(h:fV w a len cap c):
  BG qL 156 #[.slice a len cap] w fun e w'=>e= .returned (.bool (fP c))/\w'=w:=by
 have A:=ae h;have hl:=h.1;have hc:=h.2.1;have hm:=h.2.2.1;unfold Eb at hm;clear h;go_enter Tryz.func156,Tryz.ntmps156;go_wp2;go_loop [7] (fun i=>∃k:Nat,k<=len/\i= .int .i64 k/\BD (∀j,j<k->mQ c j=true)) (fun i=>len-(GX i).toNat)
 case atStart=>exact⟨0,Rw _,rfl,ae (by intro j t;omega)⟩
 case round=>
  obtain⟨k,C,rfl,v⟩:=hrel;by_cases p:k<len
  ·obtain⟨b,off,rfl,E,s⟩:=A.out.at p;have c0:=s k (by omega);obtain⟨z,l⟩:=ai (Pl.nm c k);rw [l.out]at c0;obtain⟨r,n⟩:=ai (decide (0<=z/\z<=11));have o:BD (∀W,BG qL 72 #[.int .i64 z] W fun e w'=>e= .returned (.bool r)/\w'=W):=by
    refine ae fun W=> ?_;have:=aZ z W;rwa [n.out]at this
   have x:BD (mQ c k=false->fP c=false):=ae fun hh=>Ey (by omega) hh
   cases r
   ·have f:BD (mQ c k=false):=ae (by unfold mQ;rw [l.out,n.out];rfl);go_wp2_with (go_at_call 72;refine(o.out _).mono ?_;rintro e w' ⟨rfl,rfl⟩);go_ret;exact⟨bf (x.out f.out).symm,rfl⟩
   ·rcases GM k with d|d
    ·have D:decide (0<k)=false:=by simp;omega
     have f:BD (mQ c k=true):=ae (by rw [d,uf,<-d,l.out,n.out]);have B:=ae d;clear d;go_wp2_with (go_at_call 72;refine(o.out _).mono ?_;rintro e w' ⟨rfl,rfl⟩);go_round
     case rel=>exact⟨k+1,by omega,by go_num,ae fun j t=>by have:=B.out;obtain rfl:j=k:=(by omega);exact f.out⟩
     case measure=>simp [GX];omega
    ·obtain⟨m,rfl⟩:∃m,k=m+1:=⟨k-1,by omega⟩
     have c1:=s m (by omega);obtain⟨y,u⟩:=ai (Pl.nm c m);rw [u.out]at c1;have g:BD (mQ c (m+1)=decide (y<z)):=ae (by rw [pU,l.out,u.out,n.out];rfl);by_cases hle:z<=y
     ·have f:BD (mQ c (m+1)=false):=ae (by rw [g.out];simp;omega);go_wp2_with (go_at_call 72;refine(o.out _).mono ?_;rintro e w' ⟨rfl,rfl⟩);go_ret;exact⟨bf (x.out f.out).symm,rfl⟩
     ·have f:BD (mQ c (m+1)=true):=ae (by rw [g.out];simp;omega);go_wp2_with (go_at_call 72;refine(o.out _).mono ?_;rintro e w' ⟨rfl,rfl⟩);go_round
      case rel=>exact⟨m+1+1,by omega,by go_num,ae fun j t=>by rcases Pe j (m+1)with q|q;exact v.out j q;obtain rfl:j=m+1:=(by omega);exact f.out⟩
      case measure=>simp [GX];omega
  ·obtain rfl:k=len:=by omega
   have f:BD (fP c=true):=ae (zV (by rw [hl];exact v.out));go_wp2;go_ret;exact⟨bf f.out.symm,rfl⟩
theorem Pl.NW(p:Int×Int):fM [p]=iH p:=by
 unfold fM Pl.pfxN Pl.pfxN;by_cases h:iH p=0<;>simp [Pl.pr,h]
theorem yg(w:qh)(n:Nat)(p1 p2:Int)(T:OM)(h:dJ (p1,p2))(b:w.heap.size=n):di (w.alloc (.cells #[.int .i64 p1,.int .i64 p2] T)) (some ⟨n,0,none⟩) 1 1 [(p1,p2)]:=by
 subst b;refine⟨rfl,oC _,by unfold Eb;omega,by simpa using h,.inr ⟨w.heap.size,0,rfl,by simp,?_⟩⟩;intro i a;simp at a;subst a;simp [Pl.pr]
theorem Pl.QC{r:Pl.Rt}(h:¬iH r.p=0):dW r=false:=by unfold dW;rw [Fb h];rfl
theorem Pl.NL{r:Pl.Rt}(h:iH r.p=0)(k:r.here=true):dW r=(decide (r.cost=0)&&decide (r.aH.length=0)):=by
 unfold dW;rw [zx h,k,MJ];simp only [Bool.true_and,if_true,Jk,ik,List.length_eq_zero_iff];constructor
 ·rintro⟨⟨_,b,a⟩,_⟩;exact⟨b,a⟩
 ·rintro⟨b,a⟩;rw [b,a];exact⟨⟨by omega,rfl,rfl⟩,rfl⟩
theorem Pl.KU{r:Pl.Rt}(h:iH r.p=0)(k:r.here=false):dW r=(decide (0<=r.cost)&&decide (r.cost<=1048576)&&decide (0<r.aH.length)&&fP r.aH):=by
 unfold dW;rw [zx h,k,MJ];simp [List.length_pos_iff]
theorem Ox(h:Pl.RH)(r:Pl.Rt)(w:qh)(F:Reads w h r):
  BG qL 108 #[.agg #[.int .i64 h.p.1,.int .i64 h.p.2,.bool h.here,.int .i64 h.cost,.slice h.ha h.hl h.hc]] w fun e w'=>e= .returned (.bool (dW r))/\xk w.heap.size w w':=by
 obtain⟨l,k,j,i,o⟩:=F;obtain⟨⟨p1,p2⟩,here,cost,ha,hl,hc⟩:=h;simp only at l k j i;simp only;obtain⟨R,q⟩:=ai (dW r);rw [q.out];have u:BD (dJ (p1,p2)):=ae (by rw [l];exact o);obtain⟨c,s⟩:=ai (fM [(p1,p2)]);have x:BD (iH r.p=c):=ae (by rw [<-s.out,NW,l]);have J:=ae i;have A:BD (r.aH.length=hl):=ae i.1;have G:=i.2.1;have t:=i.2.2.1;unfold Eb at t;by_cases g:c=0
 ·subst g;have f:=x.out
  cases here
  ·have m:BD (R=(decide (0<=cost)&&decide (cost<=1048576)&&decide (0<hl)&&fP r.aH)):=ae (by rw [<-q.out,KU f k.symm,j,A.out]);obtain⟨I,n⟩:=ai (fP r.aH);rw [n.out]at m;clear f l k j i o;by_cases g1:0<=cost
   all_goals by_cases g2:cost<=1048576
   all_goals by_cases g3:0<hl
   all_goals first|(exfalso;omega)|skip
   all_goals
    go_enter Tryz.func108,Tryz.ntmps108;go_wp2_with fail;refine(dR _ _ _ [(p1,p2)] _ (yg _ _ p1 p2 _ u.out (by simp))).mono ?_;rw [s.out];rintro e b ⟨rfl,a⟩;have D:b.cell? ⟨w.heap.size,2,none⟩=some (.bool false):=(a.cell (by simp;omega)).trans (by simp);have C:b.cell? ⟨w.heap.size,3,none⟩=some (.int .i64 cost):=(a.cell (by simp;omega)).trans (by simp);have B:b.cell? ⟨w.heap.size,4,none⟩=some (.slice ha hl hc):=(a.cell (by simp;omega)).trans (by simp);have d:xk w.heap.size w b:=(((oP _ _).alloc (oC _) _).alloc (by simp) _).trans (a.mono (by simp;omega));have v:BD (BG qL 156 #[.slice ha hl hc] b fun e w'=>e= .returned (.bool I)/\w'=b):=by
     refine ae ?_;have:=Pm ha hl hc r.aH b (J.out.below d);rwa [n.out]at this
    clear a;go_wp2_with (go_at_call 156;refine v.out.mono ?_;rintro e w' ⟨rfl,rfl⟩);go_ret;exact⟨bf (by rw [m.out];simp [g1,g2,g3]<;>(intros;omega)),d⟩
  ·have m:BD (R=(decide (cost=0)&&decide (hl=0))):=ae (by rw [<-q.out,NL f k.symm,j,A.out]);clear f l k j i o;obtain⟨z,g1⟩:∃c,(cost==0)=c:=⟨_,rfl⟩
   obtain⟨y,g3⟩:∃c,((hl:Int)==0)=c:=⟨_,rfl⟩
   have E:BD (R=(z&&y)):=ae (by rw [m.out,<-g1,<-g3,MJ];simp)
   cases z
   all_goals cases y
   all_goals
    go_enter Tryz.func108,Tryz.ntmps108;go_wp2_with fail;refine(dR _ _ _ [(p1,p2)] _ (yg _ _ p1 p2 _ u.out (by simp))).mono ?_;rw [s.out];rintro e b ⟨rfl,a⟩;have D:b.cell? ⟨w.heap.size,2,none⟩=some (.bool true):=(a.cell (by simp;omega)).trans (by simp);have C:b.cell? ⟨w.heap.size,3,none⟩=some (.int .i64 cost):=(a.cell (by simp;omega)).trans (by simp);have B:b.cell? ⟨w.heap.size,4,none⟩=some (.slice ha hl hc):=(a.cell (by simp;omega)).trans (by simp);have d:xk w.heap.size w b:=(((oP _ _).alloc (oC _) _).alloc (by simp) _).trans (a.mono (by simp;omega));clear a;go_wp2_with fail;go_ret;exact⟨bf (by rw [E.out];rfl),d⟩
 ·have m:BD (R=false):=ae (by rw [<-q.out];exact QC (by rw [x.out];exact g));have H:(c != 0)=true:=by simpa using g
  clear g l k j i o;go_enter Tryz.func108,Tryz.ntmps108;go_wp2_with fail;refine(dR _ _ _ [(p1,p2)] _ (yg _ _ p1 p2 _ u.out (by simp))).mono ?_;rw [s.out];rintro e b ⟨rfl,a⟩;have d:xk w.heap.size w b:=(((oP _ _).alloc (oC _) _).alloc (by simp) _).trans (a.mono (by simp;omega));clear a;go_wp2_with fail;go_ret;exact⟨bf m.out.symm,d⟩
theorem vJ{w w3:qh}{c0 c1 c2 c b:rU}{T:OM}(a:xk (w.heap.size+1) (w.alloc (.cells #[c0,c1,c2,c,b] T)) w3):
  (w3.cell? ⟨w.heap.size,0,none⟩=some c0/\w3.cell? ⟨w.heap.size,1,none⟩=some c1/\w3.cell? ⟨w.heap.size,2,none⟩=some c2/\w3.cell? ⟨w.heap.size,3,none⟩=some c/\w3.cell? ⟨w.heap.size,4,none⟩=some b)/\w.heap.size<w3.heap.size/\xk w.heap.size w w3:=by
 have d:=a.size;simp only [World.alloc,Array.size_push]at d;refine⟨⟨?_,?_,?_,?_,?_⟩,by omega,((oP _ _).alloc (oC _) _).trans (a.mono (by omega))⟩
 all_goals
  rw [a.cell (by simp)];simp
theorem iR(a:Option Addr)(len cap:Nat)(u:List Pl.RH)(rs:List Pl.Rt)(w:qh)(h:jw w a len cap u)(f:ReadsAll w u rs):
  BG qL 66 #[.slice a len cap] w fun e w'=>e= .returned (.int .i64 (gB rs))/\xk w.heap.size w w':=by
 have HH:=ae h;have HD:=ae f;have v:rs.length=len:=by rw [<-f.1];exact h.1
 have x:u.length=len:=h.1;have hc:=h.2.1;have hm:=h.2.2.1;unfold Eb at hm;clear h f;obtain⟨R,S⟩:=ai (gB rs);rw [S.out];have T:=ae v;have I:=ae x;clear v x;by_cases Q:200<len
 ·have HS:BD (R=1):=ae (by rw [<-S.out];exact CV (by rw [T.out];exact Q));go_enter Tryz.func66,Tryz.ntmps66;go_wp2;go_ret;exact⟨aF HS.out.symm,oP _ _⟩
 go_enter Tryz.func66,Tryz.ntmps66;go_wp2;go_loopw [10] (fun i wr=>∃k:Nat,k<=len/\i= .int .i64 k/\BD (R=Pl.tabN rs (len-k) k)/\BD (xk w.heap.size w wr)) (fun i _=>len-(GX i).toNat)
 case atStart=>exact⟨0,Rw _,rfl,ae (by rw [<-S.out,CW (by rw [T.out];omega),T.out];rfl),ae (oP _ _)⟩
 case round=>
  obtain⟨k,hk,rfl,E,HB⟩:=hrel;by_cases j:k<len
  ·obtain⟨b,off,rfl,O,Y⟩:=HH.out.at j;have o:=HB.out;have g:=Y.below O o;have r:=o.size;have z:b<wr.heap.size:=by omega
   obtain⟨c0,c1,c2,c3,c4⟩:=g k (by rw [I.out];exact j);have X:=ae ((HD.out.2 k (by rw [I.out];exact j)).below o);obtain⟨n,Z⟩:∃n,len-k=n+1:=⟨len-k-1,by omega⟩
   have s:=ae Z;clear Z;obtain⟨mm,D⟩:=ai (dW (Pl.rt rs k));obtain⟨hh,HE⟩:=ai (Pl.rh u k);rw [HE.out]at c0 c1 c2 c3 c4;have G:=ae X.out;rw [HE.out]at G;have M:BD (hh.p=(Pl.rt rs k).p):=ae G.out.1;obtain⟨⟨p1,p2⟩,here,cost,ha,hl,y⟩:=hh;simp only at c0 c1 c2 c3 c4;have q:BD (∀W,xk wr.heap.size wr W->BG qL 108 #[.agg #[.int .i64 p1,.int .i64 p2,.bool here,.int .i64 cost,.slice ha hl y]] W fun e w'=>e= .returned (.bool mm)/\xk W.heap.size W w'):=by
    refine ae fun W hW=> ?_;have:=Ox ⟨(p1,p2),here,cost,ha,hl,y⟩ (Pl.rt rs k) W (G.out.below hW);rwa [D.out]at this
   clear X G Y
   cases mm
   ·go_wp2_with fail;refine(q.out _ ((oP _ _).alloc (oC _) _)).mono ?_;rintro e F ⟨rfl,d⟩;go_wp2_with fail;go_ret;exact⟨aF (by rw [E.out,s.out,CU D.out]),(o.alloc r _).trans (d.mono (by simp;omega))⟩
   ·rcases GM k with l|l
    ·have hd:decide (0<k)=false:=by simp;omega
     have H:BD (Bv rs k=false):=ae (by rw [l];exact DI rs);clear l;go_wp2_with fail;refine(q.out _ ((oP _ _).alloc (oC _) _)).mono ?_;rintro e F ⟨rfl,d⟩;go_wp2_with fail;go_quiet (fail);go_wp2_with fail;go_roundw
     case rel=>exact⟨k+1,by omega,by go_num,ae (by rw [E.out,s.out,AA D.out H.out];congr 1;have:=s.out;omega),ae (aO ((o.alloc r _).trans (d.mono (by simp;omega))) _)⟩
     case measure=>simp [GX];omega
    ·obtain⟨m,rfl⟩:∃m,k=m+1:=⟨k-1,by omega⟩
     obtain⟨d0,d1,_,_,_⟩:=g m (by rw [I.out];omega);obtain⟨gg,HG⟩:=ai ((Pl.rh u m).p);rw [HG.out]at d0 d1;have L:BD (gg=(Pl.rt rs m).p):=ae (by rw [<-HG.out];exact(HD.out.2 m (by rw [I.out];omega)).1);obtain⟨K,J⟩:=gg;simp only at d0 d1;obtain⟨P,UU⟩:=ai (Dq (K,J) (p1,p2));have H:BD (Bv rs (m+1)=decide (0<=P)):=by
      refine ae ?_;rw [<-UU.out,KZ,yt,<-L.out,<-M.out]
     have XB:BD (∀W,BG qL 100 #[.agg #[.int .i64 K,.int .i64 J],.agg #[.int .i64 p1,.int .i64 p2]] W fun e w'=>e= .returned (.int .i64 P)/\xk W.heap.size W w'):=by
      refine ae fun W=> ?_;have:=iM (K,J) (p1,p2) W;rwa [UU.out]at this
     clear g;by_cases hle:0<=P
     all_goals
      go_wp2_with fail;refine(q.out _ ((oP _ _).alloc (oC _) _)).mono ?_;rintro e F ⟨rfl,d⟩;obtain⟨⟨V,U,_,_,_⟩,xs,c⟩:=vJ (by simpa using d);have C:=(c.cell (p:=⟨b,off+m*5,none⟩) z).trans d0;have B:=(c.cell (p:=⟨b,off+m*5+1,none⟩) z).trans d1;clear d;have Zd:b<F.heap.size:=by omega
      go_wp2_with fail;have i0:=aC xs V;have i1:=aC xs U;have i2:=aC Zd C;have i3:=aC Zd B;have N:=dO F;refine aN (by kernel_rfl) (by kernel_rfl) ?_;repeat (go_big_quiet_step ((go_at_call 100;exact dP (XB.out _))))
      refine aad ?_;intro w5 t;have A:=eU t;clear t i0 i1 i2 i3 N V U C B;go_wp2_with fail
     ·go_ret;exact⟨aF (by rw [E.out,s.out,Nu D.out (by rw [H.out];simpa using hle)]),o.trans ((c.mono r).trans (A.mono (IA r c.size)))⟩
     ·go_roundw
      case rel=>exact⟨m+1+1,by omega,by go_num,ae (by rw [E.out,s.out,AA D.out (by rw [H.out];simpa using hle)];congr 1;have:=s.out;omega),ae (o.trans ((c.mono r).trans (A.mono (IA r c.size))))⟩
      case measure=>simp [GX];omega
  ·obtain rfl:k=len:=by omega
   go_wp2;go_ret;exact⟨aF (by rw [E.out];simp [Pl.tabN]),HB.out⟩
namespace Pl
def Be(addr:Int)(bits:Nat):Int×Int:=(addr-addr%span bits,bits)
def lookN(ps:List (Int×Int))(addr:Int):Nat->Option Nat
 |0=>none
 |n+1=>if bu ps (Be addr n)then some (posP ps (Be addr n))else lookN ps addr n
theorem Oo{ps:List (Int×Int)}{addr:Int}:∀{n i:Nat},lookN ps addr n=some i->i<ps.length
 |0,i,h=>by simp [lookN]at h
 |n+1,i,h=>by
  unfold lookN at h;split at h
  ·rename_i a
   cases h;exact jQ a
  ·exact Oo h
def jZ(rs:List Rt)(addr:Int):Int:=
 if gB rs=0 then(if 0<=addr/\addr<=255 then(match lookN (rs.map Rt.p) addr 9 with|some _=>0|none=>6)else 2)else gB rs
def jY(rs:List Rt)(addr:Int):Rt:=
 if gB rs=0 then(if 0<=addr/\addr<=255 then(match lookN (rs.map Rt.p) addr 9 with|some i=>rt rs i|none=>Rt.none)else Rt.none)else Rt.none
def FU(a b:Rt):Bool:=decide (a.here=b.here)&&decide (a.cost=b.cost)&&decide (a.aH=b.aH)
def Eu(a:List Rt)(r:Rt):Bool:=bu (a.map Rt.p) r.p&&FU (rt a (posP (a.map Rt.p) r.p)) r
def qN(a b:List Rt):List Rt:=b.filter fun r=> !Eu a r
def lu(a b:List Rt):List (Int×Int):=(a.filter fun r=> !bu (b.map Rt.p) r.p).map Rt.p
def Ho(rs:List Rt)(p:Int×Int):List Rt:=if bu (rs.map Rt.p) p then rs.take (posP (rs.map Rt.p) p)++rs.drop (posP (rs.map Rt.p) p+1)else rs
def ku(rs:List Rt)(ps:List (Int×Int)):List Rt:=ps.foldl Ho rs
def insR:List Rt->Rt->List Rt
 | [],x=> [x]
 |e::r,x=>if dw e.p x.p then e::insR r x else if e.p=x.p then x::r else x::e::r
def oO(rs:List Rt)(set:List Rt):List Rt:=set.foldl insR rs
def Ou(rs:List Rt)(i:Nat)(instead:Bool)(x:Rt):List Rt:=rs.take i++x::rs.drop (if instead then i+1 else i)
def eY(rs:List Rt):Prop:=rs.Pairwise fun a b=>dw a.p b.p=true
theorem Cb(rs:List Rt):xN (rs.map Rt.p)↔eY rs:=by
 unfold xN eY;rw [List.pairwise_iff_getElem];constructor
 ·intro h i j c a b;have:=h i j b (by simpa using a);rwa [qo rs i c,qo rs j a,rt_eq rs i c,rt_eq rs j a]at this
 ·intro h i j b a;simp only [List.length_map]at a;have:=h i j (by omega) a b;rwa [qo rs i (by omega),qo rs j a,rt_eq rs i (by omega),rt_eq rs j a]
def aaz(rs:List Rt):Prop:=rs.length<=200/\(∀r∈rs,dW r=true)/\eY rs
theorem yz(rs:List Rt):gB rs=0↔aaz rs:=by
 constructor
 ·intro h;obtain⟨d,c,b⟩:=iD h;refine⟨d,fun r e=> ?_,(Cb rs).1 b⟩;obtain⟨i,a,rfl⟩:=List.getElem_of_mem e;rw [<-rt_eq rs i a];exact c i a
 ·rintro⟨d,c,b⟩;exact KF d (fun i a=>c _ (XZ rs i a)) ((Cb rs).2 b)
theorem lG{e:Int×Int}{r:List (Int×Int)}{p:Int×Int}(h:dw e p=true):bu (e::r) p=bu r p:=by
 unfold bu;simp only [posP,h,if_true,lN,OO];simp
theorem lH{e:Int×Int}{r:List (Int×Int)}{p:Int×Int}(h:dw e p=false):bu (e::r) p=decide (e=p):=by
 unfold bu;simp [posP,h,pr]
theorem Gt:∀(rs:List Rt) (x:Rt),Ou rs (posP (rs.map Rt.p) x.p) (bu (rs.map Rt.p) x.p) x=insR rs x
 | [],x=>by simp [Ou,insR,posP,bu]
 |e::r,x=>by
  cases h:dw e.p x.p
  ·rw [LM,lH h];simp only [posP,h,insR,Ou];by_cases k:e.p=x.p
   ·simp [k]
   ·simp [k]
  ·rw [LM,lG h];have a:=Gt r x;unfold Ou at a⊢;simp only [posP,h,if_true,insR,VB,List.cons_append];rw [<-a]
   cases bu (r.map Rt.p) x.p<;>simp
theorem YC{rs:List Rt}{x e:Rt}(h:e∈insR rs x):e=x\/e∈rs:=by
 induction rs with
 |nil=>simp [insR]at h;exact .inl h
 |cons a r b=>
  unfold insR at h;split at h
  ·rcases List.mem_cons.1 h with rfl|h
   ·exact .inr (by simp)
   ·rcases b h with h|h
    ·exact .inl h
    ·exact .inr (by simp [h])
  ·split at h
   ·rcases List.mem_cons.1 h with rfl|h
    ·exact .inl rfl
    ·exact .inr (by simp [h])
   ·rcases List.mem_cons.1 h with rfl|h
    ·exact .inl rfl
    ·exact .inr h
theorem Gw{rs:List Rt}{x:Rt}(h:eY rs):eY (insR rs x):=by
 induction rs with
 |nil=>simp [eY,insR]
 |cons a r f=>
  unfold eY at h f⊢;rw [Xh]at h;obtain⟨c,d⟩:=h;unfold insR;split
  ·rename_i hl;refine List.pairwise_cons.2 ⟨fun e he=> ?_,f d⟩;rcases YC he with rfl|he
   ·exact hl
   ·exact c e he
  ·rename_i hl;split
   ·rename_i he;refine List.pairwise_cons.2 ⟨fun e hm=> ?_,d⟩;rw [<-he];exact c e hm
   ·rename_i he;have b:dw x.p a.p=true:=by
     cases k:dw x.p a.p
     ·exact absurd (QL (by simpa using hl) k) he
     ·rfl
    refine List.pairwise_cons.2 ⟨fun e hm=> ?_,List.pairwise_cons.2 ⟨c,d⟩⟩;rcases List.mem_cons.1 hm with rfl|hm
    ·exact b
    ·exact qp b (c e hm)
theorem Gx:∀(rs:List Rt) (x:Rt),(insR rs x).length=if bu (rs.map Rt.p) x.p then rs.length else rs.length+1
 | [],x=>by simp [insR,bu]
 |e::r,x=>by
  have a:=Gx r x
  cases h:dw e.p x.p
  ·rw [LM,lH h];simp only [insR,h];by_cases k:e.p=x.p<;>simp [k]
  ·rw [LM,lG h];simp only [insR,h,if_true,OO,a]
   cases bu (r.map Rt.p) x.p<;>simp
theorem Oz(rs:List Rt)(x:Rt):rs.length<=(insR rs x).length:=by
 rw [Gx];split<;>omega
theorem BA:∀(set rs:List Rt),rs.length<=(oO rs set).length
 | [],_=>oC _
 |x::r,rs=>IA (Oz rs x) (BA r (insR rs x))
theorem DN:∀(set rs:List Rt),eY rs->eY (oO rs set)
 | [],_,h=>h
 |_::r,_,h=>DN r _ (Gw h)
theorem EF:∀(rs:List Rt) (p:Int×Int),eY rs->Ho rs p=rs.filter fun r=>decide (¬r.p=p)
 | [],p,_=>by simp [Ho,bu]
 |e::r,p,h=>by
  unfold eY at h;rw [Xh]at h;obtain⟨g,f⟩:=h;have d:=EF r p f
  cases hl:dw e.p p
  ·have c:∀a∈r,¬a.p=p:=by
    intro a ha he;have:=g a ha;rw [he,hl]at this;cases this
   have b:(r.filter fun r=>decide (¬r.p=p))=r:=List.filter_eq_self.2 fun a ha=>by simpa using c a ha
   unfold Ho;rw [LM,lH hl];simp only [posP,hl];by_cases k:e.p=p
   ·simp only [k,decide_true,if_true];rw [List.filter_cons_of_neg (by simp [k]),b];simp
   ·simp only [k,decide_false];rw [Tq (by simp [k]),b];simp
  ·have k:¬e.p=p:=Bc hl;rw [Tq (by simp [k]),<-d];unfold Ho;rw [LM,lG hl];simp only [posP,hl,if_true,VB,List.drop_succ_cons];split<;>simp
theorem uP{rs:List Rt}(f:Rt->Bool)(h:eY rs):eY (rs.filter f):=aam _ h
theorem oZ:∀(ps:List (Int×Int)) (rs:List Rt),eY rs->ku rs ps=rs.filter fun r=>decide (¬r.p∈ps)
 | [],rs,_=>by
  simp only [ku,List.foldl_nil,List.not_mem_nil,not_false_eq_true,decide_true];exact(List.filter_eq_self.2 fun _ _=>rfl).symm
 |p::ps,rs,h=>by
  show ku (Ho rs p) ps=_;rw [EF rs p h,oZ ps _ (uP _ h),List.filter_filter];congr 1
  funext r
  rw [MJ];simp;exact And.comm
theorem yC{rs:List Rt}{ps:List (Int×Int)}(h:eY rs):eY (ku rs ps):=by rw [oZ ps rs h];exact uP _ h
theorem J6{rs:List Rt}{ps:List (Int×Int)}(h:eY rs):(ku rs ps).length<=rs.length:=by rw [oZ ps rs h];exact List.length_filter_le _ _
def Dt(a set:List Rt)(gone:List (Int×Int)):List Rt:=oO (ku a gone) set
def Lc(a set:List Rt)(gone:List (Int×Int)):Int:=if gB a=0 then gB (Dt a set gone)else gB a
def La(a set:List Rt)(gone:List (Int×Int)):List Rt:=if gB a=0 then(if gB (Dt a set gone)=0 then Dt a set gone else [])else []
end Pl
def Pl.hp(hs:List Pl.RH):List (Int×Int):=hs.map Pl.RH.p
theorem Pl.Yc(a:List Pl.RH)(i:Nat)(h:i<a.length):Pl.pr (Pl.hp a) i=(Pl.rh a i).p:=by
 unfold Pl.hp;rw [jI _ _ (by simpa using h),ru a i h];simp
theorem Pl.sK(a:List Pl.RH):(Pl.hp a).length=a.length:=by simp [Pl.hp]
theorem Zz(d:List Pl.RH)(p1 p2:Int)(b off len cap m j i:Nat)(w:qh)(hl:d.length=len)(_hc:len<=cap)(_hm:cap<=Eb)(f:b<w.heap.size)(n:m<w.heap.size)(q:j<w.heap.size)
  (a:lX w b off d)(v:w.cell? ⟨m,0,none⟩=some (.slice (some ⟨b,off,none⟩) len cap))(u:w.cell? ⟨j,0,none⟩=some (.int .i64 p1))(t:w.cell? ⟨j,1,none⟩=some (.int .i64 p2))(C:i<len):
  BG qL 109 #[.int .i64 i,.pointer (some ⟨m,0,none⟩),.pointer (some ⟨j,0,none⟩)] w fun e w'=>e= .returned (.bool (!dw (Pl.pr (Pl.hp d) i) (p1,p2)))/\xk w.heap.size w w':=by
 unfold Eb at _hm;obtain⟨c0,c1,_,_,_⟩:=a i (by omega);rw [Yc d i (by omega)];obtain⟨x,A⟩:=ai ((Pl.rh d i).p);rw [A.out]at c0 c1⊢;obtain⟨h,g⟩:=x;simp only at c0 c1;have s:(i:Int)<(len:Int):=by omega
 obtain⟨o,r⟩:=ai (Dq (h,g) (p1,p2));have z:BD ((!dw (h,g) (p1,p2))=decide (0<=o)):=ae (by rw [<-r.out,KZ]);have y:BD (∀W,BG qL 100 #[.agg #[.int .i64 h,.int .i64 g],.agg #[.int .i64 p1,.int .i64 p2]] W fun e w'=>e= .returned (.int .i64 o)/\xk W.heap.size W w'):=by
  refine ae fun W=> ?_;have:=iM (h,g) (p1,p2) W;rwa [r.out]at this
 rw [z.out];clear a;go_enter Tryz.func109,Tryz.ntmps109;go_wp2_with fail;have i0:=aC n v;have i1:=aC q u;have i2:=aC q t;have i3:=aC f c0;have i4:=aC f c1;have k:=dO w;refine aN (by kernel_rfl) (by kernel_rfl) ?_;repeat (go_big_quiet_step ((go_at_call 100;exact dP (y.out _))))
 refine aad ?_;intro B c;have l:=eU c;clear c i0 i1 i2 i3 i4 k;go_wp2_with fail;go_ret;exact⟨rfl,l⟩
theorem PI(d:List Pl.RH)(p1 p2:Int)(a:Option Addr)(len cap r f:Nat)(w:qh)(hl:d.length=len)(hc:len<=cap)(hm:cap<=Eb)(v:r<w.heap.size)(C:f<w.heap.size)
  (c:d= []\/∃b off,a=some ⟨b,off,none⟩/\b<w.heap.size/\lX w b off d)(q:w.cell? ⟨r,0,none⟩=some (.slice a len cap))(o:w.cell? ⟨f,0,none⟩=some (.int .i64 p1))(n:w.cell? ⟨f,1,none⟩=some (.int .i64 p2))(has:xN (Pl.hp d))(B:len<=2000000):
  BG qL 94 #[.int .i64 len,.func (.func 109) #[] #[.pointer (some ⟨r,0,none⟩),.pointer (some ⟨f,0,none⟩)]] w fun e w'=>e= .returned (.int .i64 (Pl.posP (Pl.hp d) (p1,p2)))/\xk w.heap.size w w':=by
 have P:=ae hm;unfold Eb at hm;have O:=ae c;have H1:=ae q;have S:=ae o;have R:=ae n;have G:=ae has;have s:BD ((Pl.hp d).length=len):=ae (by rw [sK,hl]);clear c q o n has;go_enter Tryz.func94,Tryz.ntmps94;go_wp2;go_loopw [5,6] (fun i j wr=>∃x y:Nat,x<=y/\y<=len/\i= .int .i64 x/\j= .int .i64 y/\BD (xk w.heap.size w wr)/\BD (∀t,t<x->dw (Pl.pr (Pl.hp d) t) (p1,p2)=true)/\BD (∀t,y<=t->t<len->dw (Pl.pr (Pl.hp d) t) (p1,p2)=false)) (fun i j _=>(GX j).toNat-(GX i).toNat)
 case atStart=>exact⟨0,len,Rw _,oC _,rfl,rfl,oP _ _,fun t h=>by omega,fun t h N=>by omega⟩
 case round=>
  obtain⟨x,y,J,T,rfl,rfl,g,E,D⟩:=hrel;by_cases M:x<y
  ·obtain⟨b,off,rfl,u,c⟩:∃b off,a=some ⟨b,off,none⟩/\b<w.heap.size/\lX w b off d:=by
    rcases O.out with h|h
    ·rw [h]at hl;simp at hl;omega
    ·exact h
   have I:=g.out.size;have A:lX wr b off d:=c.below u g.out;have q:=(g.out.cell (p:=⟨r,0,none⟩) v).trans H1.out;have o:=(g.out.cell (p:=⟨f,0,none⟩) C).trans S.out;have n:=(g.out.cell (p:=⟨f,1,none⟩) C).trans R.out;have Q:=ae fun m=>Zz d p1 p2 b off len cap r f m wr hl hc P.out (by omega) (by omega) (by omega) A q o n;clear A q o n c;go_wp2_with fail;obtain⟨m,k,K,L⟩:∃m:Nat,((x:Int)+(y:Int))/2=(m:Int)/\x<=m/\m<y:=⟨(x+y)/2,by omega,by omega,by omega⟩
   rw [k];clear k;refine(Q.out m (by omega)).mono ?_;rintro e w' ⟨rfl,l⟩;have F:=ae (g.out.trans (l.mono I));clear l;obtain⟨H,z⟩:=ai (dw (Pl.pr (Pl.hp d) m) (p1,p2));rw [z.out]
   cases H
   ·go_wp2;go_roundw
    case rel=>exact⟨x,m,by omega,by omega,rfl,rfl,F,E,fun t h N=>abR G.out (by rw [s.out];omega) h z.out⟩
    case measure=>simp [GX];omega
   ·go_wp2;go_roundw
    case rel=>exact⟨m+1,y,by omega,by omega,by go_num,rfl,F,fun t h=>UF G.out (by rw [s.out];omega) (by omega) z.out,D⟩
    case measure=>simp [GX];omega
  ·obtain rfl:x=y:=by omega
   go_wp2;go_ret;exact⟨aF (by rw [TV (by rw [s.out];omega) E.out (fun h=>D.out x (oC _) (by rw [s.out]at h;exact h))]),g.out⟩
theorem adw(w:qh)(v:rU)(T:OM)(o:Obj):((w.alloc (.cells #[v] T)).alloc o).cell? ⟨w.heap.size,0,none⟩=some v:=by simp
theorem Vz(w:qh)(v0 v1:rU)(T:OM)(o:Obj):((w.alloc o).alloc (.cells #[v0,v1] T)).cell? ⟨w.heap.size+1,0,none⟩=some v0/\((w.alloc o).alloc (.cells #[v0,v1] T)).cell? ⟨w.heap.size+1,1,none⟩=some v1:=by
 have h:=Zf w o;rw [<-h];simp
theorem ui(a:Option Addr)(len cap:Nat)(d:List Pl.RH)(p1 p2:Int)(w:qh)(h:jw w a len cap d)(has:xN (Pl.hp d))(k:len<=2000000):
  BG qL 67 #[.slice a len cap,.agg #[.int .i64 p1,.int .i64 p2]] w fun e w'=>e= .returned (.tuple #[.int .i64 (Pl.posP (Pl.hp d) (p1,p2)),.bool (bu (Pl.hp d) (p1,p2))])/\xk w.heap.size w w':=by
 obtain⟨hl,hc,hm,_,g⟩:=h;have F:∀(fn:Fn) (first cap:Array rU) (w:qh),(Instr.makeFunc fn first cap).run qL w= .ok (.func fn first cap) w:=fun _ _ _ _=>rfl;have r:BD ((Pl.hp d).length=len):=ae (by rw [sK,hl]);have t:BD (xk w.heap.size w ((w.alloc (.cells #[.slice a len cap] 30)).alloc (.cells #[.int .i64 p1,.int .i64 p2] 49))):=((oP _ _).alloc (oC _) _).alloc (by simp) _;have A:BD (BG qL 94 #[.int .i64 len,.func (.func 109) #[] #[.pointer (some ⟨w.heap.size,0,none⟩),.pointer (some ⟨w.heap.size+1,0,none⟩)]] ((w.alloc (.cells #[.slice a len cap] 30)).alloc (.cells #[.int .i64 p1,.int .i64 p2] 49)) fun e w'=>e= .returned (.int .i64 (Pl.posP (Pl.hp d) (p1,p2)))/\xk (w.heap.size+2) ((w.alloc (.cells #[.slice a len cap] 30)).alloc (.cells #[.int .i64 p1,.int .i64 p2] 49)) w'):=by
  refine ae ?_;have:=PI d p1 p2 a len cap w.heap.size (w.heap.size+1) ((w.alloc (.cells #[.slice a len cap] 30)).alloc (.cells #[.int .i64 p1,.int .i64 p2] 49)) hl hc hm (by simp;omega) (by simp) ?_ (adw _ _ _ _) (Vz _ _ _ _ _).1 (Vz _ _ _ _ _).2 has k
  ·simpa using this
  ·rcases g with h|⟨b,off,rfl,o,n⟩
   ·exact .inl h
   ·exact .inr ⟨b,off,rfl,by simp;omega,n.below o t.out⟩
 have hp:=Ba (Pl.hp d) (p1,p2);rw [r.out]at hp;unfold Eb at hm;rcases Pe (Pl.posP (Pl.hp d) (p1,p2)) len with q|G
 ·obtain⟨b,off,rfl,o,n⟩:∃b off,a=some ⟨b,off,none⟩/\b<w.heap.size/\lX w b off d:=by
   rcases g with h|h
   ·rw [h]at hl;simp at hl;omega
   ·exact h
  obtain⟨c0,c1,_,_,_⟩:=n (Pl.posP (Pl.hp d) (p1,p2)) (by omega);obtain⟨x,B⟩:=ai ((Pl.rh d (Pl.posP (Pl.hp d) (p1,p2))).p);rw [B.out]at c0 c1;have m:BD (bu (Pl.hp d) (p1,p2)=decide (x=(p1,p2))):=by
   refine ae ?_;unfold bu;rw [r.out,zx q,Yc d _ (by omega),B.out];rfl
  obtain⟨E,D⟩:=x;simp only at c0 c1;obtain⟨u,i⟩:=ai (bu (Pl.hp d) (p1,p2));rw [i.out]at m⊢;generalize Pl.posP (Pl.hp d) (p1,p2)=p at*;clear g n;have v:(p:Int)<(len:Int):=by omega
  obtain⟨z,g1⟩:∃c,(E==p1)=c:=⟨_,rfl⟩
  obtain⟨y,g2⟩:∃c,(D==p2)=c:=⟨_,rfl⟩
  have s:BD (u=(z&&y)):=ae (by rw [m.out,<-g1,<-g2,MJ];simp)
  cases z
  all_goals cases y
  all_goals
   go_enter Tryz.func67,Tryz.ntmps67;go_wp2_with fail;refine A.out.mono ?_;rintro e j ⟨rfl,f⟩;have C:j.cell? ⟨w.heap.size,0,none⟩=some (.slice (some ⟨b,off,none⟩) len cap):=(f.cell (show w.heap.size<w.heap.size+2 by omega)).trans (adw _ _ _ _);have J:j.cell? ⟨w.heap.size+1,0,none⟩=some (.int .i64 p1):=(f.cell (show w.heap.size+1<w.heap.size+2 by omega)).trans (Vz _ _ _ _ _).1;have I:j.cell? ⟨w.heap.size+1,1,none⟩=some (.int .i64 p2):=(f.cell (show w.heap.size+1<w.heap.size+2 by omega)).trans (Vz _ _ _ _ _).2;have l:=ae (t.out.trans (f.mono (by omega)));have d0:=(l.out.cell (p:=⟨b,off+p*5,none⟩) o).trans c0;have d1:=(l.out.cell (p:=⟨b,off+p*5+1,none⟩) o).trans c1;clear c0 c1 f;go_wp2_with fail;go_quiet (fail);go_wp2;go_ret2;exact⟨by rw [s.out];rfl,aO l.out _⟩
 ·have m:BD (bu (Pl.hp d) (p1,p2)=false):=by
   refine ae ?_;unfold bu;rw [r.out,Fb (by omega)];rfl
  obtain⟨u,i⟩:=ai (bu (Pl.hp d) (p1,p2));rw [i.out]at m⊢;generalize Pl.posP (Pl.hp d) (p1,p2)=p at*;have K:decide ((p:Int)<(len:Int))=false:=by simp;omega
  have H:decide (p<len)=false:=by simp;omega
  go_enter Tryz.func67,Tryz.ntmps67;go_wp2_with fail;refine A.out.mono ?_;rintro e j ⟨rfl,f⟩;have C:j.cell? ⟨w.heap.size,0,none⟩=some (.slice a len cap):=(f.cell (show w.heap.size<w.heap.size+2 by omega)).trans (adw _ _ _ _);have l:=ae (t.out.trans (f.mono (by omega)));clear f;go_wp2_with fail;go_quiet (fail);go_wp2;go_ret2;exact⟨by rw [m.out];rfl,aO l.out _⟩
theorem Pl.Yh(addr:Int)(n:Nat)(K:Int)(h:Pl.span (n:Int)=K):Be addr n=(addr/K*K,(n:Int)):=by
 unfold Be;rw [h];have e:=Int.ediv_mul_add_emod addr K;generalize addr/K*K=x at*;generalize addr%K=y at*;simp only [Prod.mk.injEq,and_true];omega
theorem KW(addr:Int)(n:Nat)(w:qh)(h0:0<=addr)(b:addr<=255)(a:n<=8):
  BG qL 68 #[.int .i64 addr,.int .i64 n] w fun e w'=>e= .returned (.agg #[.int .i64 (Be addr n).1,.int .i64 (Be addr n).2])/\xk w.heap.size w w':=by
 obtain rfl|rfl|rfl|rfl|rfl|rfl|rfl|rfl|rfl:n=0\/n=1\/n=2\/n=3\/n=4\/n=5\/n=6\/n=7\/n=8:=by omega
 all_goals
  go_enter Tryz.func68,Tryz.ntmps68;go_wp2;rw [Yh addr _ _ rfl];exact OG (by simp [results,Tryz.results68,go_sem,FM]) rfl ⟨rfl,(oP _ _).alloc (oC _) _⟩
theorem Pl.VS{l:List Int}(h:fP l=true):l.length<=12:=by
 have key:∀i,i<l.length->(i:Int)<=Pl.nm l i:=by
  intro i;induction i with
  |zero=>
   intro c;have:=nS h 0 c;rw [uf]at this;simp at this;simpa using this.1
  |succ m e=>
   intro c;have d:=nS h (m+1) c;rw [pU]at d;simp only [Jk,ik]at d;have:=e (by omega);omega
 rcases GM l.length with h0|hp
 ·omega
 ·have a:=key (l.length-1) (by omega);have b:=nS h (l.length-1) (by omega);unfold mQ at b;simp only [Jk,ik]at b;omega
theorem Pl.rq{r:Pl.Rt}(h:dW r=true):r.aH.length<=12:=by
 unfold dW at h;simp only [Jk]at h;exact VS h.2
theorem Pl.DJ{rs:List Pl.Rt}{addr:Int}{i:Nat}(h:gB rs=0)(ha:0<=addr/\addr<=255)(a:Pl.lookN (rs.map Pl.Rt.p) addr 9=some i):jZ rs addr=0/\jY rs addr=Pl.rt rs i:=by
 unfold jZ jY;rw [h,af rfl,af ha,af rfl,af ha,a];exact⟨rfl,rfl⟩
theorem Pl.DK{rs:List Pl.Rt}{addr:Int}(h:gB rs=0)(ha:0<=addr/\addr<=255)(a:Pl.lookN (rs.map Pl.Rt.p) addr 9=none):jZ rs addr=6/\jY rs addr=Pl.Rt.none:=by
 unfold jZ jY;rw [h,af rfl,af ha,af rfl,af ha,a];exact⟨rfl,rfl⟩
theorem Pl.zS{rs:List Pl.Rt}{addr:Int}(h:gB rs=0)(ha:¬(0<=addr/\addr<=255)):jZ rs addr=2/\jY rs addr=Pl.Rt.none:=by
 unfold jZ jY;rw [h,af rfl,ag ha,af rfl,ag ha];exact⟨rfl,rfl⟩
theorem Pl.Om{rs:List Pl.Rt}{addr:Int}(h:¬gB rs=0):jZ rs addr=gB rs/\jY rs addr=Pl.Rt.none:=by
 unfold jZ jY;rw [ag h,ag h];exact⟨rfl,rfl⟩
theorem o9{w w3:qh}{cs:Array rU}{T:OM}(a:xk (w.heap.size+1) (w.alloc (.cells cs T)) w3)(o:Nat):w3.frozen? ⟨w.heap.size,o,none⟩=false:=by
 rw [a.frozen (p:=⟨w.heap.size,o,none⟩) (show w.heap.size<w.heap.size+1 by omega)];simp only [aae,ji];simp
theorem Dj(w:qh):Reads w Pl.RH.none Pl.Rt.none:=⟨rfl,rfl,rfl,fV.nil w,by decide,by decide⟩
theorem zJ(w:qh)(base:Nat):bU w base Pl.RH.none Pl.Rt.none:=⟨rfl,rfl,rfl,dI.nil _ _,by decide,by decide⟩
theorem bU.but{B:Nat}{w w':qh}{base:Nat}{h:Pl.RH}{r:Pl.Rt}(a:bU w base h r)(k:aI B w w')(b:B<base):bU w' base h r:=⟨a.1,a.2.1,a.2.2.1,a.2.2.2.1.but k (.inl b),a.2.2.2.2⟩
theorem SE(a:Option Addr)(len cap:Nat)(f:List Pl.RH)(rs:List Pl.Rt)(addr:Int)(w:qh)(h:jw w a len cap f)(R:ReadsAll w f rs):
  BG qL 38 #[.slice a len cap,.int .i64 addr] w fun e w'=>
   ∃g:Pl.RH,e= .returned (.tuple #[.agg #[.int .i64 g.p.1,.int .i64 g.p.2,.bool g.here,.int .i64 g.cost,.slice g.ha g.hl g.hc],.int .i64 (jZ rs addr)])/\bU w' w.heap.size g (jY rs addr)/\xk w.heap.size w w':=by
 have HH:=ae h;have E:=ae R;have Jh:BD (f.length=len):=ae h.1;have hc:=h.2.1;have hm:=h.2.2.1;unfold Eb at hm;clear h R;obtain⟨LC,Ji⟩:=ai (jZ rs addr);obtain⟨LR,CQ⟩:=ai (jY rs addr);rw [Ji.out,CQ.out];obtain⟨c,F⟩:=ai (gB rs);by_cases D:c=0
 ·subst D;by_cases t:0<=addr/\addr<=255
  ·obtain⟨P,O⟩:=t;have hg:=iD F.out;have av:BD (xN (Pl.hp f)):=ae (by unfold Pl.hp;rw [E.out.qA];exact hg.2.2);have V:len<=2000000:=by have:=hg.1;rw [<-E.out.1,Jh.out]at this;omega
   have Jf:BD (∀i,i<len->dW (Pl.rt rs i)=true):=ae fun i C=>hg.2.1 i (by rw [<-E.out.1,Jh.out];exact C);have aq:BD (∀i,Pl.lookN (Pl.hp f) addr 9=some i->LC=0/\LR=Pl.rt rs i):=ae fun i C=>by
    unfold Pl.hp at C;rw [E.out.qA]at C;have:=DJ F.out ⟨P,O⟩ C;rwa [Ji.out,CQ.out]at this
   have ar:BD (Pl.lookN (Pl.hp f) addr 9=none->LC=6/\LR=Pl.Rt.none):=ae fun C=>by
    unfold Pl.hp at C;rw [E.out.qA]at C;have:=DK F.out ⟨P,O⟩ C;rwa [Ji.out,CQ.out]at this
   have Ti:BD ((Pl.hp f).length=len):=ae (by rw [sK,Jh.out]);clear hg;go_enter Tryz.func38,Tryz.ntmps38;go_wp2_with fail;refine(iR _ _ _ f rs _ (HH.out.below ((oP _ _).alloc (oC _) _)) (E.out.below ((oP _ _).alloc (oC _) _))).mono ?_;rw [F.out];rintro e M ⟨rfl,j⟩;have l:BD (xk (w.heap.size+1) (w.alloc (.cells #[.int .i64 0,.int .i64 0,.bool false,.int .i64 0,.slice none 0 0] 80)) M):=ae (by simpa using j);clear j;go_wp2_with fail;go_loopw [7] (fun i wr=>∃n:Nat,n<=9/\i= .int .i64 ((n:Int)-1)/\BD (Pl.lookN (Pl.hp f) addr 9=Pl.lookN (Pl.hp f) addr n)/\BD (xk (w.heap.size+1) (w.alloc (.cells #[.int .i64 0,.int .i64 0,.bool false,.int .i64 0,.slice none 0 0] 80)) wr)) (fun i _=>(GX i+1).toNat)
   case atStart=>exact⟨9,oC _,rfl,ae rfl,l⟩
   case round=>
    obtain⟨n,hn,rfl,HN,HB⟩:=hrel;obtain⟨⟨K,J,I,H,G⟩,U,d⟩:=vJ HB.out;have L:=ae d;clear d;rcases GM n with N|N
    ·subst N;have y:=ae (ar.out (by rw [HN.out];rfl));have yf:∀o,wr.frozen? ⟨w.heap.size,o,none⟩=false:=fun o=>o9 HB.out o;go_wp2_with fail;refine OG (v:= .tuple #[.agg #[.int .i64 0,.int .i64 0,.bool false,.int .i64 0,.slice none 0 0],.int .i64 6]) (by simp [results,Tryz.results38,go_sem,K,J,I,H,G]) rfl ⟨Pl.RH.none,by rw [y.out.1];rfl,by rw [y.out.2];exact zJ _ _,?_⟩;exact(((((L.out.setCell (oC _) _).setCell (oC _) _).setCell (oC _) _).setCell (oC _) _).setCell (oC _) _)
    ·obtain⟨m,rfl⟩:∃m,n=m+1:=⟨n-1,by omega⟩
     have e1:((m+1:Nat):Int)-1=(m:Int):=by omega
     rw [e1];clear e1 N;have ak:m<=8:=by omega
     obtain⟨pp,aa⟩:=ai (Be addr m);have Qj:BD (∀W,BG qL 68 #[.int .i64 addr,.int .i64 m] W fun e w'=>e= .returned (.agg #[.int .i64 pp.1,.int .i64 pp.2])/\xk W.heap.size W w'):=ae fun W=>by
      have:=KW addr m W P O ak;rwa [aa.out]at this
     have Q:BD (Pl.lookN (Pl.hp f) addr (m+1)=if bu (Pl.hp f) pp then some (Pl.posP (Pl.hp f) pp)else Pl.lookN (Pl.hp f) addr m):=ae (by rw [<-aa.out];rfl);obtain⟨p1,p2⟩:=pp;simp only at Qj;obtain⟨tt,HT⟩:=ai (bu (Pl.hp f) (p1,p2));have HZ:=ae L.out.size;have Ed:BD (∀W,xk w.heap.size w W->BG qL 67 #[.slice a len cap,.agg #[.int .i64 p1,.int .i64 p2]] W fun e w'=>e= .returned (.tuple #[.int .i64 (Pl.posP (Pl.hp f) (p1,p2)),.bool tt])/\xk W.heap.size W w'):=ae fun W hW=>by
      have:=ui a len cap f p1 p2 W (HH.out.below hW) av.out V;rwa [HT.out]at this
     have iO:BD (tt=true->Pl.posP (Pl.hp f) (p1,p2)<len):=ae fun e=>by
      have:=jQ (by rw [HT.out];exact e:bu (Pl.hp f) (p1,p2)=true);rwa [Ti.out]at this
     rw [HT.out]at Q;generalize Pl.posP (Pl.hp f) (p1,p2)=q at*
     cases tt
     ·go_wp2_with fail;refine(Qj.out _).mono ?_;rintro e w2 ⟨rfl,k⟩;have z:=ae (L.out.trans (k.mono HZ.out));have u:=ae (HB.out.trans (k.mono (by omega)));clear k;go_wp2_with fail;refine(Ed.out _ z.out).mono ?_;rintro e w3 ⟨rfl,r⟩;have x:=ae (u.out.trans (r.mono (by have:=u.out.size;simpa using this)));clear r;go_wp2_with fail;go_roundw
      case rel=>exact⟨m,by omega,by go_num,ae (by rw [HN.out,Q.out];rfl),x⟩
      case measure=>simp [GX]
     ·have A:=iO.out rfl;have y:=ae (aq.out q (by rw [HN.out,Q.out];rfl));obtain⟨b,off,rfl,d,hr⟩:=HH.out.at A;have rQ:=ae (E.out.2 q (by rw [Jh.out];exact A));have Za:(Pl.rh f q).hl<=1000:=by
       have h1:=rQ.out.2.2.2.1.1;have h2:=rq (Jf.out q A);omega
      obtain⟨c0,c1,c2,c3,c4⟩:=hr q (by rw [Jh.out];exact A);have aw:(q:Int)<(len:Int):=by omega
      go_wp2_with fail;refine(Qj.out _).mono ?_;rintro e w2 ⟨rfl,k⟩;have z:=ae (L.out.trans (k.mono HZ.out));have u:=ae (HB.out.trans (k.mono (by omega)));clear k;go_wp2_with fail;refine(Ed.out _ z.out).mono ?_;rintro e w3 ⟨rfl,r⟩;have x:=ae (u.out.trans (r.mono (by have:=u.out.size;simpa using this)));have s:=ae (z.out.trans (r.mono z.out.size));clear r;have d0:=(s.out.cell (p:=⟨b,off+q*5,none⟩) d).trans c0;have d1:=(s.out.cell (p:=⟨b,off+q*5+1,none⟩) d).trans c1;have d2:=(s.out.cell (p:=⟨b,off+q*5+2,none⟩) d).trans c2;have d3:=(s.out.cell (p:=⟨b,off+q*5+3,none⟩) d).trans c3;have d4:=(s.out.cell (p:=⟨b,off+q*5+4,none⟩) d).trans c4;clear c0 c1 c2 c3 c4 K J I H G;have Qm:=ae (uh (Pl.rh f q) (Pl.rt rs q) w3 (rQ.out.below s.out) Za);generalize Pl.rh f q=hh at*;go_wp2_with fail
      refine Qm.out.mono ?_;rintro e w4 ⟨g,rfl,T,X⟩;have Y:=ae (x.out.trans (X.mono (by have:=x.out.size;simpa using this)));obtain⟨⟨K,J,I,H,G⟩,ER,Z⟩:=vJ Y.out;have HG:=ae T;have an:=ae Z;have ad:=x.out.size;simp only [Zf]at ad;have yf:∀o,w4.frozen? ⟨w.heap.size,o,none⟩=false:=fun o=>o9 Y.out o;clear T X Z;go_wp2_with fail;refine OG (v:= .tuple #[.agg #[.int .i64 g.p.1,.int .i64 g.p.2,.bool g.here,.int .i64 g.cost,.slice g.ha g.hl g.hc],.int .i64 0]) (by simp [results,Tryz.results38,go_sem,K,J,I,H,G]) rfl ⟨g,by rw [y.out.1],?_,?_⟩
      ·rw [y.out.2];exact(bU.but HG.out (B:=w.heap.size) ((((((aI.refl _ _).setCell _ _).setCell _ _).setCell _ _).setCell _ _).setCell _ _) (by omega)).mono (by omega)
      ·exact(((((an.out.setCell (oC _) _).setCell (oC _) _).setCell (oC _) _).setCell (oC _) _).setCell (oC _) _)
  ·have y:BD (LC=2/\LR=Pl.Rt.none):=ae (by have:=zS F.out t;rwa [Ji.out,CQ.out]at this);have S:addr<0\/(0<=addr/\255<addr):=by omega
   clear t;rcases S with t|⟨ay,t⟩
   all_goals
    go_enter Tryz.func38,Tryz.ntmps38;go_wp2_with fail;refine(iR _ _ _ f rs _ (HH.out.below ((oP _ _).alloc (oC _) _)) (E.out.below ((oP _ _).alloc (oC _) _))).mono ?_;rw [F.out];rintro e M ⟨rfl,j⟩;have l:BD (xk (w.heap.size+1) (w.alloc (.cells #[.int .i64 0,.int .i64 0,.bool false,.int .i64 0,.slice none 0 0] 80)) M):=ae (by simpa using j);clear j;obtain⟨⟨K,J,I,H,G⟩,U,d⟩:=vJ l.out;have L:=ae d;clear d;have yf:∀o,M.frozen? ⟨w.heap.size,o,none⟩=false:=fun o=>o9 l.out o;go_wp2_with fail;refine OG (v:= .tuple #[.agg #[.int .i64 0,.int .i64 0,.bool false,.int .i64 0,.slice none 0 0],.int .i64 2]) (by simp [results,Tryz.results38,go_sem,K,J,I,H,G]) rfl ⟨Pl.RH.none,by rw [y.out.1];rfl,by rw [y.out.2];exact zJ _ _,?_⟩
    exact(((((L.out.setCell (oC _) _).setCell (oC _) _).setCell (oC _) _).setCell (oC _) _).setCell (oC _) _)
 ·have y:BD (LC=c/\LR=Pl.Rt.none):=ae (by have:=Om (addr:=addr) (by rw [F.out];exact D:¬gB rs=0);rwa [Ji.out,CQ.out,F.out]at this);have aD:(c != 0)=true:=by simpa using D
  clear D;go_enter Tryz.func38,Tryz.ntmps38;go_wp2_with fail;refine(iR _ _ _ f rs _ (HH.out.below ((oP _ _).alloc (oC _) _)) (E.out.below ((oP _ _).alloc (oC _) _))).mono ?_;rw [F.out];rintro e M ⟨rfl,j⟩;have l:BD (xk (w.heap.size+1) (w.alloc (.cells #[.int .i64 0,.int .i64 0,.bool false,.int .i64 0,.slice none 0 0] 80)) M):=ae (by simpa using j);clear j;obtain⟨⟨K,J,I,H,G⟩,U,d⟩:=vJ l.out;have L:=ae d;clear d;have yf:∀o,M.frozen? ⟨w.heap.size,o,none⟩=false:=fun o=>o9 l.out o;go_wp2_with fail;refine OG (v:= .tuple #[.agg #[.int .i64 0,.int .i64 0,.bool false,.int .i64 0,.slice none 0 0],.int .i64 c]) (by simp [results,Tryz.results38,go_sem,K,J,I,H,G]) rfl ⟨Pl.RH.none,by rw [y.out.1];rfl,by rw [y.out.2];exact zJ _ _,?_⟩
  exact(((((L.out.setCell (oC _) _).setCell (oC _) _).setCell (oC _) _).setCell (oC _) _).setCell (oC _) _)
theorem ZG{w:qh}{b:Nat}{c0 c1 c2 c a:rU}{T:OM}(h:w.heap[b]? =some (.cells #[c0,c1,c2,c,a] T)):
  (w.cell? ⟨b,0,none⟩=some c0/\w.cell? ⟨b,1,none⟩=some c1/\w.cell? ⟨b,2,none⟩=some c2/\w.cell? ⟨b,3,none⟩=some c/\w.cell? ⟨b,4,none⟩=some a)/\(∀o,w.frozen? ⟨b,o,none⟩=false)/\b<w.heap.size:=by
 refine⟨⟨?_,?_,?_,?_,?_⟩,fun o=> ?_,aG h⟩;iterate 5 simp [UX,h]
 simp [aae,h]
def FT(w:qh)(X:Nat)(d0 d1 d2 d3 d4:rU):qh:=((((w.setCell ⟨X,0,none⟩ d0).setCell ⟨X,1,none⟩ d1).setCell ⟨X,2,none⟩ d2).setCell ⟨X,3,none⟩ d3).setCell ⟨X,4,none⟩ d4
theorem NF{w:qh}{X:Nat}{c0 c1 c2 b a:rU}{T:OM}(h:w.heap[X]? =some (.cells #[c0,c1,c2,b,a] T))(d0 d1 d2 d3 d4:rU):(FT w X d0 d1 d2 d3 d4).heap[X]? =some (.cells #[d0,d1,d2,d3,d4] T):=by
 have:=aG h;simp [FT,OI,UQ,h]
theorem JC{a w:qh}{X:Nat}(h:aI X a w)(d0 d1 d2 d3 d4:rU):aI X a (FT w X d0 d1 d2 d3 d4):=((((h.setCell _ _).setCell _ _).setCell _ _).setCell _ _).setCell _ _
theorem ND{a w:qh}{X B:Nat}(h:xk B a w)(b:B<=X)(d0 d1 d2 d3 d4:rU):xk B a (FT w X d0 d1 d2 d3 d4):=((((h.setCell b _).setCell b _).setCell b _).setCell b _).setCell b _
def gA(g:Pl.RH):rU:= .agg #[.int .i64 g.p.1,.int .i64 g.p.2,.bool g.here,.int .i64 g.cost,.slice g.ha g.hl g.hc]
def WV(base:Nat)(R:Pl.Rt)(c:Int)(VL:List rU)(j:Nat)(u:rU)(W:qh):Prop:=
 if j=0 then(∃X c0 c1 c2 c3 c4,u= .pointer (some ⟨X,0,none⟩)/\base<=X/\W.heap[X]? =some (.cells #[c0,c1,c2,c3,c4] 80))
 else if j=12\/j=22 then(∃g,u= .tuple #[gA g,.int .i64 c]/\bU W base g R)
 else if j=23 then(∃g,u=gA g/\bU W base g R)
 else u=VL.getD j xh
theorem WV.eq{base R c a j u W}(h:WV base R c a j u W)(h0:j≠0)(e:j≠12)(d:j≠22)(b:j≠23):u=a.getD j xh:=by
 unfold WV at h;rwa [ag h0,ag (by omega),ag b]at h
theorem WV.of{base R c a j u W}(h0:j≠0)(e:j≠12)(d:j≠22)(b:j≠23)(h:u=a.getD j xh):WV base R c a j u W:=by
 unfold WV;rwa [ag h0,ag (by omega),ag b]
theorem WV.YP{base R c b j u W}(a:j=12\/j=22)(h:WV base R c b j u W):∃g,u= .tuple #[gA g,.int .i64 c]/\bU W base g R:=by
 unfold WV at h;rwa [ag (by omega),af a]at h
theorem WV.two{base R c b j u W}(a:j=12\/j=22)(h:∃g,u= .tuple #[gA g,.int .i64 c]/\bU W base g R):WV base R c b j u W:=by
 unfold WV;rwa [ag (by omega),af a]
theorem WV.adG{base R c a u W}(h:WV base R c a 23 u W):∃g,u=gA g/\bU W base g R:=by
 unfold WV at h;rwa [ag (by omega),ag (by omega),af rfl]at h
theorem WV.look{base R c a u W}(h:∃g,u=gA g/\bU W base g R):WV base R c a 23 u W:=by
 unfold WV;rwa [ag (by omega),ag (by omega),af rfl]
theorem WV.afB{base R c d u W}(h:WV base R c d 0 u W):∃X c0 c1 c2 b a,u= .pointer (some ⟨X,0,none⟩)/\base<=X/\W.heap[X]? =some (.cells #[c0,c1,c2,b,a] 80):=by
 unfold WV at h;rwa [af rfl]at h
theorem WV.box{base R c d u W}(h:∃X c0 c1 c2 b a,u= .pointer (some ⟨X,0,none⟩)/\base<=X/\W.heap[X]? =some (.cells #[c0,c1,c2,b,a] 80)):WV base R c d 0 u W:=by
 unfold WV;rwa [af rfl]
theorem WV.grow{base R c l}{W k:qh}(d:xk W.heap.size W k):∀q u,WV base R c l q u W->WV base R c l q u k:=by
 intro q u h;unfold WV at h⊢;split
 ·rename_i e;rw [af e]at h;obtain⟨X,c0,c1,c2,n,m,b,a,j⟩:=h;exact⟨X,c0,c1,c2,n,m,b,a,(d.block _ (aG j)).trans j⟩
 ·rename_i e;rw [ag e]at h;split
  ·rename_i i;rw [af i]at h;obtain⟨g,b,a⟩:=h;exact⟨g,b,a.below d⟩
  ·rename_i i;rw [ag i]at h;split
   ·rename_i f;rw [af f]at h;obtain⟨g,b,a⟩:=h;exact⟨g,b,a.below d⟩
   ·rename_i f;rwa [ag f]at h
theorem bU.apart{X:Nat}{w w':qh}{base:Nat}{h:Pl.RH}{r:Pl.Rt}(a:bU w base h r)(k:aI X w w'){cs:Array rU}(b:w.heap[X]? =some (.cells cs 80)):bU w' base h r:=
 ⟨a.1,a.2.1,a.2.2.1,kF a.2.2.2.1 k (by intro cur m e;rw [b]at e;simp at e),a.2.2.2.2⟩
theorem WV.stored{base R c m}{W:qh}{X:Nat}{c0 c1 c2 o n d0 d1 d2 d3 d4:rU}(d:W.heap[X]? =some (.cells #[c0,c1,c2,o,n] 80)):∀q u,WV base R c m q u W->WV base R c m q u (FT W X d0 d1 d2 d3 d4):=by
 have f:aI X W (FT W X d0 d1 d2 d3 d4):=JC (aI.refl X W) _ _ _ _ _;intro q u h;unfold WV at h⊢;split
 ·rename_i e;rw [af e]at h;obtain⟨Y,b0,b1,p,b3,b4,b,a,l⟩:=h;by_cases k:Y=X
  ·subst k;exact⟨Y,d0,d1,d2,d3,d4,b,a,NF d _ _ _ _ _⟩
  ·exact⟨Y,b0,b1,p,b3,b4,b,a,(f.block _ (aG l) k).trans l⟩
 ·rename_i e;rw [ag e]at h;split
  ·rename_i j;rw [af j]at h;obtain⟨g,b,a⟩:=h;exact⟨g,b,a.apart f d⟩
  ·rename_i j;rw [ag j]at h;split
   ·rename_i i;rw [af i]at h;obtain⟨g,b,a⟩:=h;exact⟨g,b,a.apart f d⟩
   ·rename_i i;rwa [ag i]at h
def aks(base:Nat)(R:Pl.Rt)(listed:Array Bool)(a:WZ)(W:qh):Prop:=listed.getD 14 false=true->∃X g,a.tmps[8]?.getD xh= .pointer (some ⟨X,0,none⟩)/\base<=X/\W.heap[X]? =some (.cells #[.int .i64 g.p.1,.int .i64 g.p.2,.bool g.here,.int .i64 g.cost,.slice g.ha g.hl g.hc] 80)/\bU W base g R
def Jc(a0:WZ)(w0:qh)(R:Pl.Rt)(c:Int)(VL:List rU)(listed:Array Bool)(a:WZ)(W:qh):Prop:=
 kC a0 8 25 16 (fun k=>([some 13,some 14,some 15,some 16,some 17,some 18,some 19,some 20,some 21,some 22,some 12,some 23,some 24,some 0,none,some 1]:List (Option Nat)).getD k none) (WV w0.heap.size R c VL) (fun W=>xk w0.heap.size w0 W) listed a W/\aks w0.heap.size R listed a W/\∀j,2<=j->j<12->a.tmps[8+j]?.getD xh=a0.tmps[8+j]?.getD xh
theorem Jc.put{a0:WZ}{b:qh}{R:Pl.Rt}{c:Int}{k:List rU}{listed:Array Bool}{a:WZ}{W e:qh}{i j:Nat}{v:rU}(h:Jc a0 b R c k listed a W)
  (o:([some 13,some 14,some 15,some 16,some 17,some 18,some 19,some 20,some 21,some 22,some 12,some 23,some 24,some 0,none,some 1]:List (Option Nat)).getD i none=some j)(r:j<25)(s:i≠14)(p:j≠0/\(j<2\/12<=j))(f:xk W.heap.size W e)(n:WV b.heap.size R c k j v e)(hc:xk b.heap.size b e):Jc a0 b R c k (listed.setIfInBounds i true) (a.put (some (8+j)) v) e:=by
 have d:∀q,2<=q->q<12->(a.put (some (8+j)) v).tmps[8+q]?.getD xh=a0.tmps[8+q]?.getD xh:=fun q m l=>by
  show(a.tmps.setIfInBounds (8+j) v)[8+q]?.getD xh=_;rw [Jj (by omega)];exact h.2.2 q m l
 refine⟨h.1.put o r (WV.grow f) n hc,fun hl=> ?_,d⟩;rw [Qe false s]at hl;obtain⟨X,g,w,u,d,t⟩:=h.2.1 hl;refine⟨X,g,?_,u,(f.block _ (aG d)).trans d,t.below f⟩;show(a.tmps.setIfInBounds (8+j) v)[8]?.getD xh=_;rw [Jj (by omega)];exact w
theorem Jc.box{a0:WZ}{b:qh}{R:Pl.Rt}{c:Int}{d:List rU}{listed:Array Bool}{a:WZ}{v:rU}{W e:qh}(h:Jc a0 b R c d listed a W)(l:listed.getD 14 false=false)
  (i:kC a0 8 25 16 (fun k=>([some 13,some 14,some 15,some 16,some 17,some 18,some 19,some 20,some 21,some 22,some 12,some 23,some 24,some 0,none,some 1]:List (Option Nat)).getD k none) (WV b.heap.size R c d) (fun W=>xk b.heap.size b W) (listed.setIfInBounds 13 true) (a.put (some (8+0)) v) e):Jc a0 b R c d (listed.setIfInBounds 13 true) (a.put (some (8+0)) v) e:=
 by
 have j:∀q,2<=q->q<12->(a.put (some (8+0)) v).tmps[8+q]?.getD xh=a0.tmps[8+q]?.getD xh:=fun q g f=>by
  show(a.tmps.setIfInBounds (8+0) v)[8+q]?.getD xh=_;rw [Jj (by omega)];exact h.2.2 q g f
 refine⟨i,fun hl=> ?_,j⟩;rw [Qe false (by decide),l]at hl
 cases hl
theorem Jc.store{a0:WZ}{b:qh}{R:Pl.Rt}{c:Int}{f:List rU}{listed:Array Bool}{a:WZ}{W:qh}{X:Nat}{c0 c1 c2 m l:rU}{g:Pl.RH}(h:Jc a0 b R c f listed a W)(e:b.heap.size<=X)
  (d:W.heap[X]? =some (.cells #[c0,c1,c2,m,l] 80))(k:a.tmps[8]?.getD xh= .pointer (some ⟨X,0,none⟩))(j:bU W b.heap.size g R)(i:([some 13,some 14,some 15,some 16,some 17,some 18,some 19,some 20,some 21,some 22,some 12,some 23,some 24,some 0,none,some 1]:List (Option Nat)).getD 14 none=none):
  Jc a0 b R c f (listed.setIfInBounds 14 true) a (FT W X (.int .i64 g.p.1) (.int .i64 g.p.2) (.bool g.here) (.int .i64 g.cost) (.slice g.ha g.hl g.hc)):=
 ⟨h.1.skip i (WV.stored d) (ND h.1.cw e _ _ _ _ _),fun _=>⟨X,g,k,e,NF d _ _ _ _ _,j.apart (JC (aI.refl X W) _ _ _ _ _) d⟩,h.2.2⟩
theorem Yv{Q:Exit->WZ->qh->Prop}{a0:WZ}{l:qh}{B xb a q r:Nat}{n:Int}{s:Option Addr}{z:List Pl.RH}{rs:List Pl.Rt}
  (y:a0.tmps.size=75)(q0:a0.tmps[0]?.getD xh= .pointer (some ⟨B,0,none⟩))(q3:a0.tmps[3]?.getD xh= .pointer (some ⟨xb,0,none⟩))(q5:a0.tmps[5]?.getD xh= .int .i64 a)
  (hB:B<l.heap.size)(hx:xb<l.heap.size)(X3:l.cell? ⟨xb,3,none⟩=some (.int .i64 n))(TN:l.cell? ⟨B,a*4+3,none⟩=some (.slice s q r))(ha:(a:Int)<12)(HR:jw l s q r z)(HD:ReadsAll l z rs)
  (hQ:∀xs W X g,xs.length=25->(∀j,2<=j->j<12->xs.getD j xh=a0.tmps[8+j]?.getD xh)->xs.getD 0 xh= .pointer (some ⟨X,0,none⟩)->xs.getD 1 xh= .int .i64 (jZ rs n)->l.heap.size<=X->W.heap[X]? =some (.cells #[.int .i64 g.p.1,.int .i64 g.p.2,.bool g.here,.int .i64 g.cost,.slice g.ha g.hl g.hc] 80)->bU W l.heap.size g (jY rs n)->xk l.heap.size l W->Q .normal {a0 with tmps:=setFrom a0.tmps 8 xs} W):
  ∀ops,dX aaq 5=some ops->(aao 5 ops true).wp qL Q a0 l:=by
 intro ops aH;have eo:=aar (aH.symm.trans (rfl:dX aaq 5=some _));subst eo;clear aH;have d:8+25<=a0.tmps.size:=by omega
 refine wp_region_any (by kernel_rfl) ?_;refine cO (Jc a0 l (jY rs n) (jZ rs n) [xh,(.int .i64 (jZ rs n):rU),xh,xh,xh,xh,xh,xh,xh,xh,xh,xh,xh,(.pointer (some ⟨B,0,none⟩):rU),(.int .i64 a:rU),(.pointer (some ⟨B,0,none⟩):rU),(.pointer (some ⟨B,0,none⟩):rU),(.pointer (some ⟨B,a*4,none⟩):rU),(.pointer (some ⟨B,a*4+3,none⟩):rU),(.slice s q r:rU),(.pointer (some ⟨xb,3,none⟩):rU),(.int .i64 n:rU),xh,xh,(.int .i64 (jZ rs n):rU)]) ?_ ?_ _ _ _ _ (by decide+kernel) ?_ (bn _ _ _)
 ·rintro i listed f W P jS b;rw [mem_ready]at P;obtain⟨u,o,A,c⟩:=P;have sN:i<16:=(Array.getElem?_eq_some_iff.1 A).1;have o0:=(b.1.out (k:=0) (by omega)).trans q0;have o3:=(b.1.out (k:=3) (by omega)).trans q3;have o5:=(b.1.out (k:=5) (by omega)).trans q5;have Z:=(b.1.cw.cell (p:=⟨xb,3,none⟩) hx).trans X3;have tn:=(b.1.cw.cell (p:=⟨B,a*4+3,none⟩) hB).trans TN;have E:i=0\/i=1\/i=2\/i=3\/i=4\/i=5\/i=6\/i=7\/i=8\/i=9\/i=10\/i=11\/i=12\/i=13\/i=14\/i=15:=by omega
  rcases E with rfl|rfl|rfl|rfl|rfl|rfl|rfl|rfl|rfl|rfl|rfl|rfl|rfl|rfl|rfl|rfl
  all_goals
   simp at A;subst A;refine au rfl rfl ?_
  ·simp [xx,go_sem,o0];exact b.put (i:=0) (j:=13) rfl (by omega) (by decide) (by decide) (oP _ _) (WV.of (by decide) (by decide) (by decide) (by decide) rfl) b.1.cw
  ·simp [xx,go_sem,o5];exact b.put (i:=1) (j:=14) rfl (by omega) (by decide) (by decide) (oP _ _) (WV.of (by decide) (by decide) (by decide) (by decide) rfl) b.1.cw
  ·have O:f.tmps[21]?.getD xh= .pointer (some ⟨B,0,none⟩):=WV.eq (b.1.at (k:=0) (j:=13) d rfl (by omega) (c ⟨0,.data⟩ (by simp) rfl)) (by decide) (by decide) (by decide) (by decide);simp [xx,go_sem,O];exact b.put (i:=2) (j:=15) rfl (by omega) (by decide) (by decide) (oP _ _) (WV.of (by decide) (by decide) (by decide) (by decide) rfl) b.1.cw
  ·have M:f.tmps[23]?.getD xh= .pointer (some ⟨B,0,none⟩):=WV.eq (b.1.at (k:=2) (j:=15) d rfl (by omega) (c ⟨2,.data⟩ (by simp) rfl)) (by decide) (by decide) (by decide) (by decide);simp [xx,go_sem,M];exact b.put (i:=3) (j:=16) rfl (by omega) (by decide) (by decide) (oP _ _) (WV.of (by decide) (by decide) (by decide) (by decide) rfl) b.1.cw
  ·have L:f.tmps[24]?.getD xh= .pointer (some ⟨B,0,none⟩):=WV.eq (b.1.at (k:=3) (j:=16) d rfl (by omega) (c ⟨3,.data⟩ (by simp) rfl)) (by decide) (by decide) (by decide) (by decide);have N:f.tmps[22]?.getD xh= .int .i64 a:=WV.eq (b.1.at (k:=1) (j:=14) d rfl (by omega) (c ⟨1,.data⟩ (by simp) rfl)) (by decide) (by decide) (by decide) (by decide);simp [xx,go_sem,L,N,ha];exact b.put (i:=4) (j:=17) rfl (by omega) (by decide) (by decide) (oP _ _) (WV.of (by decide) (by decide) (by decide) (by decide) rfl) b.1.cw
  ·have K:f.tmps[25]?.getD xh= .pointer (some ⟨B,a*4,none⟩):=WV.eq (b.1.at (k:=4) (j:=17) d rfl (by omega) (c ⟨4,.data⟩ (by simp) rfl)) (by decide) (by decide) (by decide) (by decide);simp [xx,go_sem,K];exact b.put (i:=5) (j:=18) rfl (by omega) (by decide) (by decide) (oP _ _) (WV.of (by decide) (by decide) (by decide) (by decide) rfl) b.1.cw
  ·have J:f.tmps[26]?.getD xh= .pointer (some ⟨B,a*4+3,none⟩):=WV.eq (b.1.at (k:=5) (j:=18) d rfl (by omega) (c ⟨5,.data⟩ (by simp) rfl)) (by decide) (by decide) (by decide) (by decide);simp [xx,go_sem,J,tn];exact b.put (i:=6) (j:=19) rfl (by omega) (by decide) (by decide) (oP _ _) (WV.of (by decide) (by decide) (by decide) (by decide) rfl) b.1.cw
  ·simp [xx,go_sem,o3];exact b.put (i:=7) (j:=20) rfl (by omega) (by decide) (by decide) (oP _ _) (WV.of (by decide) (by decide) (by decide) (by decide) rfl) b.1.cw
  ·have H:f.tmps[28]?.getD xh= .pointer (some ⟨xb,3,none⟩):=WV.eq (b.1.at (k:=7) (j:=20) d rfl (by omega) (c ⟨7,.data⟩ (by simp) rfl)) (by decide) (by decide) (by decide) (by decide);simp [xx,go_sem,H,Z];exact b.put (i:=8) (j:=21) rfl (by omega) (by decide) (by decide) (oP _ _) (WV.of (by decide) (by decide) (by decide) (by decide) rfl) b.1.cw
  ·have I:f.tmps[27]?.getD xh= .slice s q r:=WV.eq (b.1.at (k:=6) (j:=19) d rfl (by omega) (c ⟨6,.data⟩ (by simp) rfl)) (by decide) (by decide) (by decide) (by decide);have G:f.tmps[29]?.getD xh= .int .i64 n:=WV.eq (b.1.at (k:=8) (j:=21) d rfl (by omega) (c ⟨8,.data⟩ (by simp) rfl)) (by decide) (by decide) (by decide) (by decide);simp [xx,go_sem,I,G];refine(SE s q r z rs n W (HR.below b.1.cw) (HD.below b.1.cw)).mono ?_;rintro e W' ⟨g,rfl,D,m⟩;exact b.put (i:=9) (j:=22) rfl (by omega) (by decide) (by decide) m (WV.two (.inr rfl) ⟨g,rfl,D.mono b.1.cw.size⟩) (b.1.cw.trans (m.mono b.1.cw.size))
  ·obtain⟨g,hl,hp⟩:=WV.YP (.inr rfl) (b.1.at (k:=9) (j:=22) d rfl (by omega) (c ⟨9,.data⟩ (by simp) rfl));have hl:f.tmps[30]?.getD xh=_:=hl;simp [xx,go_sem,hl];exact b.put (i:=10) (j:=12) rfl (by omega) (by decide) (by decide) (oP _ _) (WV.two (.inl rfl) ⟨g,rfl,hp⟩) b.1.cw
  ·obtain⟨g,hl,hp⟩:=WV.YP (.inl rfl) (b.1.at (k:=10) (j:=12) d rfl (by omega) (c ⟨10,.data⟩ (by simp) rfl));have hl:f.tmps[20]?.getD xh=_:=hl;simp [xx,go_sem,hl];exact b.put (i:=11) (j:=23) rfl (by omega) (by decide) (by decide) (oP _ _) (WV.look ⟨g,rfl,hp⟩) b.1.cw
  ·obtain⟨g,hl,hp⟩:=WV.YP (.inl rfl) (b.1.at (k:=10) (j:=12) d rfl (by omega) (c ⟨10,.data⟩ (by simp) rfl));have hl:f.tmps[20]?.getD xh=_:=hl;simp [xx,go_sem,hl];exact b.put (i:=12) (j:=24) rfl (by omega) (by decide) (by decide) (oP _ _) (WV.of (by decide) (by decide) (by decide) (by decide) rfl) b.1.cw
  ·simp [xx,go_sem];have m:xk W.heap.size W (W.alloc (.cells #[.int .i64 0,.int .i64 0,.bool false,.int .i64 0,.slice none 0 0] 80)):=(oP _ _).alloc (oC _) _;have G6:listed.getD 14 false=false:=by
    cases h:listed.getD 14 false with
    |false=>rfl
    |true=>
     have e:=jS 14 _ rfl h ⟨13,.data⟩ (by simp) rfl;rcases Pe 13 listed.size with g|g
     ·simp [g]at u e;rw [u]at e
      cases e
     ·simp [Array.getElem?_eq_none g]at e
   exact b.box G6 (b.1.put (i:=13) (j:=0) rfl (by omega) (WV.grow m) (WV.box ⟨W.heap.size,_,_,_,_,_,rfl,b.1.cw.size,bW _ _⟩) (b.1.cw.trans (m.mono b.1.cw.size)))
  ·obtain⟨X,c0,c1,c2,c3,c4,w,hX,t⟩:=WV.afB (b.1.at (k:=13) (j:=0) d rfl (by omega) (c ⟨13,.data⟩ (by simp) rfl));have w:f.tmps[8]?.getD xh= .pointer (some ⟨X,0,none⟩):=w;obtain⟨g,hl,hp⟩:=WV.adG (b.1.at (k:=11) (j:=23) d rfl (by omega) (c ⟨11,.data⟩ (by simp) rfl));have hl:f.tmps[31]?.getD xh=_:=hl;unfold gA at hl;obtain⟨⟨Y,V,U,T,S⟩,R,yl⟩:=ZG t;simp [xx,go_sem,w,hl,Y,V,U,T,S,R];exact b.store hX t w hp (by decide)
  ·have F:f.tmps[32]?.getD xh= .int .i64 (jZ rs n):=WV.eq (b.1.at (k:=12) (j:=24) d rfl (by omega) (c ⟨12,.data⟩ (by simp) rfl)) (by decide) (by decide) (by decide) (by decide);simp [xx,go_sem,F];exact b.put (i:=15) (j:=1) rfl (by omega) (by decide) (by decide) (oP _ _) (WV.of (by decide) (by decide) (by decide) (by decide) rfl) b.1.cw
 ·rintro listed f W hr b;have v:=dm (by decide+kernel) b.1.ls hr;obtain⟨X,g,g1,g2,g3,g4⟩:=b.2.1 (v 14 (by decide));have C:=b.2.2;obtain⟨xs,x,rfl,hf⟩:=b.1.fr;refine hQ xs W X g x (fun j j1 j2=> ?_) ?_ (WV.eq (hf 15 1 rfl (v 15 (by decide))) (by decide) (by decide) (by decide) (by decide)) g2 g3 g4 b.1.cw
  ·have e:(setFrom a0.tmps 8 xs)[8+j]?.getD xh=_:=C j j1 j2;rw [gu xs a0.tmps 8 j (by omega) (by omega)]at e;rw [<-e];simp [aac]
  have e:(setFrom a0.tmps 8 xs)[8+0]?.getD xh= .pointer (some ⟨X,0,none⟩):=g1;rw [gu xs a0.tmps 8 0 (by omega) (by omega)]at e;simpa [aac]using e
 ·exact⟨kC.start d (oP _ _).drew,fun h=>(by simp at h),fun _ _ _=>rfl⟩
namespace Pl
def u8(n:Int):UInt8:=UInt8.ofNat n.toNat
theorem rY{n:Int}(h0:0<=n)(a:n<=255):((u8 n).toNat:Int)=n:=by
 unfold u8;rw [UInt8.toNat_ofNat'];omega
def encV:Nat->Int->List UInt8
 |0,n=> [u8 n]
 |f+1,n=>if n<128 then [u8 n]else u8 (n%128+128)::encV f (n/128)
def lim:Nat->Int
 |0=>1
 |f+1=>128*lim f
theorem uS{f:Nat}{n:Int}(h:n<128):encV f n= [u8 n]:=by cases f<;>simp [encV,h]
theorem zZ{f:Nat}{n:Int}(h:¬n<128):encV (f+1) n=u8 (n%128+128)::encV f (n/128):=by simp [encV,h]
theorem xe:∀(f:Nat) (n:Int),(encV f n).length<=f+1
 |0,_=>by simp [encV]
 |f+1,n=>by
  have:=xe f (n/128);unfold encV;split<;>simp;omega
def BK(s:ByteArray):List UInt8:=u8 (s.size:Int)::s.data.toList
def I9(e:aK):List UInt8:=BK e.key++(encV 6 e.gz++([u8 e.org]++BK e.val))
def encL:List aK->List UInt8
 | []=> []
 |e::r=>I9 e++encL r
def body(es:List aK):List UInt8:= [116,u8 (es.length:Int)]++encL es
def sxy:List UInt8->Int->Int->Int×Int
 | [],x,y=>(x,y)
 |c::r,x,y=>sxy r ((x+(c.toNat:Int))%65521) ((y+(x+(c.toNat:Int))%65521)%65521)
def mi(bs:List UInt8):List UInt8:= [u8 ((sxy bs 1 0).2/256),u8 ((sxy bs 1 0).2%256),u8 ((sxy bs 1 0).1/256),u8 ((sxy bs 1 0).1%256)]
theorem C9(a:List UInt8):(mi a).length=4:=rfl
def enc(es:List aK):List UInt8:=body es++mi (body es)
theorem Dw{e:aK}(h:e.may=true):e.key.size<=8/\1<=e.key.size/\1<=e.gz/\e.gz<=1099511627776/\0<=e.org/\e.org<=11/\e.val.size<=120:=by
 unfold aK.may uQ qE at h;simp only [Jk,ik]at h;obtain⟨⟨⟨⟨d,_⟩,c⟩,b⟩,a⟩:=h;omega
theorem OX(s:ByteArray):(BK s).length=s.size+1:=by
 unfold BK;simp only [OO,Array.length_toList];rfl
theorem Hg{e:aK}(h:e.may=true):(I9 e).length<=138:=by
 have:=Dw h;have a:=xe 6 e.gz;unfold I9;simp only [X6,OX,List.length_singleton];omega
end Pl
def dH(bs:List UInt8):List rU:=bs.map fun c=>Z5 .u8 (c.toNat:Int)
theorem Ih(a:List UInt8):(dH a).length=a.length:=by simp [dH]
theorem nD(a b:List UInt8):dH (a++b)=dH a++dH b:=by simp [dH]
theorem RZ(a:List UInt8):∀u∈dH a,u.oneCell'=true:=by
 intro u hu;obtain⟨_,_,rfl⟩:=List.mem_map.1 hu;rfl
theorem RY(s:ByteArray):Lib.strCells s=dH s.data.toList:=rfl
def dF(w:qh)(a:Option Addr)(len cap:Nat)(bs:List UInt8):Prop:=
 bs.length=len/\len<=cap/\cap<=Eb/\(bs= []\/∃b off,a=some ⟨b,off,none⟩/\b<w.heap.size/\∀j u,(dH bs)[j]? =some u->w.cell? ⟨b,off+j,none⟩=some u)
theorem dF.below{w w':qh}{a:Option Addr}{len cap:Nat}{e:List UInt8}(h:dF w a len cap e)(k:xk w.heap.size w w'):dF w' a len cap e:=by
 obtain⟨m,l,i,c⟩:=h;refine⟨m,l,i,?_⟩;rcases c with c|⟨b,off,rfl,d,f⟩
 ·exact .inl c
 ·exact .inr ⟨b,off,rfl,OE d k.size,fun j u g=>(k.cell (p:=⟨b,off+j,none⟩) d).trans (f j u g)⟩
theorem xB{a:List UInt8}{k:Nat}(h:k<a.length):(dH a)[k]? =some (.int .u8 ((a.getD k 0).toNat:Int)):=by
 simp [dH,aac,h]
def gQ(w:qh)(base:Nat)(v:rU)(bs:List UInt8):Prop:=w.ownsRow base 5 1 v bs.length (dH bs)
theorem infoByte:(Tryz.prog.info? 5).map (fun i=>(i.zero,i.size,i.bytes))=some (some (.int .u8 0),1,1):=by kernel_rfl
theorem uN{w:qh}{base n:Nat}{v:rU}{xs:List rU}{a:List UInt8}(h:w.ownsRow base 5 1 v n xs)(e:xs=dH a):gQ w base v a:=by
 subst e;have b:n=a.length:=by
  have:=h.1;rw [Ih]at this;omega
 subst b;exact h
theorem gQ.below{w w':qh}{base:Nat}{v:rU}{b:List UInt8}(h:gQ w base v b)(k:xk w.heap.size w w'):gQ w' base v b:=by
 obtain⟨h0,a⟩:=h;refine⟨h0,?_⟩;rcases a with a|⟨g,cap,cur,rfl,d,hh,c⟩
 ·exact .inl a
 ·exact .inr ⟨g,cap,cur,rfl,d,(k.block g (Tf hh)).trans hh,c⟩
theorem gQ.mono{w:qh}{base a:Nat}{v:rU}{c:List UInt8}(h:gQ w base v c)(k:a<=base):gQ w a v c:=by
 obtain⟨h0,b⟩:=h;refine⟨h0,?_⟩;rcases b with b|⟨g,cap,cur,rfl,e,d⟩
 ·exact .inl b
 ·exact .inr ⟨g,cap,cur,rfl,by omega,d⟩
theorem gQ.nil(w:qh)(base:Nat):gQ w base (.slice none 0 0) []:=Xc _ _ _ _
theorem gQ.shape{w:qh}{base:Nat}{v:rU}{c:List UInt8}(h:gQ w base v c):
  ∃a cap,v= .slice a c.length cap/\dF w a c.length cap c/\(a=none->cap=0)/\(∀x,a=some x->base<=x.block):=by
 obtain⟨_,h|⟨g,cap,cur,rfl,k,hh,d,hm,l,i⟩⟩:=h
 ·obtain⟨rfl,d⟩:=h;have f:c= []:=List.length_eq_zero_iff.1 d;subst f;exact⟨none,0,rfl,⟨rfl,oC _,by simp,.inl rfl⟩,fun _=>rfl,by simp⟩
 ·refine⟨some ⟨g,0,none⟩,cap,rfl,⟨rfl,d,hm,.inr ⟨g,0,rfl,Tf hh,?_⟩⟩,by simp,by rintro x ⟨⟩;exact k⟩;intro j u b;rw [<-i]at b;have e:cur[j]? =some u:=by
   rw [Qd]at b;split at b
   ·rw [<-Uz];exact b
   ·cases b
  simp [UX,hh,e]
def lZ(base:Nat)(w w':qh):Prop:=xk base w w'/\∀(k:Nat) (cs:Array rU) (T:OM) (z:Nat×Nat),w.heap[k]? =some (Obj.cells cs T z)->¬T=5->w'.heap[k]? =some (Obj.cells cs T z)
theorem lZ.refl(base:Nat)(w:qh):lZ base w w:=⟨oP _ _,fun _ _ _ _ h _=>h⟩
theorem lZ.trans{base:Nat}{a b c:qh}(h:lZ base a b)(k:lZ base b c):lZ base a c:=
 ⟨h.1.trans k.1,fun i cs T z d hT=>k.2 i cs T z (h.2 i cs T z d hT) hT⟩
theorem lZ.tN{base:Nat}{w w':qh}(h:xk w.heap.size w w')(b:base<=w.heap.size):lZ base w w':=
 ⟨h.mono b,fun k _ _ _ a _=>(h.block k (Tf a)).trans a⟩
theorem lZ.Bi{base n:Nat}{w w':qh}{v:rU}{xs:List rU}(b:w.ownsRow base 5 1 v n xs)(c:w.grownBy w' v.ownBlock)(d:base<=w.heap.size):lZ base w w':=by
 refine⟨(oP _ _).grown c d (fun k a=>(SQ b k a).1),fun k cs T z a hT=> ?_⟩;refine(c.block k (Tf a) (fun e=> ?_)).trans a;obtain⟨_,h|⟨g,cap,cur,rfl,_,hh,_⟩⟩:=b
 ·obtain⟨rfl,_⟩:=h
  cases e
 ·simp only [Rz,PW]at e;subst e;rw [hh]at a;simp only [PW,Obj.cells.injEq]at a;exact hT a.2.1.symm
theorem uA{w:qh}{ops:Array Oper}{rest:List Oper}{o:Oper}{a:WZ}{Q:Exit->WZ->qh->Prop}(p:o.guard=none)(s x:aaj)
  (t:o.op= .call {callee:= .builtin .append,args:=#[s,x],argTypes:=#[105,105]})
  (base:Nat)(v:rU)(e:List UInt8)(n:Int)(r:a.eval s=v)(b:gQ w base v e)(d:base<=w.heap.size)(q:a.eval x= .slice (some ⟨w.heap.size,0,none⟩) 1 1)(h0:0<=n)(z:n<=255)(A:e.length+1<=140737488355328)
  (h:∀f w',gQ w' base f (e++ [Pl.u8 n])->lZ base w w'->wpList qL ops Q rest (a.put o.dst f) w'):
  wpList qL ops Q (o::rest) a (w.alloc (.cells #[.int .u8 n] 5)):=by
 obtain⟨i0,m,l,k,i⟩:=aah infoByte;refine aai (w:=_) p s x 105 t base 5 i0 _ 1 1 Ee m l k i rfl (by decide) _ e.length (dH e) r (Iy b _) ⟨w.heap.size,0,none⟩ 1 1 [.int .u8 n] q rfl ?_ ?_ (by unfold Eb;omega) (by omega) (by simp;omega) ?_
 ·intro j u g;match j,g with
  |0,g=>simp at g;subst g;simp [Addr.add]
 ·intro u hu;simp at hu;subst hu;rfl
 ·intro f w' c y _;refine h f w' (uN c ?_) ((lZ.tN ((oP _ _).alloc (oC _) _) d).trans (lZ.Bi (Iy b _) y (by simp;omega)));rw [nD];simp [dH,rY h0 z]
theorem Ae{w:qh}{ops:Array Oper}{rest:List Oper}{o:Oper}{a:WZ}{Q:Exit->WZ->qh->Prop}(l:o.guard=none)(s x:aaj)
  (p:o.op= .call {callee:= .builtin .append,args:=#[s,x],argTypes:=#[105,9]})
  (base:Nat)(v:rU)(e:List UInt8)(t:ByteArray)(n:a.eval s=v)(c:gQ w base v e)(b:base<=w.heap.size)(m:a.eval x= .string t)(r:e.length+t.size<=140737488355328)
  (h:∀f w',gQ w' base f (e++t.data.toList)->lZ base w w'->wpList qL ops Q rest (a.put o.dst f) w'):wpList qL ops Q (o::rest) a w:=by
 obtain⟨i0,k,j,i,g⟩:=aah infoByte;refine Lib.wpList_append_own_string w l s x 105 9 p base 5 i0 Ee Rq k j i g v e.length (dH e) n c t m (by unfold Eb;omega) r b ?_;intro f w' d q _;exact h f w' (uN d (by rw [nD,RY])) (lZ.Bi c q b)
theorem yH{w:qh}{ops:Array Oper}{rest:List Oper}{o:Oper}{a:WZ}{Q:Exit->WZ->qh->Prop}(n:o.guard=none)(s x:aaj)
  (D:o.op= .call {callee:= .builtin .append,args:=#[s,x],argTypes:=#[105,105]})
  (base:Nat)(v:rU)(g:List UInt8)(i:Option Addr)(m c:Nat)(q:List UInt8)(C:a.eval s=v)(d:gQ w base v g)(e:base<=w.heap.size)(B:a.eval x= .slice i m c)(G:dF w i m c q)(k:i=none->c=0)(H:g.length+m<=140737488355328)
  (h:∀p w',gQ w' base p (g++q)->lZ base w w'->wpList qL ops Q rest (a.put o.dst p) w'):wpList qL ops Q (o::rest) a w:=by
 obtain⟨i0,l,y,t,r⟩:=aah infoByte;obtain⟨hl,hc,hm,z⟩:=G;rcases i with _|i
 ·obtain rfl:=k rfl;obtain rfl:m=0:=by omega
  obtain rfl:q= []:=List.length_eq_zero_iff.1 hl;refine wpList_append_own_none n s x 105 D base 5 i0 1 Ee l v g.length (dH g) C d B (h _ _ ?_ (lZ.refl _ _));rw [List.append_nil];exact d
 ·refine aai (w:=w) n s x 105 D base 5 i0 _ 1 1 Ee l y t r rfl (by decide) v g.length (dH g) C d i m c (dH q) B (by rw [Ih,hl];omega) ?_ (RZ _) (by unfold Eb;omega) (by omega) e ?_
  ·intro j u E;rcases z with rfl|⟨b,off,A,_,z⟩
   ·simp [dH]at E
   ·cases A;have:=z j u E;unfold Addr.add;split
    ·rename_i h0;subst h0;simpa using this
    ·simpa using this
  ·intro p w' f F _;exact h p w' (uN f (by rw [nD])) (lZ.Bi d F e)
theorem jL{w:qh}{a:Option Addr}{len cap:Nat}{d:List UInt8}(h:dF w a len cap d):
  (convert 105 9 (.slice a len cap)).run qL w= .ok (.string ⟨d.toArray⟩) w:=by
 obtain⟨hl,_,_,c⟩:=h;subst hl;rcases a with _|i
 ·have e:d= []:=by
   rcases c with h|⟨b,off,h,_⟩
   ·exact h
   ·cases h
  subst e;exact Go.Lib.run_convert_nil_bytes w _ _ 5 cap Ee aab Rq
 ·refine run_convert_bytes_back w _ _ 5 i cap d Ee aab Rq ?_;intro j g;rcases c with rfl|⟨b,off,f,_,c⟩
  ·simp at g
  ·cases f;rw [bD];exact c j _ (by simp [dH,g])
namespace Pl
def num(c:Int)(r:List UInt8):Int×Int×List UInt8:=
 if c=0 then(match r with| []=>(0,5,[])|x::t=>((x.toNat:Int),0,t))else(0,c,[])
theorem Bl{c:Int}{r:List UInt8}(h:¬c=0):num c r=(0,c,[]):=by unfold num;rw [ag h]
theorem Lm:num 0 []=(0,5,[]):=rfl
theorem wP(x:UInt8)(t:List UInt8):num 0 (x::t)=((x.toNat:Int),0,t):=rfl
theorem iw(c:Int)(r:List UInt8):0<=(num c r).1/\(num c r).1<=255:=by
 by_cases h:c=0
 ·subst h
  cases r with
  |nil=>rw [Lm];simp
  |cons x t=>rw [wP];have:=x.toNat_lt;simp;omega
 ·rw [Bl h];simp
theorem Bj(c:Int)(r:List UInt8):¬(num c r).2.1=0->(num c r).2.2= []/\(num c r).1=0:=by
 by_cases h:c=0
 ·subst h
  cases r with
  |nil=>rw [Lm];simp
  |cons x t=>rw [wP];simp
 ·rw [Bl h];simp
def kE(c:Int)(r:List UInt8):ByteArray×Int×List UInt8:=
 if(num c r).2.1=0 then
  (if(num c r).1.toNat<=(num c r).2.2.length then(⟨((num c r).2.2.take (num c r).1.toNat).toArray⟩,0,(num c r).2.2.drop (num c r).1.toNat)else(⟨#[]⟩,5,[]))
 else(⟨#[]⟩,(num c r).2.1,[])
def verF:Nat->Nat->Int->Int->List UInt8->Int×Int×List UInt8
 |0,_,_,c,_=>(0,c,[])
 |f+1,k,v,c,r=>
  if(num c r).2.1=0 then
   (if k=7\/(0<k/\(num c r).1=0)then(0,4,[])
       else if(num c r).1<128 then(v+(num c r).1%128*128^k,0,(num c r).2.2)else verF f (k+1) (v+(num c r).1%128*128^k) 0 (num c r).2.2)
  else(0,(num c r).2.1,[])
def gz(c:Int)(r:List UInt8):Int×Int×List UInt8:=verF 8 0 0 c r
def jU(c:Int)(r:List UInt8):aK×Int×List UInt8:=
 (⟨(kE c r).1,(gz (kE c r).2.1 (kE c r).2.2).1,(num (gz (kE c r).2.1 (kE c r).2.2).2.1 (gz (kE c r).2.1 (kE c r).2.2).2.2).1,
  (kE (num (gz (kE c r).2.1 (kE c r).2.2).2.1 (gz (kE c r).2.1 (kE c r).2.2).2.2).2.1 (num (gz (kE c r).2.1 (kE c r).2.2).2.1 (gz (kE c r).2.1 (kE c r).2.2).2.2).2.2).1⟩,
   (kE (num (gz (kE c r).2.1 (kE c r).2.2).2.1 (gz (kE c r).2.1 (kE c r).2.2).2.2).2.1 (num (gz (kE c r).2.1 (kE c r).2.2).2.1 (gz (kE c r).2.1 (kE c r).2.2).2.2).2.2).2)
def entsN:Nat->List aK->Int->List UInt8->List aK×Int×List UInt8
 |0,l,c,r=>(l,c,r)
 |n+1,l,c,r=>if(jU c r).2.1=0 then entsN n (l++ [(jU c r).1]) (jU c r).2.1 (jU c r).2.2 else([],(jU c r).2.1,[])
def vF(r:List UInt8):List aK×Int:=
 if(num 0 r).2.1=0 then
  (if(entsN (num 0 r).1.toNat [] (num 0 r).2.1 (num 0 r).2.2).2.1=0 then
   (if(entsN (num 0 r).1.toNat [] (num 0 r).2.1 (num 0 r).2.2).2.2= []then((entsN (num 0 r).1.toNat [] (num 0 r).2.1 (num 0 r).2.2).1,0)else([],4))
     else([],(entsN (num 0 r).1.toNat [] (num 0 r).2.1 (num 0 r).2.2).2.1))
 else([],(num 0 r).2.1)
def fU(b:List UInt8):Int:=
 if 20000<b.length then 1 else if b.length<6 then 5 else if¬b.getD 0 0=116 then 4 else if¬mi (b.take (b.length-4))=b.drop (b.length-4)then 9 else 0
def kP(b:List UInt8):Int:=
 if fU b=0 then(if(vF ((b.take (b.length-4)).drop 1)).2=0 then fault (vF ((b.take (b.length-4)).drop 1)).1 else(vF ((b.take (b.length-4)).drop 1)).2)else fU b
def mf(b:List UInt8):List aK:=if kP b=0 then(vF ((b.take (b.length-4)).drop 1)).1 else []
theorem Np(c:Int)(r:List UInt8):(kE c r).1.size<=255:=by
 have:=iw c r;unfold kE;split
 ·split
  ·show(List.toArray _).size<=255;simp;omega
  ·simp [Wq]
 ·simp [Wq]
theorem QJ(k:Nat):(1:Int)<=128^k:=by
 induction k with
 |zero=>simp
 |succ k a=>rw [aan];omega
theorem Vs{k:Nat}(h:k<=7):(128:Int)^k<=562949953421312:=by
 have e:k=0\/k=1\/k=2\/k=3\/k=4\/k=5\/k=6\/k=7:=by omega
 rcases e with rfl|rfl|rfl|rfl|rfl|rfl|rfl|rfl<;>decide
theorem Fv:∀(f k:Nat) (v c:Int) (r:List UInt8),f+k=8->0<=v->v<128^k->0<=(verF f k v c r).1/\(verF f k v c r).1<=562949953421312
 |0,_,_,_,_,_,_,_=>by simp [verF]
 |f+1,k,v,c,r,h,h0,i=>by
  have e:=iw c r;have hp:=QJ k;unfold verF;generalize num c r=q at*;obtain⟨n,c1,d⟩:=q;simp only at e⊢;have g:v+n%128*128^k<128^(k+1):=by
   rw [aan];generalize (128:Int)^k=P at*;have b:n%128<=127:=by omega
   have:n%128*P<=127*P:=Int.mul_le_mul_of_nonneg_right b (by omega);omega
  have a:0<=v+n%128*128^k:=by
   have:0<=n%128*128^k:=Int.mul_nonneg (by omega) (by omega);omega
  split
  ·split
   ·simp
   ·rename_i j;split
    ·refine⟨a,?_⟩;have:=Vs (k:=k+1) (by omega);show v+n%128*128^k<=_;omega
    ·exact Fv f (k+1) _ 0 d (by omega) a g
  ·simp
theorem UB(c:Int)(r:List UInt8):(jU c r).1.ok:=by
 have a:=Fv 8 0 0 (kE c r).2.1 (kE c r).2.2 rfl (by omega) (by simp);refine⟨?_,?_,?_,?_⟩
 ·have:=Np c r;show(kE c r).1.size<=Eb;unfold Eb;omega
 ·exact SN (by show _<=(gz _ _).1/\(gz _ _).1<=_;unfold gz;omega)
 ·have:=iw (gz (kE c r).2.1 (kE c r).2.2).2.1 (gz (kE c r).2.1 (kE c r).2.2).2.2;exact SN (by show _<=(num _ _).1/\(num _ _).1<=_;omega)
 ·have:=Np (num (gz (kE c r).2.1 (kE c r).2.2).2.1 (gz (kE c r).2.1 (kE c r).2.2).2.2).2.1 (num (gz (kE c r).2.1 (kE c r).2.2).2.1 (gz (kE c r).2.1 (kE c r).2.2).2.2).2.2;show(kE _ _).1.size<=Eb;unfold Eb;omega
theorem OW:∀(n:Nat) (l:List aK) (c:Int) (r:List UInt8),(∀e∈l,e.ok)->∀e∈(entsN n l c r).1,e.ok
 |0,_,_,_,h=>h
 |n+1,l,c,r,h=>by
  unfold entsN;split
  ·refine OW n _ _ _ (fun e he=> ?_);rcases List.mem_append.1 he with he|he
   ·exact h e he
   ·simp at he;subst he;exact UB c r
  ·intro e he;cases he
theorem ado(r:List UInt8):∀e∈(vF r).1,e.ok:=by
 unfold vF;split
 ·split
  ·split
   ·exact OW _ _ _ _ (fun e he=>by cases he)
   ·intro e he;cases he
  ·intro e he;cases he
 ·intro e he;cases he
theorem Ri(a b:Nat)(ha:a<9223372036854775808)(d:b<9223372036854775808):bits .or .i64 (a:Int) (b:Int)=((a|||b:Nat):Int):=by
 have c:a|||b<2^63:=Nat.or_lt_two_pow (by omega) (by omega);show IntKind.i64.wrap ((aag 64 (a:Int)|||aag 64 (b:Int)).toNat:Int)=_;rw [BitVec.toNat_or,ofInt_u64 a (by omega),ofInt_u64 b (by omega),IntKind.wrap_i64];omega
theorem zQ(v x:Int)(i:Nat)(b:0<=v)(f:v<2^i)(a:0<=x)(c:x*2^i<9223372036854775808)(d:v<9223372036854775808):bits .or .i64 v (x*2^i)=v+x*2^i:=by
 obtain⟨V,rfl⟩:=O6 b;obtain⟨X,rfl⟩:=O6 a;have e:((X:Int)*2^i)=((X*2^i:Nat):Int):=by simp
 rw [e]at c⊢;rw [Ri V (X*2^i) (by omega) (by omega)];have g:V<2^i:=by
  have:((V:Int))<((2^i:Nat):Int):=by simpa using f
  omega
 have:=Nat.shiftLeft_add_eq_or_of_lt g X;rw [Nat.shiftLeft_eq]at this;rw [Nat.or_comm,<-this];omega
end Pl
def eG(R:Nat)(w w':qh):Prop:=w.grownBy w' (some R)
theorem eG.refl(R:Nat)(w:qh):eG R w w:=aal _ _
theorem eG.trans{R:Nat}{a b c:qh}(h:eG R a b)(k:eG R b c):eG R a c:=
 ⟨k.os.trans h.os,k.tape.trans h.tape,k.output.trans h.output,IA h.size k.size,fun i e d=>(k.block i (OE e h.size) d).trans (h.block i e d)⟩
theorem eG.set(R o:Nat)(w:qh)(v:rU):eG R w (w.setCell ⟨R,o,none⟩ v):=
 ⟨rfl,rfl,rfl,by simp [OI],fun k _ a=>Below.heap_setCell _ _ _ _ (fun e=>a (by rw [e]))⟩
theorem eG.tN{R:Nat}{w w':qh}(h:xk w.heap.size w w'):eG R w w':=⟨h.os,h.tape,h.output,h.size,fun k a _=>h.block k a⟩
theorem eG.below{R B:Nat}{w w':qh}(h:eG R w w')(c:B<=R)(a:R<=w.heap.size):xk B w w':=⟨h.os,h.tape,h.output,h.size,fun k b=>h.block k (by omega) (fun e=>by cases e;omega)⟩
theorem eG.cell{R b o:Nat}{w w':qh}(h:eG R w w')(c:b<w.heap.size)(a:¬b=R):w'.cell? ⟨b,o,none⟩=w.cell? ⟨b,o,none⟩:=
 World.cell?_of_block (w:=w) (h.block b c (fun e=>a (by cases e;rfl)))
def lY(w:qh)(B R:Nat)(c:Int)(rs:List UInt8):Prop:=
 ∃a len cap,w.cell? ⟨R,0,none⟩=some (.slice a len cap)/\w.cell? ⟨R,1,none⟩=some (.int .i64 c)/\w.frozen? ⟨R,0,none⟩=false/\w.frozen? ⟨R,1,none⟩=false/\
  dF w a len cap rs/\(a=none->cap=0)/\(∀x,a=some x->¬rs= []->x.block<B)/\B<=R/\R<w.heap.size/\(¬c=0->rs= [])
theorem oV{w w':qh}{R B:Nat}{a:Option Addr}{len cap:Nat}{c:List UInt8}(h:dF w a len cap c)(k:eG R w w')(p:B<=R)(g:∀x,a=some x->¬c= []->x.block<B):dF w' a len cap c:=by
 obtain⟨o,n,m,d⟩:=h;refine⟨o,n,m,?_⟩;by_cases e:c= []
 ·exact .inl e
 ·rcases d with d|⟨b,off,rfl,f,i⟩
  ·exact .inl d
  ·have:=g _ rfl e;exact .inr ⟨b,off,rfl,OE f k.size,fun j u l=>(k.cell f (by simp at this;omega)).trans (i j u l)⟩
theorem DX{w:qh}{b off len n:Nat}{a:List UInt8}(hc:len<=n)(hl:a.length=len):dF w (some ⟨b,off,none⟩) (len-n) 0 (a.drop n):=by
 have e:a.drop n= []:=List.drop_eq_nil_of_le (by omega);rw [e,show len-n=0 by omega];exact⟨rfl,oC _,by simp,.inl rfl⟩
theorem qH{w:qh}{b off len cap n:Nat}{a:List UInt8}(h:dF w (some ⟨b,off,none⟩) len cap a)(l:n<=len):dF w (some ⟨b,off+n,none⟩) (len-n) (cap-n) (a.drop n):=by
 obtain⟨p,o,m,k⟩:=h;refine⟨by simp;omega,by omega,by omega,?_⟩;rcases k with rfl|⟨q,d,c,i,g⟩
 ·left;simp
 ·cases c;refine .inr ⟨b,off+n,rfl,i,fun j u f=> ?_⟩;have:=g (n+j) u (by
   have e:dH (a.drop n)=(dH a).drop n:=by simp [dH]
   rw [e,List.getElem?_drop]at f;exact f)
  rwa [show off+n+j=off+(n+j) by omega]
theorem uw{w:qh}{a:Option Addr}{len cap n:Nat}{d:List UInt8}(h:dF w a len cap d)(k:n<=len):dF w a n cap (d.take n):=by
 obtain⟨o,m,l,i⟩:=h;refine⟨by simp;omega,by omega,by omega,?_⟩;rcases i with rfl|⟨b,off,rfl,g,f⟩
 ·left;simp
 ·refine .inr ⟨b,off,rfl,g,fun j u c=>f j u ?_⟩;have e:dH (d.take n)=(dH d).take n:=by simp [dH]
  rw [e,Qd]at c;split at c
  ·exact c
  ·cases c
theorem wU(w:qh):dF w none 0 0 []:=⟨rfl,oC _,by simp,.inl rfl⟩
theorem zK{w:qh}{B R:Nat}{c:Int}{rs b:List UInt8}{a:Option Addr}{len cap:Nat}(h:lY w B R c rs)(i:dF w a len cap b)(g:a=none->cap=0)(d:∀x,a=some x->¬b= []->x.block<B)(hc:¬c=0->b= []):
  lY (w.setCell ⟨R,0,none⟩ (.slice a len cap)) B R c b:=by
 obtain⟨a0,j,c0,h0,k,f0,f1,_,_,_,e,f,_⟩:=h;refine⟨a,len,cap,?_,?_,?_,?_,oV i (eG.set R 0 w _) e d,g,d,e,by simpa [OI]using f,hc⟩
 ·go_simp
 ·go_simp
 ·rw [Ah];exact f0
 ·rw [Ah];exact f1
theorem aa1{w:qh}{B R:Nat}{c n:Int}{rs:List UInt8}(h:lY w B R c rs):
  lY ((w.setCell ⟨R,1,none⟩ (.int .i64 n)).setCell ⟨R,0,none⟩ (.slice none 0 0)) B R n []:=by
 obtain⟨a0,e,c0,h0,f,f0,f1,_,_,_,d,b,_⟩:=h;refine⟨none,0,0,?_,?_,?_,?_,wU _,(fun _=>rfl),(fun x a=>by cases a),d,by simpa [OI]using b,fun _=>rfl⟩
 ·go_simp
 ·go_simp
 ·rw [Ah,Ah];exact f0
 ·rw [Ah,Ah];exact f1
theorem jb(B R:Nat)(c:Int)(rs:List UInt8)(n:Int)(w:qh)(h:lY w B R c rs)(b:¬n=0):
  BG qL 270 #[.pointer (some ⟨R,0,none⟩),.int .i64 n] w fun e w'=>e= .returned (.tuple #[])/\lY w' B R (if c=0 then n else c) []/\eG R w w':=by
 have d:=ae h;obtain⟨a,len,cap,h0,i,f0,f1,_,_,_,_,_,_⟩:=h;have j:=ae b;clear b;by_cases hc:c=0
 ·subst hc;go_enter Tryz.func270,Tryz.ntmps270;go_wp2;go_end0
  refine⟨rfl,?_,(eG.set R 1 w _).trans (eG.set R 0 _ _)⟩;exact aa1 d.out
 ·have g:(c==0)=false:=by simp [hc]
  have k:=ae hc;clear hc;go_enter Tryz.func270,Tryz.ntmps270;go_wp2;go_end0
  refine⟨rfl,?_,eG.set R 0 w _⟩;exact zK d.out (wU w) (fun _=>rfl) (fun x f=>by cases f) (fun _=>rfl)
theorem uO(B R:Nat)(c:Int)(rs:List UInt8)(w:qh)(h:lY w B R c rs):
  BG qL 256 #[.pointer (some ⟨R,0,none⟩)] w fun e w'=>e= .returned (.int .i64 (Pl.num c rs).1)/\lY w' B R (Pl.num c rs).2.1 (Pl.num c rs).2.2/\eG R w w':=by
 have q:=ae h;obtain⟨a,len,cap,h0,H,f0,f1,D,_,r,G,F,j⟩:=h;obtain⟨hl,l,hm,d⟩:=D;unfold Eb at hm;rcases rs with _|⟨x,t⟩
 ·simp at hl;subst hl;have g:BD (Pl.num c []=(0,if c=0 then 5 else c,[])):=by
   show _=_;unfold Pl.num;split<;>rfl
  clear d r j;go_enter Tryz.func256,Tryz.ntmps256;go_wp2_with fail;refine(jb B R c [] 5 _ q.out (by omega)).mono ?_;rintro e w' ⟨rfl,i,v⟩;go_wp2_with fail;go_ret;exact⟨aF (by rw [g.out]),by rw [g.out];exact i,v⟩
 ·have m:c=0:=by
   by_cases h:c=0
   ·exact h
   ·have:=j h;cases this
  subst m;obtain⟨b,off,rfl,C,i⟩:=d.resolve_left (by simp);have s:=i 0 (.int .u8 (x.toNat:Int)) (by simp [dH]);simp only [Nat.add_zero]at s;have f:=r _ rfl (by simp);simp at f;have hlen:(1:Int)<=(len:Int):=by simp at hl;omega
  have z:((len:Int)==0)=false:=by simp;omega
  have u:=o8 x;have g:BD (Pl.num 0 (x::t)=((x.toNat:Int),0,t)):=wP x t;have A:¬b=R:=by omega
  generalize x.toNat=E at*;have p:=ae (fun(hc:len<=1)=>DX (w:=w) (b:=b) (off:=off) (n:=1) hc hl);have o:=ae (qH (n:=1) ⟨hl,l,by unfold Eb;exact hm,.inr ⟨b,off,rfl,C,i⟩⟩ (by omega));clear i d;go_enter Tryz.func256,Tryz.ntmps256;go_wp2
  ·go_ret;refine⟨aF (by rw [g.out]),?_,eG.set R 0 w _⟩;rw [g.out];exact zK q.out (p.out (by omega)) (fun h=>by cases h) (fun y k _=>by cases k;exact f) (fun h=>absurd rfl h)
  ·go_ret;refine⟨aF (by rw [g.out]),?_,eG.set R 0 w _⟩;rw [g.out];exact zK q.out o.out (fun h=>by cases h) (fun y k _=>by cases k;exact f) (fun h=>absurd rfl h)
theorem Qq{c n c1:Int}{rs a:List UInt8}(h:Pl.num c rs=(n,c1,a))(b:n.toNat<=a.length):kE c rs=(⟨(a.take n.toNat).toArray⟩,c1,a.drop n.toNat):=by
 have hl:=Bj c rs;unfold kE;rw [h]at hl⊢;simp only at hl⊢;by_cases hc:c1=0
 ·rw [af hc,af b,hc]
 ·obtain⟨e,d⟩:=hl hc;subst e d;rw [ag hc];simp
theorem U1{c n c1:Int}{rs a:List UInt8}(h:Pl.num c rs=(n,c1,a))(b:a.length<n.toNat):kE c rs=(⟨#[]⟩,5,[])/\c1=0:=by
 have hl:=Bj c rs;unfold kE;rw [h]at hl⊢;simp only at hl⊢;by_cases hc:c1=0
 ·rw [af hc,ag (by omega)];exact⟨rfl,hc⟩
 ·obtain⟨e,d⟩:=hl hc;subst d;simp at b
theorem Ns(B R:Nat)(c:Int)(rs:List UInt8)(w:qh)(h:lY w B R c rs):
  BG qL 271 #[.pointer (some ⟨R,0,none⟩)] w fun e w'=>e= .returned (.string (kE c rs).1)/\lY w' B R (kE c rs).2.1 (kE c rs).2.2/\eG R w w':=by
 have O:=ae h;clear h;have l:=iw c rs;have z:=ae (uO B R c rs w O.out);obtain⟨n,c1,q,G⟩:∃n c1 q,BD (Pl.num c rs=(n,c1,q)):=⟨_,_,_,rfl⟩
 rw [G.out]at l z;simp only at l z;obtain⟨D,I⟩:=l;obtain⟨m,rfl⟩:=O6 D;go_enter Tryz.func271,Tryz.ntmps271;go_wp2_with fail;refine z.out.mono ?_;rintro e p ⟨rfl,r,f⟩;have g:=ae r;obtain⟨a,len,cap,h0,U,f0,f1,i,s,v,T,S,u⟩:=r;have hlen:q.length=len:=i.1;have K:=i.2.1;have hm:=i.2.2.1;unfold Eb at hm;by_cases L:len<m
 ·obtain⟨hT,o⟩:=U1 G.out (by simp;omega);have d:=ae hT;clear hT i v;subst o;go_wp2_with fail;refine(jb B R 0 q 5 _ g.out (by omega)).mono ?_;rintro e P ⟨rfl,A,C⟩;go_wp2_with fail;go_ret;exact⟨by rw [d.out];rfl,by rw [d.out];exact A,f.trans C⟩
 ·have d:=ae (Qq G.out (by simp;omega));simp only [Int.toNat_natCast]at d;have M:=jL (uw i (show m<=len by omega));rcases q with _|⟨x,t⟩
  ·simp at hlen;subst hlen;obtain rfl:m=0:=by omega
   rcases a with _|V
   ·obtain rfl:=s rfl;go_wp2;go_ret;refine⟨by rw [d.out];rfl,?_,f.trans (eG.set R 0 p _)⟩;rw [d.out];exact zK g.out (wU _) (fun _=>rfl) (fun y j=>by cases j) (fun _=>rfl)
   ·have N:=ae i;clear i v;go_wp2;go_ret;refine⟨by rw [d.out];rfl,?_,f.trans (eG.set R 0 p _)⟩;rw [d.out];exact zK g.out N.out (fun h=>by cases h) (fun y _ j=>absurd rfl j) (fun _=>rfl)
  ·obtain⟨b,off,rfl,Q,H⟩:=i.2.2.2.resolve_left (by simp);have k:=v _ rfl (by simp);simp at k;have o:c1=0:=by
    by_cases h:c1=0
    ·exact h
    ·have:=u h;cases this
   subst o;have F:=ae (fun(hc:len<=m)=>DX (w:=p) (b:=b) (off:=off) (n:=m) hc hlen);have E:=ae (qH (n:=m) i (by omega));clear H i v s u;have J:(m:Int)<=(len:Int):=by omega
   go_wp2
   ·go_ret;refine⟨by rw [d.out];rfl,?_,f.trans (eG.set R 0 p _)⟩;rw [d.out];exact zK g.out (F.out (by omega)) (fun h=>by cases h) (fun y j _=>by cases j;exact k) (fun h=>absurd rfl h)
   ·go_ret;refine⟨by rw [d.out];rfl,?_,f.trans (eG.set R 0 p _)⟩;rw [d.out];exact zK g.out E.out (fun h=>by cases h) (fun y j _=>by cases j;exact k) (fun h=>absurd rfl h)
theorem Nj(B R:Nat)(c:Int)(rs:List UInt8)(w:qh)(h:lY w B R c rs):
  BG qL 272 #[.pointer (some ⟨R,0,none⟩)] w fun e w'=>e= .returned (.int .i64 (gz c rs).1)/\lY w' B R (gz c rs).2.1 (gz c rs).2.2/\eG R w w':=by
 have Z:=ae h;clear h;go_enter Tryz.func272,Tryz.ntmps272;go_wp2;go_loopw [3,4] (fun p i wr=>∃(k f:Nat) (v c1:Int) (F:List UInt8),f+k=8/\1<=f/\i= .int .i64 k/\p= .int .i64 v/\0<=v/\BD (v<128^k)/\BD (lY wr B R c1 F)/\BD (gz c rs=Pl.verF f k v c1 F)/\BD (eG R w wr)) (fun _ i _=>8-(GX i).toNat)
 case atStart=>exact⟨0,8,0,c,rs,rfl,by omega,rfl,rfl,by omega,by show _<_;omega,Z,rfl,eG.refl _ _⟩
 case round=>
  obtain⟨k,f,v,c1,F,V,W,rfl,rfl,P,H,Y,O,x⟩:=hrel;obtain⟨g,rfl⟩:∃g,f=g+1:=⟨f-1,by omega⟩
  have G:=iw c1 F;have y:=ae (uO B R c1 F wr Y.out);obtain⟨n,c2,o,L⟩:∃n c2 o,BD (Pl.num c1 F=(n,c2,o)):=⟨_,_,_,rfl⟩
  rw [L.out]at G y;simp only at G y;obtain⟨T,S⟩:=G;have q:BD (gz c rs=if c2=0 then(if k=7\/(0<k/\n=0)then(0,4,[])else if n<128 then(v+n%128*128^k,0,o)else Pl.verF g (k+1) (v+n%128*128^k) 0 o)else(0,c2,[])):=by
   show _=_;rw [O.out,Pl.verF,L.out]
  clear O;by_cases E:c2=0
  ·subst E;simp only [if_true]at q;have U:k=0\/k=1\/k=2\/k=3\/k=4\/k=5\/k=6\/k=7:=by omega
   rcases U with rfl|rfl|rfl|rfl|rfl|rfl|rfl|rfl
   ·have Q:v=0:=by have:=H.out;simp at this;omega
    subst Q;have C:bits .or .i64 0 (n%128)=n%128:=by
     have:=zQ 0 (n%128) 0 (by omega) (by omega) (by omega) (by omega) (by omega);simpa using this
    have l:BD (gz c rs=if n<128 then(n%128,0,o)else Pl.verF g 1 (n%128) 0 o):=by
     show _=_;rw [q.out];simp
    clear q;go_wp2_with fail;refine y.out.mono ?_;rintro e z ⟨rfl,b,d⟩;have j:=ae b;obtain⟨a,len,cap,h0,A,f0,f1,_,_,_,_,_,_⟩:=b;go_wp2_with fail
    ·go_ret;have t:n<128:=by assumption
     rw [af t]at l;exact⟨aF (by rw [l.out]),by rw [l.out];exact j.out,x.out.trans d⟩
    ·go_roundw
     case rel=>
      have D:128<=n:=by assumption
      rw [ag (by omega)]at l;exact⟨1,g,n%128,0,o,by omega,by omega,rfl,rfl,by omega,by show _<_;omega,j,l,x.out.trans d⟩
     case measure=>simp [GX]
   ·have J:v<128:=H.out;by_cases m:n=0
    ·have l:BD (gz c rs=(0,4,[])):=by
      show _=_;rw [q.out,af (.inr ⟨by omega,m⟩)]
     have u:(n==0)=true:=by simp [m]
     have K:=ae m;clear q m;go_wp2_with fail;refine y.out.mono ?_;rintro e z ⟨rfl,b,d⟩;have j:=ae b;obtain⟨a,len,cap,h0,A,f0,f1,_,_,_,_,_,_⟩:=b;go_wp2_with fail;refine(jb B R 0 o 4 _ j.out (by omega)).mono ?_;rintro e I ⟨rfl,r,s⟩;go_wp2_with fail;go_ret;exact⟨aF (by rw [l.out]),by rw [l.out];exact r,(x.out.trans d).trans s⟩
    ·have u:(n==0)=false:=by simp [m]
     have C:bits .or .i64 v (n%128*128)=v+n%128*128:=by
      have:=zQ v (n%128) 7 (by omega) (by rw [show(2:Int)^7=128 from rfl];omega) (by omega) (by rw [show(2:Int)^7=128 from rfl];omega) (by omega);rwa [show(2:Int)^7=128 from rfl]at this
     have l:BD (gz c rs=if n<128 then(v+n%128*128,0,o)else Pl.verF g 2 (v+n%128*128) 0 o):=by
      show _=_;rw [q.out,ag (by omega)];rfl
     clear q;go_wp2_with fail;refine y.out.mono ?_;rintro e z ⟨rfl,b,d⟩;have j:=ae b;obtain⟨a,len,cap,h0,A,f0,f1,_,_,_,_,_,_⟩:=b;go_wp2_with fail
     ·go_ret;have t:n<128:=by assumption
      rw [af t]at l;exact⟨aF (by rw [l.out]),by rw [l.out];exact j.out,x.out.trans d⟩
     ·go_roundw
      case rel=>
       have D:128<=n:=by assumption
       rw [ag (by omega)]at l;exact⟨2,g,v+n%128*128,0,o,by omega,by omega,rfl,rfl,by omega,by show _<_;rw [show(128:Int)^2=16384 from rfl];omega,j,l,x.out.trans d⟩
      case measure=>simp [GX]
   ·have J:v<16384:=H.out;by_cases m:n=0
    ·have l:BD (gz c rs=(0,4,[])):=by
      show _=_;rw [q.out,af (.inr ⟨by omega,m⟩)]
     have u:(n==0)=true:=by simp [m]
     have K:=ae m;clear q m;go_wp2_with fail;refine y.out.mono ?_;rintro e z ⟨rfl,b,d⟩;have j:=ae b;obtain⟨a,len,cap,h0,A,f0,f1,_,_,_,_,_,_⟩:=b;go_wp2_with fail;refine(jb B R 0 o 4 _ j.out (by omega)).mono ?_;rintro e I ⟨rfl,r,s⟩;go_wp2_with fail;go_ret;exact⟨aF (by rw [l.out]),by rw [l.out];exact r,(x.out.trans d).trans s⟩
    ·have u:(n==0)=false:=by simp [m]
     have C:bits .or .i64 v (n%128*16384)=v+n%128*16384:=by
      have:=zQ v (n%128) 14 (by omega) (by rw [show(2:Int)^14=16384 from rfl];omega) (by omega) (by rw [show(2:Int)^14=16384 from rfl];omega) (by omega);rwa [show(2:Int)^14=16384 from rfl]at this
     have l:BD (gz c rs=if n<128 then(v+n%128*16384,0,o)else Pl.verF g 3 (v+n%128*16384) 0 o):=by
      show _=_;rw [q.out,ag (by omega)];rfl
     clear q;go_wp2_with fail;refine y.out.mono ?_;rintro e z ⟨rfl,b,d⟩;have j:=ae b;obtain⟨a,len,cap,h0,A,f0,f1,_,_,_,_,_,_⟩:=b;go_wp2_with fail
     ·go_ret;have t:n<128:=by assumption
      rw [af t]at l;exact⟨aF (by rw [l.out]),by rw [l.out];exact j.out,x.out.trans d⟩
     ·go_roundw
      case rel=>
       have D:128<=n:=by assumption
       rw [ag (by omega)]at l;exact⟨3,g,v+n%128*16384,0,o,by omega,by omega,rfl,rfl,by omega,by show _<_;rw [show(128:Int)^3=2097152 from rfl];omega,j,l,x.out.trans d⟩
      case measure=>simp [GX]
   ·have J:v<2097152:=H.out;by_cases m:n=0
    ·have l:BD (gz c rs=(0,4,[])):=by
      show _=_;rw [q.out,af (.inr ⟨by omega,m⟩)]
     have u:(n==0)=true:=by simp [m]
     have K:=ae m;clear q m;go_wp2_with fail;refine y.out.mono ?_;rintro e z ⟨rfl,b,d⟩;have j:=ae b;obtain⟨a,len,cap,h0,A,f0,f1,_,_,_,_,_,_⟩:=b;go_wp2_with fail;refine(jb B R 0 o 4 _ j.out (by omega)).mono ?_;rintro e I ⟨rfl,r,s⟩;go_wp2_with fail;go_ret;exact⟨aF (by rw [l.out]),by rw [l.out];exact r,(x.out.trans d).trans s⟩
    ·have u:(n==0)=false:=by simp [m]
     have C:bits .or .i64 v (n%128*2097152)=v+n%128*2097152:=by
      have:=zQ v (n%128) 21 (by omega) (by rw [show(2:Int)^21=2097152 from rfl];omega) (by omega) (by rw [show(2:Int)^21=2097152 from rfl];omega) (by omega);rwa [show(2:Int)^21=2097152 from rfl]at this
     have l:BD (gz c rs=if n<128 then(v+n%128*2097152,0,o)else Pl.verF g 4 (v+n%128*2097152) 0 o):=by
      show _=_;rw [q.out,ag (by omega)];rfl
     clear q;go_wp2_with fail;refine y.out.mono ?_;rintro e z ⟨rfl,b,d⟩;have j:=ae b;obtain⟨a,len,cap,h0,A,f0,f1,_,_,_,_,_,_⟩:=b;go_wp2_with fail
     ·go_ret;have t:n<128:=by assumption
      rw [af t]at l;exact⟨aF (by rw [l.out]),by rw [l.out];exact j.out,x.out.trans d⟩
     ·go_roundw
      case rel=>
       have D:128<=n:=by assumption
       rw [ag (by omega)]at l;exact⟨4,g,v+n%128*2097152,0,o,by omega,by omega,rfl,rfl,by omega,by show _<_;rw [show(128:Int)^4=268435456 from rfl];omega,j,l,x.out.trans d⟩
      case measure=>simp [GX]
   ·have J:v<268435456:=H.out;by_cases m:n=0
    ·have l:BD (gz c rs=(0,4,[])):=by
      show _=_;rw [q.out,af (.inr ⟨by omega,m⟩)]
     have u:(n==0)=true:=by simp [m]
     have K:=ae m;clear q m;go_wp2_with fail;refine y.out.mono ?_;rintro e z ⟨rfl,b,d⟩;have j:=ae b;obtain⟨a,len,cap,h0,A,f0,f1,_,_,_,_,_,_⟩:=b;go_wp2_with fail;refine(jb B R 0 o 4 _ j.out (by omega)).mono ?_;rintro e I ⟨rfl,r,s⟩;go_wp2_with fail;go_ret;exact⟨aF (by rw [l.out]),by rw [l.out];exact r,(x.out.trans d).trans s⟩
    ·have u:(n==0)=false:=by simp [m]
     have C:bits .or .i64 v (n%128*268435456)=v+n%128*268435456:=by
      have:=zQ v (n%128) 28 (by omega) (by rw [show(2:Int)^28=268435456 from rfl];omega) (by omega) (by rw [show(2:Int)^28=268435456 from rfl];omega) (by omega);rwa [show(2:Int)^28=268435456 from rfl]at this
     have l:BD (gz c rs=if n<128 then(v+n%128*268435456,0,o)else Pl.verF g 5 (v+n%128*268435456) 0 o):=by
      show _=_;rw [q.out,ag (by omega)];rfl
     clear q;go_wp2_with fail;refine y.out.mono ?_;rintro e z ⟨rfl,b,d⟩;have j:=ae b;obtain⟨a,len,cap,h0,A,f0,f1,_,_,_,_,_,_⟩:=b;go_wp2_with fail
     ·go_ret;have t:n<128:=by assumption
      rw [af t]at l;exact⟨aF (by rw [l.out]),by rw [l.out];exact j.out,x.out.trans d⟩
     ·go_roundw
      case rel=>
       have D:128<=n:=by assumption
       rw [ag (by omega)]at l;exact⟨5,g,v+n%128*268435456,0,o,by omega,by omega,rfl,rfl,by omega,by show _<_;rw [show(128:Int)^5=34359738368 from rfl];omega,j,l,x.out.trans d⟩
      case measure=>simp [GX]
   ·have J:v<34359738368:=H.out;by_cases m:n=0
    ·have l:BD (gz c rs=(0,4,[])):=by
      show _=_;rw [q.out,af (.inr ⟨by omega,m⟩)]
     have u:(n==0)=true:=by simp [m]
     have K:=ae m;clear q m;go_wp2_with fail;refine y.out.mono ?_;rintro e z ⟨rfl,b,d⟩;have j:=ae b;obtain⟨a,len,cap,h0,A,f0,f1,_,_,_,_,_,_⟩:=b;go_wp2_with fail;refine(jb B R 0 o 4 _ j.out (by omega)).mono ?_;rintro e I ⟨rfl,r,s⟩;go_wp2_with fail;go_ret;exact⟨aF (by rw [l.out]),by rw [l.out];exact r,(x.out.trans d).trans s⟩
    ·have u:(n==0)=false:=by simp [m]
     have C:bits .or .i64 v (n%128*34359738368)=v+n%128*34359738368:=by
      have:=zQ v (n%128) 35 (by omega) (by rw [show(2:Int)^35=34359738368 from rfl];omega) (by omega) (by rw [show(2:Int)^35=34359738368 from rfl];omega) (by omega);rwa [show(2:Int)^35=34359738368 from rfl]at this
     have l:BD (gz c rs=if n<128 then(v+n%128*34359738368,0,o)else Pl.verF g 6 (v+n%128*34359738368) 0 o):=by
      show _=_;rw [q.out,ag (by omega)];rfl
     clear q;go_wp2_with fail;refine y.out.mono ?_;rintro e z ⟨rfl,b,d⟩;have j:=ae b;obtain⟨a,len,cap,h0,A,f0,f1,_,_,_,_,_,_⟩:=b;go_wp2_with fail
     ·go_ret;have t:n<128:=by assumption
      rw [af t]at l;exact⟨aF (by rw [l.out]),by rw [l.out];exact j.out,x.out.trans d⟩
     ·go_roundw
      case rel=>
       have D:128<=n:=by assumption
       rw [ag (by omega)]at l;exact⟨6,g,v+n%128*34359738368,0,o,by omega,by omega,rfl,rfl,by omega,by show _<_;rw [show(128:Int)^6=4398046511104 from rfl];omega,j,l,x.out.trans d⟩
      case measure=>simp [GX]
   ·have J:v<4398046511104:=H.out;by_cases m:n=0
    ·have l:BD (gz c rs=(0,4,[])):=by
      show _=_;rw [q.out,af (.inr ⟨by omega,m⟩)]
     have u:(n==0)=true:=by simp [m]
     have K:=ae m;clear q m;go_wp2_with fail;refine y.out.mono ?_;rintro e z ⟨rfl,b,d⟩;have j:=ae b;obtain⟨a,len,cap,h0,A,f0,f1,_,_,_,_,_,_⟩:=b;go_wp2_with fail;refine(jb B R 0 o 4 _ j.out (by omega)).mono ?_;rintro e I ⟨rfl,r,s⟩;go_wp2_with fail;go_ret;exact⟨aF (by rw [l.out]),by rw [l.out];exact r,(x.out.trans d).trans s⟩
    ·have u:(n==0)=false:=by simp [m]
     have C:bits .or .i64 v (n%128*4398046511104)=v+n%128*4398046511104:=by
      have:=zQ v (n%128) 42 (by omega) (by rw [show(2:Int)^42=4398046511104 from rfl];omega) (by omega) (by rw [show(2:Int)^42=4398046511104 from rfl];omega) (by omega);rwa [show(2:Int)^42=4398046511104 from rfl]at this
     have l:BD (gz c rs=if n<128 then(v+n%128*4398046511104,0,o)else Pl.verF g 7 (v+n%128*4398046511104) 0 o):=by
      show _=_;rw [q.out,ag (by omega)];rfl
     clear q;go_wp2_with fail;refine y.out.mono ?_;rintro e z ⟨rfl,b,d⟩;have j:=ae b;obtain⟨a,len,cap,h0,A,f0,f1,_,_,_,_,_,_⟩:=b;go_wp2_with fail
     ·go_ret;have t:n<128:=by assumption
      rw [af t]at l;exact⟨aF (by rw [l.out]),by rw [l.out];exact j.out,x.out.trans d⟩
     ·go_roundw
      case rel=>
       have D:128<=n:=by assumption
       rw [ag (by omega)]at l;exact⟨7,g,v+n%128*4398046511104,0,o,by omega,by omega,rfl,rfl,by omega,by show _<_;rw [show(128:Int)^7=562949953421312 from rfl];omega,j,l,x.out.trans d⟩
      case measure=>simp [GX]
   ·have l:BD (gz c rs=(0,4,[])):=by
     show _=_;rw [q.out,af (.inl rfl)]
    clear q;go_wp2_with fail;refine y.out.mono ?_;rintro e z ⟨rfl,b,d⟩;have j:=ae b;obtain⟨a,len,cap,h0,A,f0,f1,_,_,_,_,_,_⟩:=b;go_wp2_with fail;refine(jb B R 0 o 4 _ j.out (by omega)).mono ?_;rintro e I ⟨rfl,r,s⟩;go_wp2_with fail;go_ret;exact⟨aF (by rw [l.out]),by rw [l.out];exact r,(x.out.trans d).trans s⟩
  ·have l:BD (gz c rs=(0,c2,[])):=by
    show _=_;rw [q.out,ag E]
   have X:(c2 != 0)=true:=by simp [E]
   have M:=ae E;have N:=ae (Bj c1 F);rw [L.out]at N;clear q E;go_wp2_with fail;refine y.out.mono ?_;rintro e z ⟨rfl,b,d⟩;have j:=ae b;obtain⟨a,len,cap,h0,A,f0,f1,_,_,_,_,_,_⟩:=b;go_wp2_with fail;go_ret;refine⟨aF (by rw [l.out]),?_,x.out.trans d⟩;rw [l.out];have:=j.out;rwa [(N.out M.out).1]at this
end Go.Proofs.YtjjelkdajdeikaaGreatDoor
