/-
  Facts that the proof rests on.
-/
import Derived.Test.YtjjelkdajdeikaaGreatDoorNetRunsC4
open List renaming pairwise_cons→oC,map_cons→qL
open List.Pairwise renaming nil→oP
open Bool renaming and_eq_true→qh
open Nat renaming lt_or_ge→rU
open Decidable renaming byContradiction→xh
set_option maxHeartbeats 8000000
namespace Go.Proofs.YtjjelkdajdeikaaGreatDoor
open Pl
open Go.RowKit
set_option maxRecDepth 20000
theorem Pl.tV{h:Nat->Bool}{k:Nat}{x:Int}:x∈Pl.hopsL h k↔∃j,j<k/\x=(j:Int)/\h j=true:=by
 induction k with
 |zero=>simp [Pl.hopsL]
 |succ k d=>
  cases e:h k
  ·rw [pR e,d];constructor
   ·rintro⟨j,c,b,a⟩;exact⟨j,by omega,b,a⟩
   ·rintro⟨j,c,b,a⟩;refine⟨j,?_,b,a⟩;rcases rU j k with g|g
    ·exact g
    ·obtain rfl:j=k:=by omega
     rw [e]at a;cases a
  ·rw [wW e,List.mem_append,List.mem_singleton,d];constructor
   ·rintro(⟨j,c,b,a⟩|rfl)
    ·exact⟨j,by omega,b,a⟩
    ·exact⟨k,by omega,rfl,e⟩
   ·rintro⟨j,c,b,a⟩;rcases rU j k with g|g
    ·exact .inl ⟨j,g,b,a⟩
    ·obtain rfl:j=k:=by omega
     exact .inr b
theorem Pl.GU(h:Nat->Bool)(k:Nat):(Pl.hopsL h k).Pairwise (·<·):=by
 induction k with
 |zero=>exact oP
 |succ k a=>
  cases e:h k
  ·rw [pR e];exact a
  ·rw [wW e,List.pairwise_append];refine⟨a,by simp,fun x c y b=> ?_⟩;obtain⟨j,f,d,_⟩:=tV.1 c;simp at b;omega
theorem Pl.Y3{l:List Int}(c:∀x∈l,0<=x/\x<=11)(b:l.Pairwise (·<·)):fP l=true:=by
 refine zV fun k a=> ?_;have g:=c _ (List.getElem_mem a);rw [<-vH l k a]at g
 cases k with
 |zero=>rw [uf];simpa using g
 |succ m=>
  rw [pU];have:=List.pairwise_iff_getElem.1 b m (m+1) (by omega) a (by omega);rw [<-vH l m (by omega),<-vH l (m+1) a]at this;simp only [qh,ik];exact⟨g,this⟩
theorem Pl.fO{l:List Int}(h:fP l=true):∀x∈l,0<=x/\x<=11:=by
 intro x b;obtain⟨i,a,rfl⟩:=List.getElem_of_mem b;have:=nS h i a;unfold mQ at this;simp only [qh,ik]at this;rw [<-vH l i a];exact this.1
theorem Pl.Fa(h:Nat->Bool){k:Nat}(b:k<=12):fP (Pl.hopsL h k)=true:=
 Y3 (fun x a=>by obtain⟨j,d,c,_⟩:=tV.1 a;omega) (GU h k)
theorem Pl.Qo:∀{a b:List Int},a.Pairwise (·<·)->b.Pairwise (·<·)->(∀x,x∈a↔x∈b)->a=b
 | [],[],_,_,_=>rfl
 | [],y::b,_,_,h=>absurd ((h y).2 (by simp)) (by simp)
 |x::a,[],_,_,h=>absurd ((h x).1 (by simp)) (by simp)
 |x::a,y::b,ha,i,h=>by
  rw [oC]at ha i;have e:x=y:=by
   have f:=(h x).1 (by simp);have d:=(h y).2 (by simp);rcases List.mem_cons.1 f with f|f
   ·exact f
   ·rcases List.mem_cons.1 d with d|d
    ·exact d.symm
    ·have:=i.1 x f;have:=ha.1 y d;omega
  subst e;rw [Qo ha.2 i.2 fun z=> ?_];constructor
  ·intro c;rcases List.mem_cons.1 ((h z).1 (by simp [c]))with g|g
   ·have:=ha.1 z c;omega
   ·exact g
  ·intro c;rcases List.mem_cons.1 ((h z).2 (by simp [c]))with g|g
   ·have:=i.1 z c;omega
   ·exact g
def Pl.sW(a b:List Int):List Int:=Pl.hopsL (fun k=>decide ((k:Int)∈a)||decide ((k:Int)∈b)) 12
theorem Pl.yj{a b:List Int}{x:Int}(ha:∀x∈a,0<=x/\x<=11)(c:∀x∈b,0<=x/\x<=11):x∈sW a b↔x∈a\/x∈b:=by
 unfold sW;rw [tV];constructor
 ·rintro⟨j,_,rfl,h⟩;simpa using h
 ·intro h;have d:0<=x/\x<=11:=h.elim (ha x) (c x);refine⟨x.toNat,by omega,by omega,?_⟩;rw [show((x.toNat:Nat):Int)=x by omega];simpa using h
def Pl.iY(a b:Pl.Rt):Pl.Rt:=if b.cost<a.cost then b else if b.cost=a.cost then⟨a.p,a.here,a.cost,sW a.aH b.aH⟩else a
def Pl.IU(rs:List Pl.Rt)(r:Pl.Rt):Pl.Rt:=if bu (rs.map Pl.Rt.p) r.p then iY (Pl.rt rs (Pl.posP (rs.map Pl.Rt.p) r.p)) r else r
def Pl.Bh(rs:List Pl.Rt)(r:Pl.Rt):List Pl.Rt:=Pl.insR rs (IU rs r)
def Pl.getR:List Pl.Rt->Int×Int->Option Pl.Rt
 | [],_=>none
 |e::r,q=>if e.p=q then some e else Pl.getR r q
theorem Pl.pV{rs:List Pl.Rt}{q:Int×Int}(h:∀r∈rs,¬r.p=q):Pl.getR rs q=none:=by
 induction rs with
 |nil=>rfl
 |cons e r a=>unfold Pl.getR;rw [ag (h e (by simp))];exact a fun x b=>h x (by simp [b])
theorem Pl.lC{rs:List Pl.Rt}{q:Int×Int}{x:Pl.Rt}(h:Pl.getR rs q=some x):x∈rs/\x.p=q:=by
 induction rs with
 |nil=>cases h
 |cons e r a=>
  unfold Pl.getR at h;split at h
  ·rename_i g;cases h;exact⟨by simp,g⟩
  ·obtain⟨c,b⟩:=a h;exact⟨by simp [c],b⟩
theorem Pl.lT{rs:List Pl.Rt}(a:eY rs){x:Pl.Rt}(h:x∈rs):Pl.getR rs x.p=some x:=by
 induction rs with
 |nil=>simp at h
 |cons e r b=>
  unfold eY at a b;rw [oC]at a;unfold Pl.getR;rcases List.mem_cons.1 h with rfl|h
  ·rw [af rfl]
  ·rw [ag (Bc (a.1 x h))];exact b a.2 h
theorem Pl.zX{rs:List Pl.Rt}(a:eY rs)(q:Int×Int):Pl.getR rs q=if bu (rs.map Pl.Rt.p) q then some (Pl.rt rs (Pl.posP (rs.map Pl.Rt.p) q))else none:=by
 induction rs with
 |nil=>simp [Pl.getR,bu]
 |cons e r b=>
  unfold eY at a b;rw [oC]at a;unfold Pl.getR
  cases h:dw e.p q
  ·rw [qL,lH h];by_cases g:e.p=q
   ·simp [g,Pl.posP,kZ,Pl.rt]
   ·rw [ag g,ag (by simpa using g)];refine pV fun x c d=> ?_;have:=a.1 x c;rw [d,h]at this;cases this
  ·rw [ag (Bc h),qL,lG h,b a.2];simp [Pl.posP,h,KR]
theorem Pl.OV{rs:List Pl.Rt}(a:eY rs)(x:Pl.Rt)(q:Int×Int):Pl.getR (Pl.insR rs x) q=if x.p=q then some x else Pl.getR rs q:=by
 induction rs with
 |nil=>simp [Pl.insR,Pl.getR]
 |cons e r b=>
  unfold eY at a b;rw [oC]at a;unfold Pl.insR;split
  ·rename_i h;unfold Pl.getR;rw [b a.2];by_cases g:e.p=q
   ·rw [af g,af g,ag (by intro d;exact Bc h (g.trans d.symm))]
   ·rw [ag g,ag g]
  ·split
   ·rename_i f c;unfold Pl.getR;rw [c];by_cases g:x.p=q
    ·rw [af g,af g]
    ·rw [ag g,ag g,ag g]
   ·rfl
theorem Pl.FI:∀{a b:List Pl.Rt},eY a->eY b->(∀q,Pl.getR a q=Pl.getR b q)->a=b
 | [],[],_,_,_=>rfl
 | [],y::b,_,_,h=>by have:=h y.p;simp [Pl.getR]at this
 |x::a,[],_,_,h=>by have:=h x.p;simp [Pl.getR]at this
 |x::a,y::b,ha,c,h=>by
  have n:=h x.p;have m:=h y.p;have j:Pl.getR (x::a) x.p=some x:=by simp [Pl.getR]
  have f:Pl.getR (y::b) y.p=some y:=by simp [Pl.getR]
  have i:=lC (n.symm.trans j);have d:=lC (m.trans f);unfold eY at ha c;rw [oC]at ha c;have e:x=y:=by
   rcases List.mem_cons.1 i.1 with g|g
   ·exact g
   ·rcases List.mem_cons.1 d.1 with g2|g2
    ·exact g2.symm
    ·have o:=c.1 x g;have l:=ha.1 y g2;rw [F5 o]at l;cases l
  subst e;rw [FI ha.2 c.2 fun q=> ?_];by_cases g:x.p=q
  ·subst g;rw [pV fun r k e=> ?_,pV fun r k e=> ?_]
   ·have:=c.1 r k;rw [e,kZ]at this;cases this
   ·have:=ha.1 r k;rw [e,kZ]at this;cases this
  ·have:=h q;unfold Pl.getR at this;rwa [ag g,ag g]at this
theorem Pl.UE{a b:Pl.Rt}(h:a.p=b.p):(iY a b).p=b.p:=by
 unfold iY;split
 ·rfl
 ·split
  ·exact h
  ·exact h
theorem Pl.Yp(rs:List Pl.Rt)(r:Pl.Rt):(IU rs r).p=r.p:=by
 unfold IU;split
 ·rename_i h;refine UE ?_;have a:=xO h;have b:=jQ h;rw [qo rs _ (by simpa using b)]at a;exact a
 ·rfl
def Pl.more(o:Option Pl.Rt)(r:Pl.Rt):Pl.Rt:=match o with|none=>r|some a=>iY a r
theorem Pl.Vy{rs:List Pl.Rt}(a:eY rs)(r:Pl.Rt):IU rs r=Pl.more (Pl.getR rs r.p) r:=by
 unfold IU Pl.more;rw [zX a];split
 ·rfl
 ·rfl
theorem Pl.Ob{rs:List Pl.Rt}(a:eY rs)(r:Pl.Rt):eY (Bh rs r):=Gw a
theorem Pl.Zk{rs:List Pl.Rt}(a:eY rs)(r:Pl.Rt)(q:Int×Int):Pl.getR (Bh rs r) q=if r.p=q then some (Pl.more (Pl.getR rs q) r)else Pl.getR rs q:=by
 unfold Bh;rw [OV a,Yp];split
 ·rename_i h;rw [Vy a,h]
 ·rfl
theorem Pl.Yq(rs:List Pl.Rt)(r:Pl.Rt):(Bh rs r).length<=rs.length+1:=by
 unfold Bh;rw [Gx];split<;>omega
def Pl.Ep(C:Nat->Int)(H:Nat->List Int)(node n:Nat)(p:Int×Int):Pl.Rt:=⟨p,decide ((n:Int)=(node:Int)),C n,H n⟩
def Pl.yM(C:Nat->Int)(H:Nat->List Int)(node n:Nat)(rs:List Pl.Rt)(ps:List (Int×Int)):List Pl.Rt:=ps.foldl (fun rs p=>Bh rs (Ep C H node n p)) rs
def Pl.tabK(C:Nat->Int)(H:Nat->List Int)(P:Nat->List (Int×Int))(node:Nat):Nat->List Pl.Rt
 |0=> []
 |k+1=>if C k<0 then Pl.tabK C H P node k else yM C H node k (Pl.tabK C H P node k) (P k)
def Pl.qQ(C:Nat->Int)(H:Nat->List Int)(P:Nat->List (Int×Int))(node:Nat)(q:Int×Int):Nat->Option Pl.Rt
 |0=>none
 |k+1=>if C k<0\/¬q∈P k then qQ C H P node q k else some (Pl.more (qQ C H P node q k) (Ep C H node k q))
theorem Pl.Gg(C H node n):∀(ps:List (Int×Int)) (rs:List Pl.Rt),eY rs->eY (yM C H node n rs ps)
 | [],_,h=>h
 |_::ps,_,h=>Gg C H node n ps _ (Ob h _)
theorem Pl.Gh(C H node n):∀(ps:List (Int×Int)) (rs:List Pl.Rt),(yM C H node n rs ps).length<=rs.length+ps.length
 | [],_=>by simp [yM]
 |p::ps,rs=>by
  have b:=Gh C H node n ps (Bh rs (Ep C H node n p));have a:=Yq rs (Ep C H node n p);show(yM C H node n (Bh rs (Ep C H node n p)) ps).length<=_;simp only [List.length_cons];omega
theorem Pl.Bg(C H node n)(q:Int×Int):∀(ps:List (Int×Int)) (rs:List Pl.Rt),eY rs->ps.Nodup->Pl.getR (yM C H node n rs ps) q=if q∈ps then some (Pl.more (Pl.getR rs q) (Ep C H node n q))else Pl.getR rs q
 | [],rs,_,_=>by simp [yM]
 |p::ps,rs,h,a=>by
  rw [List.nodup_cons]at a;show Pl.getR (yM C H node n (Bh rs (Ep C H node n p)) ps) q=_;rw [Bg C H node n q ps _ (Ob h _) a.2,Zk h];show(if q∈ps then some (Pl.more (if p=q then _ else _) _)else if p=q then _ else _)=_;by_cases g:p=q
  ·subst g;rw [ag a.1,af rfl,af (by simp)]
  ·simp only [ag g];by_cases g2:q∈ps
   ·rw [af g2,af (by simp [g2])]
   ·rw [ag g2,ag (by simp [g2,Ne.symm g])]
theorem Pl.tq(C H P node):∀k,eY (Pl.tabK C H P node k)
 |0=>oP
 |k+1=>by
  unfold Pl.tabK;split
  ·exact tq C H P node k
  ·exact Gg _ _ _ _ _ _ (tq C H P node k)
theorem Pl.FD{C H P node}(hP:∀i,(P i).length<=6):∀k,(Pl.tabK C H P node k).length<=k*6
 |0=>by simp [Pl.tabK]
 |k+1=>by
  have a:=FD (C:=C) (H:=H) (node:=node) hP k;unfold Pl.tabK;split
  ·omega
  ·have:=Gh C H node k (P k) (Pl.tabK C H P node k);have:=hP k;omega
theorem Pl.wB{C H P node}(hP:∀i,(P i).Nodup)(q:Int×Int):∀k,Pl.getR (Pl.tabK C H P node k) q=qQ C H P node q k
 |0=>rfl
 |k+1=>by
  have a:=wB (C:=C) (H:=H) (node:=node) hP q k;unfold Pl.tabK qQ;by_cases g:C k<0
  ·rw [af g,af (.inl g)];exact a
  ·rw [ag g,Bg C H node k q _ _ (tq C H P node k) (hP k),a];by_cases g2:q∈P k
   ·rw [af g2,ag (by simp [g2];omega)]
   ·rw [ag g2,af (.inr g2)]
def Pl.Xp(r:Pl.Rt):Prop:=dW r=true/\r.here=decide (r.cost=0)
theorem Pl.ja(r:Pl.Rt):dW r=true↔iH r.p=0/\(0<=r.cost/\r.cost<=1048576)/\(if r.here then r.cost=0/\r.aH= []else r.aH≠ [])/\fP r.aH=true:=by
 unfold dW
 cases r.here<;>simp [and_assoc]
theorem Pl.ZK{a b:Pl.Rt}(ha:Xp a)(i:Xp b):Xp (iY a b):=by
 unfold iY;split
 ·exact i
 ·split
  ·rename_i m l;obtain⟨f,d⟩:=ha;obtain⟨c,h⟩:=i;rw [ja]at f c;obtain⟨a1,a2,a3,a4⟩:=f;obtain⟨b1,n,b3,b4⟩:=c;refine⟨(ja _).2 ⟨a1,a2,?_,Fa _ (Nat.le_refl _)⟩,d⟩;show if a.here then a.cost=0/\sW a.aH b.aH= []else sW a.aH b.aH≠ []
   cases hh:a.here
   ·rw [hh]at a3;simp only [Bool.false_eq_true,if_false]at a3⊢;intro e;obtain⟨x,xs,j⟩:∃x xs,a.aH=x::xs:=by
     cases k:a.aH with
     |nil=>exact absurd k a3
     |cons x xs=>exact⟨x,xs,rfl⟩
    have:x∈sW a.aH b.aH:=(yj (fO a4) (fO b4)).2 (.inl (by rw [j];simp));rw [e]at this;simp at this
   ·rw [hh]at a3;simp only [if_true]at a3⊢;have g:b.here=true:=by rw [h,l,<-d,hh]
    rw [g]at b3;simp only [if_true]at b3;refine⟨a3.1,?_⟩;rw [a3.2,b3.2];decide
  ·exact ha
theorem Pl.Ue{o:Option Pl.Rt}{r:Pl.Rt}(c:∀a,o=some a->Xp a)(b:Xp r):Xp (Pl.more o r):=by
 cases o with
 |none=>exact b
 |some a=>exact ZK (c a rfl) b
def Pl.WP(C:Nat->Int)(H:Nat->List Int)(P:Nat->List (Int×Int))(node:Nat):Prop:=∀n,n<12->0<=C n->∀p∈P n,Xp (Ep C H node n p)
theorem Pl.BJ{C H P node}(h:Pl.WP C H P node)(q:Int×Int):∀k,k<=12->∀a,qQ C H P node q k=some a->Xp a/\a.p=q
 |0,_,a,e=>by cases e
 |k+1,f,a,e=>by
  have c:=BJ h q k (by omega);unfold qQ at e;split at e
  ·exact c a e
  ·rename_i g
   cases e;have g1:0<=C k:=by omega
   have g2:q∈P k:=xh fun h=>g (.inr h);refine⟨Ue (fun a ha=>(c a ha).1) (h k (by omega) g1 q g2),?_⟩
   cases d:qQ C H P node q k with
   |none=>rfl
   |some b=>exact UE ((c b d).2)
theorem Pl.U5{C H P node}(h:Pl.WP C H P node)(d:∀i,(P i).Nodup)(hl:∀i,(P i).length<=6)(k:Nat)(e:k<=12):aaz (Pl.tabK C H P node k)/\∀r∈Pl.tabK C H P node k,Xp r:=by
 have a:∀r∈Pl.tabK C H P node k,Xp r:=by
  intro r b;have c:=lT (tq C H P node k) b;rw [wB d]at c;exact(BJ h r.p k e r c).1
 exact⟨⟨by have:=FD (C:=C) (H:=H) (node:=node) hl k;omega,fun r b=>(a r b).1,tq C H P node k⟩,a⟩
end Go.Proofs.YtjjelkdajdeikaaGreatDoor
