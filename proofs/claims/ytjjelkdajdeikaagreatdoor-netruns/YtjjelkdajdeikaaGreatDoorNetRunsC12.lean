/-
  Facts put together.
-/
import Derived.Test.YtjjelkdajdeikaaGreatDoorNetRunsC10
import Derived.Test.YtjjelkdajdeikaaGreatDoorShelfC
import Derived.Laws.EntriesVeiled
open Go.Proofs.Tryz renaming prog→oC,underlying3→BG,underlying89→Uz,underlying22→UQ,zeroCells92→Wq,underlying9→WZ,laysGg6→aab,f158→aak,f113→aal
open Go renaming World→oP,Value→qh,undef→xn,getD_set_ne→BD,bodyPost_ret→GM,maxLen→OO,Calls→Pe,TypeId→Rz,wpList_append_own→X6
open Nat renaming le_refl→qL,le_trans→Iy,lt_or_ge→OG,lt_of_lt_of_le→UX,zero_add→aaf,add_zero→aag
open Go.RowKit.Below renaming refl→rU
open Go.RowKit renaming Below→xh,Hid→OE,intOf→SQ
open List renaming getElem?_append_right→xk,getElem?_append_left→Ah,range→Eb,getD→Ee,getD_eq_getElem?_getD→Jj,getElem?_take_of_lt→LM,getElem?_cons_succ→MJ,getElem?_drop→OM,mem_map→PW,length_take→Qe,length_append→Tn,length_range→VB,length_map→Xh
open Go.Oper renaming wp→xx
open Go.World.ownsRow renaming lt→GX,alloc→Qi,kept→aae
open Go.DataW renaming trod_int→IA,trod_string→Tq
open Go.Value renaming nilFunc→Jk,ownBlock→Rq,cells→Z5
open Option.some renaming inj→OI,injEq→aam
open Go.World renaming ownsRow_nil→O6,cells?_some→Tf,cell?→Zf
open Go.Lib renaming swapperK→Qd,decDigits→aac
open ByteArray renaming size_append→Ru
open Go.Extern.ReflectliteSwapper renaming swap→Rw
open Or renaming inl→SN
open Prod.mk renaming injEq→Xc
open Go.Instr renaming index→aad
open Go.Code renaming region→aah
open Go.Value.slice renaming injEq→aaj
set_option maxHeartbeats 8000000
namespace Go.Proofs.YtjjelkdajdeikaaGreatDoor
open Pl
open Go.RowKit
set_option maxRecDepth 20000
noncomputable def swB(g n c:Nat):Array qh:=#[.slice (some ⟨g,0,none⟩) n c,typeHandle oC 49]
theorem XK(base g n c:Nat)(ps:List (Int×Int))(W:oP)(h:bJ W base (.slice (some ⟨g,0,none⟩) n c) ps)(i j:Nat)(r:i<n)(q:j<n):
  (callFunc 243 (#[.int .i64 i,.int .i64 j]++swB g n c)).run oC W= .ok (.value (.tuple #[])) ((W.setCells g (i*2) [.int .i64 (Pl.pr ps j).1,.int .i64 (Pl.pr ps j).2]).setCells g (j*2) [.int .i64 (Pl.pr ps i).1,.int .i64 (Pl.pr ps i).2]):=by
 obtain⟨hl,_,_,_,l,m⟩:=h.vG;obtain⟨p,o,u,d,s⟩:=partsOf kG;have w:=fun args W=>run_callFunc_extern (P:=oC) Tryz.func243 (by kernel_rfl) (by kernel_rfl) (by kernel_rfl) (e:=Rw false) (by kernel_rfl) args W;have b:∀t,t<n->∀k v,([.int .i64 (Pl.pr ps t).1,.int .i64 (Pl.pr ps t).2]:List qh)[k]? =some v->W.cell? ⟨g,0+t*p.size+k,none⟩=some v:=by
  intro t y k v a;obtain⟨c0,c1⟩:=l t (by omega);rw [d];match k,a with
  |0,a=>simp at a;subst a;exact c0
  |1,a=>simp at a;subst a;exact c1
  |k+2,a=>simp at a
 have f:∀t,∀v∈([.int .i64 (Pl.pr ps t).1,.int .i64 (Pl.pr ps t).2]:List qh),v.oneCell'=true:=by
  intro t v a;simp at a;rcases a with rfl|rfl<;>rfl
 have x:=Lib.run_swap_cells (P:=oC) false 49 p o (fun _=>by kernel_rfl) g 0 n c i j r q [.int .i64 (Pl.pr ps i).1,.int .i64 (Pl.pr ps i).2] [.int .i64 (Pl.pr ps j).1,.int .i64 (Pl.pr ps j).2] (by rw [d];rfl) (by rw [d];rfl) (f i) (f j) W (b i r) (b j q) (fun k _=>m _) (fun k _=>m _);rw [w,show(#[Value.int .i64 (i:Int),.int .i64 (j:Int)]++swB g n c)=#[.int .i64 i,.int .i64 j,.slice (some ⟨g,0,none⟩) n c,typeHandle oC 49]from rfl,x,d,aaf,aaf];rfl
theorem BV{B:Nat}{a w:oP}{o:Nat}(h:aI B a w)(b:List qh):aI B a (w.setCells B o b):=aI.setCells _ o _ h
theorem Pl.Um:∀(ps:List (Int×Int)) (p:Int×Int) (j:Nat),j<=ps.length->(∀t,t<j->dw p (Pl.pr ps t)=false)->(j<ps.length->dw p (Pl.pr ps j)=true)->Pl.insP ps p=ps.take j++p::ps.drop j
 | [],p,j,a,_,_=>by
  have:j=0:=by simpa using a
  subst this;rfl
 |q::r,p,0,_,_,h=>by
  have h0:dw p q=true:=by simpa [Pl.pr]using h (by simp)
  show(if dw p q then p::q::r else q::Pl.insP r p)=_;rw [af h0];rfl
 |q::r,p,j+1,a,b,c=>by
  have h0:dw p q=false:=by simpa [Pl.pr]using b 0 (by omega)
  show(if dw p q then p::q::r else q::Pl.insP r p)=_;rw [ag (by simp [h0]),Um r p j (by simpa using a) (fun t d=>by have:=b (t+1) (by omega);rwa [lN]at this) (fun h=>by have:=c (by simpa using h);rwa [lN]at this)];rfl
def Pl.down(ps:List (Int×Int))(p:Int×Int)(j:Nat):List (Int×Int):=ps.take j++p::ps.drop j
theorem Pl.abH{ps:List (Int×Int)}{p:Int×Int}{j:Nat}(a:j<=ps.length):Pl.pr (Pl.down ps p j) j=p:=by
 have:j=(ps.take j).length:=by simp;omega
 unfold Pl.down Pl.pr;rw [Jj,xk (by simp;omega)];simp [show j-min j ps.length=0 by omega]
theorem Pl.Wi{ps:List (Int×Int)}{p:Int×Int}{j:Nat}(a:j<ps.length):Pl.pr (Pl.down ps p (j+1)) j=Pl.pr ps j:=by
 unfold Pl.down Pl.pr;rw [Jj,Jj,Ah (by simp;omega),LM (by omega)]
theorem Pl.Wh{ps:List (Int×Int)}{p:Int×Int}{j:Nat}(a:j<ps.length):((Pl.down ps p (j+1)).set (j+1) (Pl.pr ps j)).set j p=Pl.down ps p j:=by
 unfold Pl.down;refine List.ext_getElem? fun t=> ?_;simp only [List.getElem?_set,Tn,List.length_cons,Qe,List.length_drop,List.length_set];have b:=jI ps j a;rcases Nat.lt_trichotomy t j with h|h|h
 ·rw [ag (by omega),ag (by omega),Ah (by simp;omega),Ah (by simp;omega),LM (by omega),LM h]
 ·subst h;rw [af rfl,af (by omega),xk (by simp;omega)];simp [show t-min t ps.length=0 by omega]
 ·rw [ag (by omega)];rcases OG (j+1) t with g|g
  ·rw [ag (by omega),xk (by simp;omega),xk (by simp;omega)];simp only [Qe];rw [show t-min (j+1) ps.length=(t-j-2)+1 by omega,show t-min j ps.length=(t-j-1)+1 by omega,MJ,MJ,OM,OM];congr 1;omega
  ·obtain rfl:t=j+1:=by omega
   rw [af rfl,af (by omega),xk (by simp;omega)];simp only [Qe];rw [show j+1-min j ps.length=0+1 by omega,MJ,OM,aag,List.getElem?_eq_getElem a,b]
theorem Oy(ps:List (Int×Int))(p:Int×Int)(base g y n c:Nat)(w:oP)(o:bJ w base (.slice (some ⟨g,0,none⟩) n c) (ps++ [p]))(E:2<=n)(h9:n<=1000)
  (m:w.heap[y]? =some (.cells #[.slice (some ⟨g,0,none⟩) n c] 29))(z:ps.Pairwise fun a b=>dw a b=true):
  Pe oC 244 #[.agg #[.func (.func 188) #[] #[.pointer (some ⟨y,0,none⟩)],.func (.func 243) #[] (swB g n c)],.int .i64 0,.int .i64 n] w fun e w'=>
   e= .returned (.tuple #[])/\bJ w' base (.slice (some ⟨g,0,none⟩) n c) (Pl.insP ps p)/\aI g w w':=by
 obtain⟨hl,hc,hm,hg,_,_⟩:=o.vG;have iO:OE (ps.length+1=n):=ae (by simpa using hl);clear hl;have N:=ae o;have X:=aG m;have aa:y≠g:=by
  rintro rfl;obtain⟨_,⟨e,_⟩|⟨g',an,cur,e,r,hh,_⟩⟩:=o
  ·cases e
  ·simp only [aaj,aam,Addr.mk.injEq,and_true]at e;obtain⟨rfl,_,_⟩:=e;rw [m]at hh;simp at hh
 have ad:=ae m;have Xj:OE (∀i j,i<j->j<ps.length->dw (Pl.pr ps i) (Pl.pr ps j)=true):=ae fun i j Z R=>by
  have:=List.pairwise_iff_getElem.1 z i j (by omega) R Z;rwa [<-jI ps i (by omega),<-jI ps j R]at this
 have K:OE (∀(W:oP) (rs:List (Int×Int)) (i j:Nat),bJ W base (.slice (some ⟨g,0,none⟩) n c) rs->aI g w W->i<n->j<n->Pe oC 188 #[.int .i64 i,.int .i64 j,.pointer (some ⟨y,0,none⟩)] W fun e w'=>e= .returned (.bool (dw (Pl.pr rs i) (Pl.pr rs j)))/\xh W.heap.size W w'):=ae fun W rs i j ho r hi R=>by
  obtain⟨q1,q2,q3,q4,q5,_⟩:=ho.vG;have hv:=(r.block y X aa).trans ad.out;exact Zy rs g y n c i j W q1 q2 q3 q4 (aG hv) q5 (by simp [Zf,hv]) hi R
 clear o m z;obtain⟨A,u⟩:=aV (w.alloc (.cells #[.func (.func 188) #[] #[.pointer (some ⟨y,0,none⟩)],.func (.func 243) #[] (swB g n c)] 267));have x:OE (xh w.heap.size w A):=ae (by rw [u.out];exact(rU _ _).alloc (qL _) _);have V:OE (A.heap[w.heap.size]? =some (.cells #[.func (.func 188) #[] #[.pointer (some ⟨y,0,none⟩)],.func (.func 243) #[] (swB g n c)] 267)):=ae (by rw [u.out];exact bW _ _);have aq:A.heap.size=w.heap.size+1:=by rw [u.out];simp
 have C:w.heap.size≠g:=by omega
 go_enter Tryz.func244,Tryz.ntmps244;go_wp2_with (rw [<-u.out]);go_loopw [6] (fun U wr=>∃(i:Nat) (rs:List (Int×Int)),U= .int .i64 i/\1<=i/\i<=n/\OE (bJ wr base (.slice (some ⟨g,0,none⟩) n c) rs)/\OE (aI g A wr)/\OE ((i<n/\rs=ps++ [p])\/(i=n/\rs=Pl.insP ps p))) (fun U _=>n-(SQ U).toNat)
 case atStart=>exact⟨1,ps++ [p],rfl,by omega,by omega,ae (N.out.below x.out),ae (aI.refl _ _),ae (.inl ⟨by omega,rfl⟩)⟩
 case round=>
  obtain⟨i,rs,rfl,aD,ay,l,k,v⟩:=hrel;by_cases B:i<n
  ·have Q:OE (rs=ps++ [p]):=ae (by rcases v.out with⟨_,e⟩|⟨e,_⟩;(exact e);omega);clear v;have H:(i:Int)<(n:Int):=by omega
   rw [Q.out]at l;clear Q;have f:=(k.out.block w.heap.size (by omega) C).trans V.out;have L:=ae f;have IG:=k.out.size;by_cases s:i+1<n
   ·have HL:OE (dw (Pl.pr (ps++ [p]) i) (Pl.pr (ps++ [p]) (i-1))=false):=ae (by
     have:=iO.out;rw [tK _ _ _ (by omega),tK _ _ _ (by omega)];exact F5 (Xj.out (i-1) i (by omega) (by omega)))
    go_wp2_with fail;go_loopw [7] (fun F d=>F= .int .i64 i/\OE (bJ d base (.slice (some ⟨g,0,none⟩) n c) (ps++ [p]))/\OE (aI g A d)) (fun _ _=>0)
    case atStart=>exact⟨rfl,l,k⟩
    case round=>
     clear l k f L IG;obtain⟨rfl,l,k⟩:=hrel;rename oP=>d
     have f:=(k.out.block w.heap.size (by omega) C).trans V.out;obtain⟨c0,c1,_,_,G⟩:=aQ f;have hl:=K.out d (ps++ [p]) i (i-1) l.out (aI.trans (aI.of x.out) k.out) B (by omega);rw [HL.out,show(((i-1:Nat):Int))=(i:Int)-1 by omega]at hl;have P:=ae hl;have aE:(0:Int)<(i:Int):=by omega
     clear hl f;go_wp2_with (go_at_call 188;refine P.out.mono ?_;rintro e w' ⟨rfl,r⟩);go_roundw
     case rel=>exact⟨i+1,ps++ [p],by go_num,by omega,by omega,ae (l.out.below r),ae (k.out.trans (aI.of r)),ae (.inl ⟨s,rfl⟩)⟩
     case measure=>simp [SQ];omega
   ·have D:OE (i=ps.length):=ae (by have:=iO.out;omega);have O:OE (i+1=n):=ae (by omega);have Tm:OE (ps++ [p]=Pl.down ps p i):=ae (by rw [D.out];unfold Pl.down;simp);rw [Tm.out]at l;clear s;go_wp2_with fail;go_loopw [7] (fun F d=>∃j:Nat,F= .int .i64 j/\j<=i/\OE (bJ d base (.slice (some ⟨g,0,none⟩) n c) (Pl.down ps p j))/\OE (aI g A d)/\OE (∀t,j<=t->t<i->dw p (Pl.pr ps t)=true)) (fun F _=>(SQ F).toNat)
    case atStart=>exact⟨i,rfl,qL _,l,k,ae (fun t S E=>by omega)⟩
    case round=>
     clear l k f L IG;obtain⟨j,rfl,av,l,k,M⟩:=hrel;rename oP=>d
     have f:=(k.out.block w.heap.size (by omega) C).trans V.out;obtain⟨c0,c1,_,_,G⟩:=aQ f;have J:OE ((∀t,t<j->dw p (Pl.pr ps t)=false)->Pl.insP ps p=Pl.down ps p j):=ae fun h=>Um ps p j (by have:=D.out;omega) h fun h'=>M.out j (qL _) (by have:=D.out;omega);clear f;by_cases I:j=0
     ·have HE:OE (Pl.insP ps p=Pl.down ps p j):=ae (J.out fun t h=>by omega);have ar:¬(0:Int)<(j:Int):=by omega
      clear I;go_wp2_with fail;go_roundw
      case rel=>exact⟨i+1,_,by go_num,by omega,by omega,l,k,ae (.inr ⟨O.out,HE.out.symm⟩)⟩
      case measure=>simp [SQ];omega
     ·have aw:(0:Int)<(j:Int):=by omega
      have hl:=K.out d (Pl.down ps p j) j (j-1) l.out (aI.trans (aI.of x.out) k.out) (by omega) (by omega);have e1:Pl.pr (Pl.down ps p j) j=p:=abH (by have:=D.out;omega);have e2:Pl.pr (Pl.down ps p j) (j-1)=Pl.pr ps (j-1):=by
       have:=Wi (ps:=ps) (p:=p) (j:=j-1) (by have:=D.out;omega);rwa [show j-1+1=j by omega]at this
      have UT:=ae e1;have ak:=ae e2;rw [e1,e2,show(((j-1:Nat):Int))=(j:Int)-1 by omega]at hl;obtain⟨b,T⟩:=ai (dw p (Pl.pr ps (j-1)));rw [T.out]at hl;have P:=ae hl;clear hl I e1 e2
      cases b with
      |true=>
       go_wp2_with (go_at_call 188;refine P.out.mono ?_;rintro e w' ⟨rfl,r⟩;have aL:=(r.cell (p:=⟨w.heap.size,1,none⟩) G).trans c1);have Y:=XK base g n c (Pl.down ps p j) w' (l.out.below r) j (j-1) (by omega) (by omega);rw [UT.out,ak.out,show(((j-1:Nat):Int))=(j:Int)-1 by omega]at Y;rw [Y,Oper.upon_value];clear Y;go_wp2_with fail;go_roundw
       case rel=>
        refine⟨j-1,by congr 1;omega,by omega,ae ?_,ae ?_,ae ?_⟩
        ·have S:=bJ.set (bJ.set (l.out.below r) j (Pl.pr ps (j-1))) (j-1) p;have E:=Wh (ps:=ps) (p:=p) (j:=j-1) (by have:=D.out;omega);rw [show j-1+1=j by omega]at E;rw [E]at S;exact S
        ·exact BV (BV (k.out.trans (aI.of r)) _) _
        ·intro t S E;rcases OG t j with q|q
         ·obtain rfl:t=j-1:=by omega
          exact T.out
         ·exact M.out t q E
       case measure=>simp [SQ];omega
      |false=>
       have HE:OE (Pl.insP ps p=Pl.down ps p j):=ae (J.out fun t h=>by
        cases hh:dw p (Pl.pr ps t)
        ·rfl
        ·exfalso;rcases OG t (j-1)with q|q
         ·have:=qp hh (Xj.out t (j-1) q (by have:=D.out;omega));rw [T.out]at this;cases this
         ·obtain rfl:t=j-1:=by omega
          rw [T.out]at hh;cases hh)
       go_wp2_with (go_at_call 188;refine P.out.mono ?_;rintro e w' ⟨rfl,r⟩);go_roundw
       case rel=>exact⟨i+1,_,by go_num,by omega,by omega,ae (l.out.below r),ae (k.out.trans (aI.of r)),ae (.inr ⟨O.out,HE.out.symm⟩)⟩
       case measure=>simp [SQ];omega
  ·have Q:OE (i=n/\rs=Pl.insP ps p):=ae (by rcases v.out with⟨e,_⟩|e;(exact absurd e B);exact e);have H:¬(i:Int)<(n:Int):=by omega
   clear v B;go_wp2_with fail;go_end0
   exact⟨rfl,by rw [<-Q.out.2];exact l.out,(aI.of x.out:aI g w A).trans k.out⟩
theorem Yi(ps:List (Int×Int))(p:Int×Int)(base g k n c:Nat)(lim:Int)(w:oP)(h:bJ w base (.slice (some ⟨g,0,none⟩) n c) (ps++ [p]))(t:2<=n)(u:n<=12)
  (d:w.heap[k]? =some (.cells #[.slice (some ⟨g,0,none⟩) n c] 29))(i:ps.Pairwise fun a b=>dw a b=true):
  Pe oC 214 #[.agg #[.func (.func 188) #[] #[.pointer (some ⟨k,0,none⟩)],.func (.func 243) #[] (swB g n c)],.int .i64 0,.int .i64 n,.int .i64 lim] w fun e w'=>
   e= .returned (.tuple #[])/\bJ w' base (.slice (some ⟨g,0,none⟩) n c) (Pl.insP ps p)/\aI g w w':=by
 obtain⟨m,j⟩:=aV (w.alloc (.cells #[.func (.func 188) #[] #[.pointer (some ⟨k,0,none⟩)],.func (.func 243) #[] (swB g n c)] 267));have f:xh w.heap.size w m:=by rw [j.out];exact(rU _ _).alloc (qL _) _
 have r:=ae f;have x:=ae (Oy ps p base g k n c m (h.below f) t (by omega) ((f.block _ (aG d)).trans d) i);have v:(n:Int)<=12:=by omega
 clear h d i f;go_enter Tryz.func214,Tryz.ntmps214;go_wp2_with (rw [<-j.out]);refine wp_loop_rounds 1 ?_;rw [rounds_succ];have l:m.heap[w.heap.size]? =some (.cells #[.func (.func 188) #[] #[.pointer (some ⟨k,0,none⟩)],.func (.func 243) #[] (swB g n c)] 267):=by rw [j.out];exact bW _ _
 obtain⟨c0,c1,_,_,s⟩:=aQ l;clear l;go_wp2_with (go_at_call 244;refine x.out.mono ?_;rintro e w' ⟨rfl,o,q⟩)
 (try simp only [Exit.inBlock,Exit.then])
 refine GM (results_none rfl _ _ _) rfl ?_;exact⟨rfl,o,(aI.of r.out:aI g w m).trans q⟩
theorem acD:∃i,Tryz.prog.info? 29=some i/\i.desc= .slice 49:=⟨(Tryz.prog.info? 29).get (by kernel_rfl),by kernel_rfl,by kernel_rfl⟩
theorem acE:∃i,Tryz.prog.info? 49=some i/\i.hasPointers=false/\i.bytes=16:=⟨(Tryz.prog.info? 49).get (by kernel_rfl),by kernel_rfl,by kernel_rfl,by kernel_rfl⟩
theorem KG(n:Nat)(b:2<=n)(a:TypeInfo)(h:a.hasPointers=false/\a.bytes=16):Qd n a 25=9:=by
 have c:(n==0)=false:=by simp;omega
 have d:(n==1)=false:=by simp;omega
 simp [Qd,h.1,h.2,c,d]
theorem IM(ps:List (Int×Int))(p:Int×Int)(base g k n c:Nat)(w:oP)(h:bJ w base (.slice (some ⟨g,0,none⟩) n c) (ps++ [p]))(r:2<=n)(q:n<=12)
  (f:w.heap[k]? =some (.cells #[.slice (some ⟨g,0,none⟩) n c] 29))(j:ps.Pairwise fun a b=>dw a b=true):
  Pe oC 187 #[.iface 29 (.slice (some ⟨g,0,none⟩) n c),.func (.func 188) #[] #[.pointer (some ⟨k,0,none⟩)]] w fun e w'=>
   e= .returned (.tuple #[])/\(bJ w' base (.slice (some ⟨g,0,none⟩) n c) (Pl.insP ps p)/\aI g w w'):=by
 obtain⟨i,u,v⟩:=acD;obtain⟨l,m,hp,x⟩:=acE;have t:=KG n r l ⟨hp,x⟩;have y:sliceBound oC 49 l 25 (some ⟨g,0,none⟩) n c=swB g n c:=by
  unfold sliceBound swB;rw [ag (by omega)]
 have d:xh w.heap.size w (sliceWorld oC Tryz.laysGg6_ren 29 (some ⟨g,0,none⟩) n c w):=by
  unfold sliceWorld;exact((rU _ _).alloc (qL _) _).alloc (by simp) _
 refine Any.sort_Slice_of_pdq aab 29 49 i l u v (by kernel_rfl) m 25 (fun _=>by kernel_rfl) (some ⟨g,0,none⟩) n c (by omega) 243 (by rw [t];kernel_rfl) (.func 188) #[] #[.pointer (some ⟨k,0,none⟩)] w (fun w'=>bJ w' base (.slice (some ⟨g,0,none⟩) n c) (Pl.insP ps p)/\aI g w w') ?_;rw [y];refine(Yi ps p base g k n c _ _ (h.below d) r q ((d.block _ (aG f)).trans f) j).mono ?_;rintro e w' ⟨rfl,s,o⟩;exact⟨rfl,s,(aI.of d:aI g w _).trans o⟩
theorem IL(g n c b:Nat)(l:n<=1)(w:oP)(f:n=1):
  Pe oC 187 #[.iface 29 (.slice (some ⟨g,0,none⟩) n c),.func (.func 188) #[] #[.pointer (some ⟨b,0,none⟩)]] w fun e w'=>e= .returned (.tuple #[])/\xh w.heap.size w w':=by
 obtain⟨i,j,k⟩:=acD;obtain⟨d,a,hp,m⟩:=acE;have h:Qd n d 25=2:=by subst f;simp [Qd]
 refine(Any.sort_Slice_tiny aab 29 49 i d j k (by kernel_rfl) a 25 (fun _=>by kernel_rfl) (some ⟨g,0,none⟩) n c l 236 (by rw [h];kernel_rfl) (.func 188) #[] #[.pointer (some ⟨b,0,none⟩)] w).mono ?_;rintro e w' ⟨rfl,os,rfl⟩;exact⟨rfl,Ie w 0 os⟩
def YV(base:Nat)(ps:List (Int×Int))(p:Int×Int)(va:qh)(j:Nat)(u:qh)(W:oP):Prop:=
 if j=0 then(∃X z,u= .pointer (some ⟨X,0,none⟩)/\base<=X/\W.heap[X]? =some (.cells #[z] 29))
 else if j=1 then u=va
 else if j=2 then bJ W base u ps
 else if j=3 then u= .agg #[.int .i64 p.1,.int .i64 p.2]
 else if j=4 then(∃b,u= .slice (some ⟨b,0,none⟩) 1 1/\W.heap[b]? =some (.cells #[.int .i64 p.1,.int .i64 p.2] 49))
 else True
theorem YV.grow{base ps p e}{W m:oP}(c:xh W.heap.size W m):∀q u,YV base ps p e q u W->YV base ps p e q u m:=by
 intro q u h;unfold YV at h⊢;by_cases l:q=0
 ·rw [af l]at h⊢;obtain⟨X,z,d,a,f⟩:=h;exact⟨X,z,d,a,(c.block _ (aG f)).trans f⟩
 rw [ag l]at h⊢;by_cases k:q=1
 ·rw [af k]at h⊢;exact h
 rw [ag k]at h⊢;by_cases j:q=2
 ·rw [af j]at h⊢;exact aU.below h c
 rw [ag j]at h⊢;by_cases i:q=3
 ·rw [af i]at h⊢;exact h
 rw [ag i]at h⊢;by_cases g:q=4
 ·rw [af g]at h⊢;obtain⟨b,d,a⟩:=h;exact⟨b,d,(c.block _ (aG a)).trans a⟩
 rw [ag g];trivial
theorem YV.four{base ps p a}{u:qh}{W:oP}(h:YV base ps p a 4 u W):∃b,u= .slice (some ⟨b,0,none⟩) 1 1/\W.heap[b]? =some (.cells #[.int .i64 p.1,.int .i64 p.2] 49):=by
 unfold YV at h;rwa [ag (by decide),ag (by decide),ag (by decide),ag (by decide),af rfl]at h
def ahM(k:Nat):Option Nat:=([some 1,some 2,some 3,some 4,some 5,some 0,none]:List (Option Nat)).getD k none
def YB(w0:oP)(ps:List (Int×Int))(p:Int×Int)(a0:Act)(listed:Array Bool)(a:Act)(W:oP):Prop:=
 listed.getD 4 false=true/\listed.size=7/\(listed.getD 5 false=false->listed.getD 6 false=false)/\∃xs:List qh,xs.length=6/\a={a0 with tmps:=setFrom a0.tmps 5 xs}/\xh w0.heap.size w0 W/\bJ W w0.heap.size (xs.getD 5 xn) (ps++ [p])/\
  (listed.getD 5 false=true->∃X z,xs.getD 0 xn= .pointer (some ⟨X,0,none⟩)/\w0.heap.size<=X/\W.heap[X]? =some (.cells #[z] 29)/\(listed.getD 6 false=true->z=xs.getD 5 xn))
def ai8(w0:oP)(ps:List (Int×Int))(p:Int×Int)(va:qh)(a0:Act)(listed:Array Bool)(a:Act)(W:oP):Prop:=
 (listed.getD 4 false=false/\kC a0 5 6 7 ahM (YV w0.heap.size ps p va) (fun W=>xh w0.heap.size w0 W) listed a W)\/YB w0 ps p a0 listed a W
theorem QO{w w':oP}{X base:Nat}{v:qh}{ps:List (Int×Int)}{cs:Array qh}(h:bJ w base v ps)(k:aI X w w')(a:w.heap[X]? =some (.cells cs 29)):bJ w' base v ps:=
 kF h k (by intro cur m e;rw [a]at e;simp at e)
theorem ZH{w:oP}{b:Nat}{c0:qh}{T:Rz}(h:w.heap[b]? =some (.cells #[c0] T)):w.cell? ⟨b,0,none⟩=some c0/\w.frozen? ⟨b,0,none⟩=false/\b<w.heap.size:=by
 refine⟨?_,?_,aG h⟩
 ·simp [Zf,h]
 ·simp [World.frozen?,h]
theorem ZI{w:oP}{b:Nat}{c0:qh}{T:Rz}(h:w.heap[b]? =some (.cells #[c0] T))(v:qh):(w.setCell ⟨b,0,none⟩ v).heap[b]? =some (.cells #[v] T):=by
 have:=aG h;simp [World.setCell,Array.getElem?_modify,h]
theorem Yu{Q:Exit->Act->oP->Prop}{a0:Act}{m:oP}{pb len cap:Nat}{ao:Option Addr}{ps:List (Int×Int)}{p:Int×Int}
  (V:a0.tmps.size=16)(q0:a0.tmps[0]?.getD xn= .slice ao len cap)(q3:a0.tmps[3]?.getD xn= .pointer (some ⟨pb,0,none⟩))
  (K:pb<m.heap.size)(P0:m.cell? ⟨pb,0,none⟩=some (.int .i64 p.1))(P1:m.cell? ⟨pb,1,none⟩=some (.int .i64 p.2))(HP:di m ao len cap ps)(hl:len<=1000)(hn:ao=none->len=0)
  (hQ:∀xs W X,xs.length=6->xs.getD 0 xn= .pointer (some ⟨X,0,none⟩)->m.heap.size<=X->bJ W m.heap.size (xs.getD 5 xn) (ps++ [p])->W.heap[X]? =some (.cells #[xs.getD 5 xn] 29)->xh m.heap.size m W->Q .normal {a0 with tmps:=setFrom a0.tmps 5 xs} W):
  ∀ops,dX aak 1=some ops->(aah 1 ops true).wp oC Q a0 m:=by
 intro ops aH;have P:=OI (aH.symm.trans (rfl:dX aak 1=some _));subst P;clear aH;have s:5+6<=a0.tmps.size:=by omega
 have an:=HP.1;refine wp_region_any (by kernel_rfl) ?_;refine cO (ai8 m ps p (.slice ao len cap) a0) ?_ ?_ _ _ _ _ (by decide+kernel) ?_ (bn _ _ _)
 ·rintro i listed H W hi J hinv;rw [mem_ready]at hi;obtain⟨L,o,D,d⟩:=hi;have sN:i<7:=(Array.getElem?_eq_some_iff.1 D).1;have M:i=0\/i=1\/i=2\/i=3\/i=4\/i=5\/i=6:=by omega
  rcases hinv with⟨r,a⟩|hB
  ·have h6:listed.getD 6 false=false:=by
    cases h:listed.getD 6 false with
    |false=>rfl
    |true=>
     have e:=J 6 _ rfl h ⟨4,.data⟩ (by simp) rfl;rw [r]at e
     cases e
   have x:∀k,k≠4->(listed.setIfInBounds k true).getD 4 false=false:=fun k Z=>by rw [BD false Z];exact r
   have o0:=(a.out (k:=0) (by omega)).trans q0;have o3:=(a.out (k:=3) (by omega)).trans q3;have p0:=(a.cw.cell (p:=⟨pb,0,none⟩) K).trans P0;have p1:=(a.cw.cell (p:=⟨pb,1,none⟩) K).trans P1;rcases M with rfl|rfl|rfl|rfl|rfl|rfl|rfl
   all_goals
    simp at D;subst D;refine au rfl rfl ?_
   ·simp [xx,go_sem,o0];exact SN ⟨x 0 (by decide),a.put (i:=0) (j:=1) rfl (by omega) (fun _ _ h=>h) rfl a.cw⟩
   ·have e6:H.tmps[6]?.getD xn= .slice ao len cap:=a.at (k:=0) (j:=1) s rfl (by omega) (d ⟨0,.data⟩ (by simp) rfl);simp [xx,go_sem,e6];refine(TE ao len cap ps W (HP.below a.cw) (by omega) hn).mono ?_;rintro e W' ⟨v,rfl,hv,w⟩;exact SN ⟨x 1 (by decide),a.put (i:=1) (j:=2) rfl (by omega) (YV.grow w) (aU.mono hv a.cw.size) (a.cw.trans (w.mono a.cw.size))⟩
   ·simp [xx,go_sem,o3,p0,p1];exact SN ⟨x 2 (by decide),a.put (i:=2) (j:=3) rfl (by omega) (fun _ _ h=>h) rfl a.cw⟩
   ·have e8:H.tmps[8]?.getD xn= .agg #[.int .i64 p.1,.int .i64 p.2]:=a.at (k:=2) (j:=3) s rfl (by omega) (d ⟨2,.data⟩ (by simp) rfl);simp [xx,go_sem,e8];have w:xh W.heap.size W (W.alloc (.cells #[.int .i64 p.1,.int .i64 p.2] 49)):=(rU _ _).alloc (qL _) _;exact SN ⟨x 3 (by decide),a.put (i:=3) (j:=4) rfl (by omega) (YV.grow w) ⟨W.heap.size,rfl,bW _ _⟩ (a.cw.trans (w.mono a.cw.size))⟩
   ·have e7:bJ W m.heap.size (H.tmps[7]?.getD xn) ps:=a.at (k:=1) (j:=2) s rfl (by omega) (d ⟨1,.data⟩ (by simp) rfl);obtain⟨bb,e9,ad⟩:∃b,H.tmps[9]?.getD xn= .slice (some ⟨b,0,none⟩) 1 1/\W.heap[b]? =some (.cells #[.int .i64 p.1,.int .i64 p.2] 49):=YV.four (a.at (k:=3) (j:=4) s rfl (by omega) (d ⟨3,.data⟩ (by simp) rfl));obtain⟨i0,aa,U,T,S⟩:=partsOf kG;obtain⟨k0,k1,_,_,_⟩:=aQ ad;refine wp_append_own W (.tmp 7) (.tmp 9) 29 rfl m.heap.size 49 i0 _ 2 16 Tryz.underlying29 aa U T S rfl (by decide) (H.tmps[7]?.getD xn) ps.length (cellsP ps) (by simp [go_sem]) e7 ⟨bb,0,none⟩ 1 1 [.int .i64 p.1,.int .i64 p.2] (by simpa [go_sem]using e9) rfl ?_ ?_ (by unfold OO;omega) (by omega) a.cw.size ?_
    ·intro j u A;rw [bD];match j,A with
     |0,A=>simp at A;subst A;exact k0
     |1,A=>simp at A;subst A;exact k1
     |j+2,A=>simp at A
    ·intro u hu;simp at hu;rcases hu with rfl|rfl<;>rfl
    ·intro R w' C hg _;have Y:=GX e7;have c:bJ w' m.heap.size R (ps++ [p]):=Ll C (by rw [jq];rfl);have l:xh m.heap.size m w':=a.cw.trans ((rU _ _).grown hg a.cw.size (fun k Z=>(Y k Z).1));obtain⟨xs,f,ak,hf⟩:=a.fr;refine Or.inr ⟨?_,by simp [a.ls],fun _=> ?_,xs.set 5 R,by simp [f],?_,l,by simpa [Ee,f]using c,?_⟩
     ·have:4<listed.size:=by rw [a.ls];omega
      simp [this]
     ·rw [BD false (by decide)];exact h6
     ·rw [ak];show({a0 with tmps:=(setFrom a0.tmps 5 xs).setIfInBounds (5+5) R}:Act)=_;rw [iV xs a0.tmps 5 5 _ (by omega)]
     ·intro B;rw [BD false (by decide)]at B;obtain⟨X,z,G,F,y⟩:∃X z,xs.getD 0 xn= .pointer (some ⟨X,0,none⟩)/\m.heap.size<=X/\W.heap[X]? =some (.cells #[z] 29):=hf 5 0 rfl B;refine⟨X,z,by rw [<-G];simp [Ee],F,?_,fun h=>by rw [BD false (by decide),h6]at h;cases h⟩;refine(hg.block X (aG y) ?_).trans y;intro e;obtain⟨_,⟨O,_⟩|⟨g,cp,cur,O,_,hh,_⟩⟩:=e7
      ·rw [O]at e;cases e
      ·rw [O]at e;simp [Rq]at e;subst e;rw [y]at hh;simp at hh
   ·simp [xx,go_sem];have w:xh W.heap.size W (W.alloc (.cells #[.slice none 0 0] 29)):=(rU _ _).alloc (qL _) _;exact SN ⟨x 5 (by decide),a.put (i:=5) (j:=0) rfl (by omega) (YV.grow w) ⟨W.heap.size,_,rfl,a.cw.size,bW _ _⟩ (a.cw.trans (w.mono a.cw.size))⟩
   ·have e:=d ⟨4,.data⟩ (by simp) rfl;rw [r]at e
    cases e
  ·obtain⟨r,q,N,xs,f,rfl,l,c,t⟩:=hB;have e1:=J 4 _ rfl r ⟨1,.data⟩ (by simp) rfl;have e3:=J 4 _ rfl r ⟨3,.data⟩ (by simp) rfl;have e0:=J 1 _ rfl e1 ⟨0,.data⟩ (by simp) rfl;have O:=J 3 _ rfl e3 ⟨2,.data⟩ (by simp) rfl;have n:∀(h:listed.getD i false=true),False:=fun h=>by
    rcases OG i listed.size with g|g
    ·simp [g]at L h;rw [L]at h
     cases h
    ·simp [Array.getElem?_eq_none g]at h
   rcases M with rfl|rfl|rfl|rfl|rfl|rfl|rfl
   ·exact(n e0).elim
   ·exact(n e1).elim
   ·exact(n O).elim
   ·exact(n e3).elim
   ·exact(n r).elim
   ·simp at D;subst D;refine au rfl rfl ?_;have B:listed.getD 5 false=false:=by cases h:listed.getD 5 false;(rfl);exact(n h).elim
    simp [xx,go_sem];have w:xh W.heap.size W (W.alloc (.cells #[.slice none 0 0] 29)):=(rU _ _).alloc (qL _) _;refine Or.inr ⟨by rw [BD false (by decide)];exact r,by simp [q],fun h=> ?_,xs.set 0 (.pointer (some ⟨W.heap.size,0,none⟩)),by simp [f],?_,l.trans (w.mono l.size),?_,fun _=>⟨W.heap.size,_,by simp [Ee,f],l.size,bW _ _,fun h=> ?_⟩⟩
    ·rw [BD false (by decide)];exact N B
    ·show({a0 with tmps:=(setFrom a0.tmps 5 xs).setIfInBounds (5+0) _}:Act)=_;rw [iV xs a0.tmps 5 0 _ (by omega)]
    ·have:(xs.set 0 (.pointer (some ⟨W.heap.size,0,none⟩))).getD 5 xn=xs.getD 5 xn:=by simp [Ee]
     rw [this];exact aU.below c w
    ·rw [BD false (by decide),N B]at h;cases h
   ·simp at D;subst D;refine au rfl rfl ?_;have B:=d ⟨5,.data⟩ (by simp) rfl;obtain⟨X,z,G,F,y,_⟩:=t B;obtain⟨y0,yf,yl⟩:=ZH y;have o5:(setFrom a0.tmps 5 xs)[5]?.getD xn= .pointer (some ⟨X,0,none⟩):=by
     rw [show(5:Nat)=5+0 from rfl,gu xs a0.tmps 5 0 (by omega) (by omega)];simpa [Ee]using G
    have I:(setFrom a0.tmps 5 xs)[10]?.getD xn=xs.getD 5 xn:=by
     rw [show(10:Nat)=5+5 from rfl,gu xs a0.tmps 5 5 (by omega) (by omega)];simp [Ee]
    obtain⟨oa,on,oc,P⟩:=aU.slice c;rw [P]at I;simp [xx,go_sem,o5,I,y0,yf];have gX:aI X W (W.setCell ⟨X,0,none⟩ (.slice oa on oc)):=(aI.refl _ _).setCell _ _;refine Or.inr ⟨by rw [BD false (by decide)];exact r,by simp [q],fun h=> ?_,xs,f,rfl,l.setCell (p:=⟨X,0,none⟩) F _,QO c gX y,fun _=>⟨X,_,G,F,ZI y _,fun _=>P.symm⟩⟩;rw [BD false (by decide),B]at h
    cases h
 ·rintro listed H W hr hinv;have q:listed.size=7:=by
   rcases hinv with⟨_,a⟩|⟨_,q,_⟩
   ·exact a.ls
   ·exact q
  have E:=dm (by decide+kernel) q hr;rcases hinv with⟨r,a⟩|⟨_,_,_,xs,f,rfl,l,c,t⟩
  ·rw [E 4 (by decide)]at r;cases r
  ·obtain⟨X,z,G,F,y,x4⟩:=t (E 5 (by decide));rw [x4 (E 6 (by decide))]at y;exact hQ xs W X f G F c y l
 ·exact SN ⟨by simp,kC.start s (rU _ _).drew⟩
theorem adD(xs:List qh)(h:xs.length=6):∃f e d c b a,xs= [f,e,d,c,b,a]:=by
 obtain⟨f,r,rfl,h0⟩:=aA h;obtain⟨e,q,rfl,l⟩:=aA h0;obtain⟨d,p,rfl,k⟩:=aA l;obtain⟨c,o,rfl,j⟩:=aA k;obtain⟨b,n,rfl,i⟩:=aA j;obtain⟨a,m,rfl,g⟩:=aA i;obtain rfl:=List.length_eq_zero_iff.1 g;exact⟨f,e,d,c,b,a,rfl⟩
theorem U8(ps:List (Int×Int))(p:Int×Int)(base g j n c:Nat)(w:oP)(d:bJ w base (.slice (some ⟨g,0,none⟩) n c) (ps++ [p]))(k:n<=12)
  (f:w.heap[j]? =some (.cells #[.slice (some ⟨g,0,none⟩) n c] 29))(i:ps.Pairwise fun a b=>dw a b=true):
  Pe oC 187 #[.iface 29 (.slice (some ⟨g,0,none⟩) n c),.func (.func 188) #[] #[.pointer (some ⟨j,0,none⟩)]] w fun e w'=>
   e= .returned (.tuple #[])/\(bJ w' base (.slice (some ⟨g,0,none⟩) n c) (Pl.insP ps p)/\aI g w w'):=by
 have hl:ps.length+1=n:=by have:=d.vG.1;simpa using this
 by_cases h:2<=n
 ·exact IM ps p base g j n c w d h k f i
 ·have hp:ps= []:=List.length_eq_zero_iff.1 (by omega);subst hp;refine(IL g n c j (by omega) w (by omega)).mono ?_;rintro e w' ⟨rfl,l⟩;exact⟨rfl,aU.below d l,aI.of l⟩
theorem XE(a:Option Addr)(len cap:Nat)(ps:List (Int×Int))(p1 p2:Int)(w:oP)(h:di w a len cap ps)(hl:len<=6)(Q:a=none->len=0)(j:ps.Pairwise fun a b=>dw a b=true):
  Pe oC 158 #[.slice a len cap,.agg #[.int .i64 p1,.int .i64 p2]] w fun e w'=>∃v,e= .returned v/\bJ w' w.heap.size v (Pl.insP ps (p1,p2))/\xh w.heap.size w w':=by
 obtain⟨t,k⟩:=aV (w.alloc (.cells #[.int .i64 p1,.int .i64 p2] 49));have o:t.heap[w.heap.size]? =some (.cells #[.int .i64 p1,.int .i64 p2] 49):=by rw [k.out];exact bW _ _
 have i:xh w.heap.size w t:=by rw [k.out];exact(rU _ _).alloc (qL _) _
 have B:=ae i;obtain⟨G,F,_,_,u⟩:=aQ o;have Z:=ae (h.below i);have V:=ae G;have T:=ae F;have U:=ae j;have O:=ae h.1;have l:=i.size;clear h o i G F j;go_enter Tryz.func158,Tryz.ntmps158;go_wp2_with (rw [<-k.out]);rename_i K hK;refine Yu (pb:=w.heap.size) (p:=(p1,p2)) rfl rfl rfl u V.out T.out Z.out (by omega) Q ?_ _ (by kernel_rfl);intro xs W X m A hX d f r;obtain⟨N,x1,x2,x3,x4,C,rfl⟩:=adD xs m;have A:N= .pointer (some ⟨X,0,none⟩):=A;subst A;have d:bJ W t.heap.size C (ps++ [(p1,p2)]):=d;have f:W.heap[X]? =some (.cells #[C] 29):=f;obtain⟨g,c,L,D,R,q,_,_,_,_⟩:=bJ.row d (by simp);obtain⟨n,H⟩:=ai ((ps++ [(p1,p2)]).length);rw [H.out]at D;subst D;have P:n<=7:=by have S:=H.out;have h2:=O.out;simp at S;omega
 have Y:=ae (U8 ps (p1,p2) t.heap.size g X n c W d (by omega) f U.out);have E:=ae r;have J:=ae f;obtain⟨y0,yf,I⟩:=ZH f;have z:X≠g:=by
  rintro rfl;rw [q]at f;simp at f
 clear d f r q m;simp only [dC,spl];refine hK _ W ?_;go_wp2_with (go_at_call 187;refine Y.out.mono ?_;rintro e w' ⟨rfl,x,s⟩;have M:=(ZH ((s.block X I z).trans J.out)).1);go_ret;have y:xh t.heap.size W w':=aI.below s R (E.out.size);exact⟨_,rfl,aU.mono x l,B.out.trans ((E.out.trans y).mono l)⟩
def SV.afu(base:Nat)(ps:List (Int×Int)):SV:=⟨fun u W=>bJ W base u ps,fun _ _ _ hb h=>aU.below h hb⟩
theorem Yz{Q:Exit->Act->oP->Prop}{a0:Act}{g:oP}{B xb a pl n:Nat}{p1 p2:Int}{m:Option Addr}{ps:List (Int×Int)}
  (t:a0.tmps.size=41)
  (L:a0.tmps[3]?.getD xn= .pointer (some ⟨xb,0,none⟩))
  (K:a0.tmps[6]?.getD xn= .pointer (some ⟨B,a*4,none⟩))
  (X:B<g.heap.size)
  (G:xb<g.heap.size)
  (X5:g.cell? ⟨xb,5,none⟩=some (.int .i64 p1))
  (Z:g.cell? ⟨xb,6,none⟩=some (.int .i64 p2))
  (PN:g.cell? ⟨B,a*4+1,none⟩=some (.slice m pl n))
  (HP:di g m pl n ps)
  (hl:pl<=6)
  (R:m=none->pl=0)
  (r:ps.Pairwise fun a b=>dw a b=true)
  (U:∀xs W,xs.length=23->bJ W g.heap.size (xs.getD 0 xn) (Pl.insP ps (p1,p2))->xh g.heap.size g W->Q .normal {a0 with tmps:=setFrom a0.tmps 7 xs} W):
  ∀ops,dX aal 5=some ops->(aah 5 ops true).wp oC Q a0 g:=by
 intro ops aH;have Y:=OI (aH.symm.trans (rfl:dX aal 5=some _));subst Y;clear aH;have f:7+23<=a0.tmps.size:=by omega
 refine wp_region_any (by kernel_rfl) ?_;refine cO (kC a0 7 23 8 (fun k=>some (([16,17,18,19,20,21,22,0]:List Nat).getD k 0)) (SV.V [SV.afu g.heap.size (Pl.insP ps (p1,p2)),SV.any,SV.any,SV.any,SV.any,SV.any,SV.any,SV.any,SV.any,SV.any,SV.any,SV.any,SV.any,SV.any,SV.any,SV.any,SV.eq (.pointer (some ⟨B,a*4,none⟩)),SV.eq (.pointer (some ⟨B,a*4,none⟩)),SV.eq (.pointer (some ⟨B,a*4+1,none⟩)),SV.eq (.slice m pl n),SV.eq (.pointer (some ⟨xb,5,none⟩)),SV.eq (.agg #[.int .i64 p1,.int .i64 p2]),SV.afu g.heap.size (Pl.insP ps (p1,p2))]) (fun W=>xh g.heap.size g W)) ?_ ?_ _ _ _ _ (by decide+kernel) ?_ (bn _ _ _)
 ·rintro i listed l W H jS c;rw [mem_ready]at H;obtain⟨S,o,w,d⟩:=H;have sN:i<8:=(Array.getElem?_eq_some_iff.1 w).1;have O:=(c.out (k:=3) (by omega)).trans L;have N:=(c.out (k:=6) (by omega)).trans K;have J:=(c.cw.cell (p:=⟨xb,5,none⟩) G).trans X5;have I:=(c.cw.cell (p:=⟨xb,6,none⟩) G).trans Z;have M:=(c.cw.cell (p:=⟨B,a*4+1,none⟩) X).trans PN;have x:i=0\/i=1\/i=2\/i=3\/i=4\/i=5\/i=6\/i=7:=by omega
  rcases x with rfl|rfl|rfl|rfl|rfl|rfl|rfl|rfl
  all_goals
   simp at w;subst w
  ·refine au rfl rfl ?_;simp [xx,go_sem,N];exact c.put (i:=0) (j:=16) rfl (by omega) (fun _ _ h=>h) rfl c.cw
  ·refine au rfl rfl ?_;have F:l.tmps[23]?.getD xn= .pointer (some ⟨B,a*4,none⟩):=c.at (k:=0) (j:=16) f rfl (by omega) (d ⟨0,.data⟩ (by simp) rfl);simp [xx,go_sem,F];exact c.put (i:=1) (j:=17) rfl (by omega) (fun _ _ h=>h) rfl c.cw
  ·refine au rfl rfl ?_;have E:l.tmps[24]?.getD xn= .pointer (some ⟨B,a*4,none⟩):=c.at (k:=1) (j:=17) f rfl (by omega) (d ⟨1,.data⟩ (by simp) rfl);simp [xx,go_sem,E];exact c.put (i:=2) (j:=18) rfl (by omega) (fun _ _ h=>h) rfl c.cw
  ·refine au rfl rfl ?_;have D:l.tmps[25]?.getD xn= .pointer (some ⟨B,a*4+1,none⟩):=c.at (k:=2) (j:=18) f rfl (by omega) (d ⟨2,.data⟩ (by simp) rfl);simp [xx,go_sem,D,M];exact c.put (i:=3) (j:=19) rfl (by omega) (fun _ _ h=>h) rfl c.cw
  ·refine au rfl rfl ?_;simp [xx,go_sem,O];exact c.put (i:=4) (j:=20) rfl (by omega) (fun _ _ h=>h) rfl c.cw
  ·refine au rfl rfl ?_;have A:l.tmps[27]?.getD xn= .pointer (some ⟨xb,5,none⟩):=c.at (k:=4) (j:=20) f rfl (by omega) (d ⟨4,.data⟩ (by simp) rfl);simp [xx,go_sem,A,J,I];exact c.put (i:=5) (j:=21) rfl (by omega) (fun _ _ h=>h) rfl c.cw
  ·refine au rfl rfl ?_;have C:l.tmps[26]?.getD xn= .slice m pl n:=c.at (k:=3) (j:=19) f rfl (by omega) (d ⟨3,.data⟩ (by simp) rfl);have z:l.tmps[28]?.getD xn= .agg #[.int .i64 p1,.int .i64 p2]:=c.at (k:=5) (j:=21) f rfl (by omega) (d ⟨5,.data⟩ (by simp) rfl);simp [xx,go_sem,C,z];refine(XE m pl n ps p1 p2 W (HP.below c.cw) hl R r).mono ?_;rintro e W' ⟨v,rfl,u,q⟩;exact c.put (i:=6) (j:=22) rfl (by omega) (SV.grow q) (aU.mono u c.cw.size) (c.cw.trans (q.mono c.cw.size))
  ·refine au rfl rfl ?_;have h0:=c.at (k:=6) (j:=22) f rfl (by omega) (d ⟨6,.data⟩ (by simp) rfl);simp [xx,go_sem];exact c.put (i:=7) (j:=0) rfl (by omega) (fun _ _ h=>h) h0 c.cw
 ·rintro listed l W P c;have y:=dm (by decide+kernel) c.ls P;obtain⟨xs,s,rfl,T⟩:=c.fr;exact U xs W s (T 7 0 rfl (y 7 (by decide))) c.cw
 ·exact kC.start f (rU _ _).drew
theorem aT.adk{c w:oP}{B:Nat}{s:Pl.Nt}(h:aT c B s)(o:xh c.heap.size c w)(a:Nat)(ha:a<12)(v:qh)(ps:List (Int×Int))(l:bJ w c.heap.size v ps):aT (w.setCell ⟨B,a*4+1,none⟩ v) B {s with P:=cZ s.P a ps}:=by
 have I:=h.lt;have d:v.ownBlock=none\/∃k,v.ownBlock=some k/\c.heap.size<=k:=by
  obtain⟨_,⟨rfl,_⟩|⟨g,cap,cur,rfl,n,_⟩⟩:=l
  ·exact .inl rfl
  ·exact .inr ⟨g,by simp [Rq],n⟩
 obtain⟨t,G,E,r,p,C,A,z⟩:=h;refine aT.qY (aT.below ⟨t,G,E,r,p,C,A,z⟩ o) a ha v ps (aU.mono l (by omega)) fun b F D y i f x=> ?_;have e:b i=t i:=by
  have u:=y.jh i f;have j:=(r.below o).jh i f;rw [u]at j;exact OI j
 have hold:(b i).ownBlock=none\/∃k,(b i).ownBlock=some k/\k<c.heap.size:=by
  rw [e];obtain⟨_,⟨q,_⟩|⟨g,cap,cur,q,n,hh,_⟩⟩:=p i f
  ·rw [q];exact .inl rfl
  ·rw [q];exact .inr ⟨g,by simp [Rq],aG hh⟩
 rcases d with h0|⟨k,h0,H⟩
 ·refine⟨.inl h0,?_⟩;rcases hold with g0|⟨m,g0,_⟩
  ·exact .inl g0
  ·right;rw [g0,h0];simp
 ·rcases hold with g0|⟨m,g0,hm⟩
  ·refine⟨?_,.inl g0⟩;right;rw [g0,h0];simp
  ·refine⟨?_,?_⟩
   ·right;rw [g0,h0];simp;omega
   ·right;rw [g0,h0];simp;omega
theorem abd(xs:List qh)(h:xs.length=23):∃v u t s r q p o n m k j i w g f e d c b a l x,xs= [v,u,t,s,r,q,p,o,n,m,k,j,i,w,g,f,e,d,c,b,a,l,x]:=by
 obtain⟨v,A,rfl,h0⟩:=aA h;obtain⟨u,y,rfl,z⟩:=aA h0;obtain⟨t,s,r,q,p,o,n,m,k,j,i,w,g,f,e,d,c,b,a,l,x,rfl⟩:=Uh y z;exact⟨v,u,t,s,r,q,p,o,n,m,k,j,i,w,g,f,e,d,c,b,a,l,x,rfl⟩
theorem Oi(B:Nat)(s:Pl.Nt)(x:Pl.Ac)(a:Nat)(w:oP)(h:aT w B s)(S:x.a=a)(ha:a<12)(hg:fZ s)(hp:dJ x.p):
  Pe oC 113 #[.pointer (some ⟨B,0,none⟩),.agg #[.int .i64 x.kind,.int .i64 x.a,.int .i64 x.b,.int .i64 x.n,.int .i64 x.m,.int .i64 x.p.1,.int .i64 x.p.2,.string x.key,.string x.val]] w fun e w'=>
   e= .returned (.agg #[.int .i64 (zt s x),.slice none 0 0,.int .i64 0,.slice none 0 0])/\aT w' B (Ez s x)/\bG B w w':=by
 have HN:=ae h;have bx:=h.lt;have HG:=ae hg;have Qj:=ae hp;clear h hg hp;obtain⟨cd,jC⟩:=ai (zt s x);obtain⟨sn,yQ⟩:=ai (Ez s x);have i:OE (cd=if fM [x.p]=0 then fM (Pl.insP (s.P x.a.toNat) x.p)else fM [x.p]):=ae jC.out.symm;have D9:OE (sn=if cd=0 then{s with P:=cZ s.P x.a.toNat (Pl.insP (s.P x.a.toNat) x.p)}else s):=ae (by rw [<-yQ.out,<-jC.out];rfl);rw [jC.out,yQ.out];clear jC yQ;obtain⟨kind,xa,b,n,m,⟨p1,p2⟩,key,val⟩:=x;simp only at S i D9 Qj⊢;subst S;rw [Int.toNat_natCast]at i D9;have bw:(a:Int)<12:=by omega
 have xM:=ae (fun(c:Int) (W:oP)=>fJ c W);obtain⟨b0,b1,bz,bb⟩:=two (w:=w) (.cells #[.int .i64 kind,.int .i64 (a:Int),.int .i64 b,.int .i64 n,.int .i64 m,.int .i64 p1,.int .i64 p2,.string key,.string val] 51) (.cells #[.int .i64 0,.slice none 0 0,.int .i64 0,.slice none 0 0] 40);obtain⟨W2,an⟩:=aV ((w.alloc (.cells #[.int .i64 kind,.int .i64 (a:Int),.int .i64 b,.int .i64 n,.int .i64 m,.int .i64 p1,.int .i64 p2,.string key,.string val] 51)).alloc (.cells #[.int .i64 0,.slice none 0 0,.int .i64 0,.slice none 0 0] 40));rw [<-an.out]at b0 b1 bz bb;obtain⟨q0,q1,q2,q3,q4,q5,q6,q7,q8⟩:=kz b0;have nH:=ae b1;have sU:=ae bb;have Q1:=ae q1;have Q5:=ae q5;have Q6:=ae q6;have I:w.heap.size<W2.heap.size:=by omega
 have OT:B<W2.heap.size:=by omega
 have hle:w.heap.size<=w.heap.size+1:=by omega
 have bd:B≠w.heap.size+1:=by omega
 have F:w.heap.size+1≠B:=by omega
 have Ed:OE (∀(c:Int) (g:oP),xh w.heap.size w g->cd=c->c≠0->aT (jy g (w.heap.size+1) (.int .i64 c) (.slice none 0 0) (.int .i64 0) (.slice none 0 0)) B sn/\bG B w (jy g (w.heap.size+1) (.int .i64 c) (.slice none 0 0) (.int .i64 0) (.slice none 0 0))):=ae fun c g hb e hc=>by
  have G:xh w.heap.size w (jy g (w.heap.size+1) (.int .i64 c) (.slice none 0 0) (.int .i64 0) (.slice none 0 0)):=(((hb.setCell (p:=⟨w.heap.size+1,0,none⟩) hle _).setCell (p:=⟨w.heap.size+1,1,none⟩) hle _).setCell (p:=⟨w.heap.size+1,2,none⟩) hle _).setCell (p:=⟨w.heap.size+1,3,none⟩) hle _;rw [D9.out,ag (by omega)];exact⟨HN.out.below G,bG.of (aI.of G)⟩
 obtain⟨c1,yK⟩:=ai (fM [(p1,p2)]);obtain⟨c2,ar⟩:=ai (fM (Pl.insP (s.P a) (p1,p2)));rw [yK.out,ar.out]at i;clear q0 q2 q3 q4 q7 q8 b0 b1 bb;go_enter Tryz.func113,Tryz.ntmps113;go_wp2_with (rw [<-an.out]);refine(dR _ _ _ [(p1,p2)] _ (yg _ _ p1 p2 _ Qj.out (by omega))).mono ?_;rw [yK.out];rintro e H ⟨rfl,X⟩;have Q:xh W2.heap.size W2 H:=((rU _ _).alloc (qL _) _).trans (X.mono (by simp));have D:OE (xh w.heap.size w H):=ae (sU.out.trans (Q.mono (by omega)));have SI:=ae ((Q.block _ (aG nH.out)).trans nH.out);have r1:=(Q.cell (p:=⟨w.heap.size,1,none⟩) I).trans Q1.out;have R5:=ae ((Q.cell (p:=⟨w.heap.size,5,none⟩) I).trans Q5.out);have R6:=ae ((Q.cell (p:=⟨w.heap.size,6,none⟩) I).trans Q6.out);have bt:=Q.size;have ad:w.heap.size<H.heap.size:=by omega
 have bB:B<H.heap.size:=by omega
 clear X Q q1 q5 q6;by_cases j:c1=0
 ·rw [af j]at i;have aE:(c1 != 0)=false:=by simpa using j
  clear j;go_wp2_with fail;go_quiet (fail);go_wp2_with fail;rename_i K hK;obtain⟨g,ak⟩:=aV (H.drewN nq);rw [<-ak.out];have t:OE (xh H.heap.size H g):=ae (by rw [ak.out];exact aO (rU _ _) _);have u:OE (xh w.heap.size w g):=ae (D.out.trans (t.out.mono D.out.size));have bs:=t.out.size;have pW:=ae (HN.out.below u.out);obtain⟨VP,VK,VT,j,C,h3,h4,h5⟩:=pW.out;obtain⟨g1,g2,g3⟩:=pO (HG.out.P a);have J:∀p∈s.P a,dJ p:=fun p hp=>gp (by have:=gm (g2 p hp);omega);obtain⟨pa,pc,ev,A,aM,_⟩:=(C a ha).shape J;have k:=j.jh a ha;rw [ev]at k;have O:=j.lt;have Rj:w.heap.size<g.heap.size:=by omega
  obtain⟨pl,iO⟩:=ai ((s.P a).length);have T:=j.soft (a*4+1);rw [iO.out]at k A g1;have a7:=ae A;have V:pa=none->pl=0:=fun e=>by
   rw [<-iO.out];rcases A.2.2.2.2 with h|⟨b,off,h,_⟩
   ·rw [h];rfl
   ·rw [e]at h;cases h
  have bc:OE (∀p∈Pl.insP (s.P a) (p1,p2),dJ p):=ae (by
   have key:∀(l:List (Int×Int)) (q:Int×Int),dJ q->(∀p∈l,dJ p)->∀p∈Pl.insP l q,dJ p:=by
    intro l q hq;induction l with
    |nil=>intro _ p hp;simp [Pl.insP]at hp;subst hp;exact hq
    |cons y r ih=>
     intro hl p hp;unfold Pl.insP at hp;split at hp
     ·rcases List.mem_cons.1 hp with rfl|hp
      ·exact hq
      ·exact hl p hp
     ·rcases List.mem_cons.1 hp with rfl|hp
      ·exact hl _ (by simp)
      ·exact ih (fun z hz=>hl z (by simp [hz])) p hp
   exact key _ _ Qj.out J)
  refine Yz (B:=B) (xb:=w.heap.size) (a:=a) (p1:=p1) (p2:=p2) rfl rfl rfl O Rj ((t.out.cell (p:=⟨w.heap.size,5,none⟩) ad).trans R5.out) ((t.out.cell (p:=⟨w.heap.size,6,none⟩) ad).trans R6.out) k a7.out g1 V g3 ?_ _ (by kernel_rfl);intro xs W GI U f;obtain⟨x0,x1,x2,x3,x4,x5,x6,x7,x8,x9,br,bq,bp,pM,bo,bm,bl,bk,bj,bh,bg,zF,Au,rfl⟩:=abd xs GI;have U:bJ W g.heap.size x0 (Pl.insP (s.P a) (p1,p2)):=U;obtain⟨na,nc,en,L,aL,_⟩:=aU.shape U bc.out;obtain⟨nl,a8⟩:=ai ((Pl.insP (s.P a) (p1,p2)).length);rw [a8.out]at en L;subst en;have HO:=ae U;have ba:=ae L;have eH:=ae f;have UM:=ae ((f.block _ (by omega)).trans ((t.out.block _ (aG SI.out)).trans SI.out));have av:OE (xh w.heap.size w W):=ae (u.out.trans (f.mono u.out.size));have Z:=(f.cell (p:=⟨B,a*4+1,none⟩) O).trans k
  have aa:=(f.frozen (p:=⟨B,a*4+1,none⟩) O).trans T;have aw:=f.size;have Y:B<W.heap.size:=by omega
  clear j C h3 h4 h5 g2 g3 J A aM k ev U L aL f GI V T r1;simp only [dC,spl];refine hK _ W ?_;have aq:=ae (dR na nl nc (Pl.insP (s.P a) (p1,p2)) W ba.out);rw [ar.out]at aq;go_wp2_with fail;refine aq.out.mono ?_;rintro e E ⟨rfl,d⟩;have Ky:=ae ((d.block _ (aG UM.out)).trans UM.out);have jP:OE (xh w.heap.size w E):=ae (av.out.trans (d.mono av.out.size));have Y1:=(d.cell (p:=⟨B,a*4+1,none⟩) Y).trans Z;have a6:=(d.frozen (p:=⟨B,a*4+1,none⟩) Y).trans aa;have oL:OE (bJ E g.heap.size (.slice na nl nc) (Pl.insP (s.P a) (p1,p2))):=ae (aU.below HO.out d);have aR:OE (xh g.heap.size g E):=ae (eH.out.trans (d.mono aw));have oq:=d.size;have bA:B<E.heap.size:=by omega
  clear d Z aa;by_cases C:c2=0
  ·have aD:(c2 != 0)=false:=by simpa using C
   rw [C]at i;have Cm:OE (sn={s with P:=cZ s.P a (Pl.insP (s.P a) (p1,p2))}):=ae (by rw [D9.out,af i.out]);clear C;obtain⟨⟨y0,y1,y2,y3⟩,yf,yl⟩:=aS Ky.out;go_wp2_with fail;obtain⟨WS,ET⟩:=aV (E.setCell ⟨B,a*4+1,none⟩ (.slice na nl nc));have vU:OE (aI B E WS):=ae (by rw [ET.out];exact(aI.refl B E).setCell _ _);have yP:=ae ((vU.out.block _ (aG Ky.out) F).trans Ky.out);rw [<-ET.out];obtain⟨Wf,uC⟩:=aV (jy WS (w.heap.size+1) (.int .i64 0) (.slice none 0 0) (.int .i64 0) (.slice none 0 0));have gX:aI (w.heap.size+1) WS Wf:=by rw [uC.out];exact jF (aI.refl (w.heap.size+1) WS) _ _ _ _
   have ay:Wf.heap[w.heap.size+1]? =some (.cells #[.int .i64 0,.slice none 0 0,.int .i64 0,.slice none 0 0] 40):=by
    rw [uC.out];exact lL yP.out _ _ _ _
   obtain⟨⟨z0,z1,z2,z3⟩,_,_⟩:=aS ay;rw [show(((WS.setCell ⟨w.heap.size+1,0,none⟩ (.int .i64 0)).setCell ⟨w.heap.size+1,1,none⟩ (.slice none 0 0)).setCell ⟨w.heap.size+1,2,none⟩ (.int .i64 0)).setCell ⟨w.heap.size+1,3,none⟩ (.slice none 0 0)=Wf from uC.out.symm];refine GM (v:= .agg #[.int .i64 0,.slice none 0 0,.int .i64 0,.slice none 0 0]) (by simp [results,Tryz.results113,go_sem,z0,z1,z2,z3]) rfl ⟨by rw [i.out],?_,?_⟩
   ·rw [Cm.out];refine aT.ql ?_ gX yP.out F;rw [ET.out];exact aT.adk pW.out aR.out a ha _ _ oL.out
   ·exact bG.of (aI.over ((aI.of jP.out:aI B w E).trans vU.out) gX hle)
  ·have aD:(c2 != 0)=true:=by simpa using C
   have R:=ae C;clear C Y1 a6;go_wp2_with fail;refine(xM.out c2 _).mono ?_;rintro e w6 ⟨rfl,M⟩;have o:=(M.block _ (aG Ky.out)).trans Ky.out;have vW:=ae (jP.out.trans (M.mono jP.out.size));have PV:=ae (Ed.out c2 w6 vW.out i.out R.out);obtain⟨⟨y0,y1,y2,y3⟩,yf,yl⟩:=aS o;clear M o;go_wp2_with fail;exact GM (v:= .agg #[.int .i64 c2,.slice none 0 0,.int .i64 0,.slice none 0 0]) (by simp [results,Tryz.results113,go_sem,y0,y1,y2,y3]) rfl ⟨by rw [i.out],PV.out.1,PV.out.2⟩
 ·rw [ag j]at i;have aE:(c1 != 0)=true:=by simpa using j
  have R:=ae j;clear j;go_wp2_with fail;refine(xM.out c1 _).mono ?_;rintro e w3 ⟨rfl,N⟩;have o:=(N.block _ (aG SI.out)).trans SI.out;have u:=ae (D.out.trans (N.mono D.out.size));have PV:=ae (Ed.out c1 w3 u.out i.out R.out);obtain⟨⟨y0,y1,y2,y3⟩,yf,yl⟩:=aS o;clear N o;go_wp2_with fail;exact GM (v:= .agg #[.int .i64 c1,.slice none 0 0,.int .i64 0,.slice none 0 0]) (by simp [results,Tryz.results113,go_sem,y0,y1,y2,y3]) rfl ⟨by rw [i.out],PV.out.1,PV.out.2⟩
def nz(D:Nat->Bool)(P K T:Nat->qh)(L:Nat->Nat->Int):List qh:=(Eb 48).map (gG D P K T L)
theorem fG.nodes{w B D P K T L}(h:fG w B D P K T L):w.rangeAt B 0 (nz D P K T L):=aj.range h _ _ (by simp [nz]) fun j a=>by
 simp [nz]
theorem VM:(Tryz.prog.info? 89).map (·.size)=some 48:=by kernel_rfl
theorem VN:(Tryz.prog.info? 88).map (·.size)=some 4:=by kernel_rfl
theorem Yr(D:Nat->Bool)(P K T:Nat->qh)(L:Nat->Nat->Int)(k:Nat)(c:k<12):(nz D P K T L).toArray.extract (k*4) (k*4+4)=#[.bool (D k),P k,K k,T k]:=by
 have e:∀i,i<48->(nz D P K T L)[i]? =some (gG D P K T L i):=fun i a=>by simp [nz,a]
 have c0:gG D P K T L (k*4)= .bool (D k):=by unfold gG;rw [af (by omega),af (by omega),show k*4/4=k by omega]
 have c1:gG D P K T L (k*4+1)=P k:=by unfold gG;rw [af (by omega),ag (by omega),af (by omega),show(k*4+1)/4=k by omega]
 have c2:gG D P K T L (k*4+2)=K k:=by unfold gG;rw [af (by omega),ag (by omega),ag (by omega),af (by omega),show(k*4+2)/4=k by omega]
 have b:gG D P K T L (k*4+3)=T k:=by unfold gG;rw [af (by omega),ag (by omega),ag (by omega),ag (by omega),show(k*4+3)/4=k by omega]
 apply Array.ext_getElem?;intro i;rw [Array.getElem?_extract];have hl:(nz D P K T L).toArray.size=48:=by simp [nz]
 rw [hl];by_cases a:i<4
 ·rw [af (by omega),List.getElem?_toArray,e _ (by omega)];have:i=0\/i=1\/i=2\/i=3:=by omega
  rcases this with rfl|rfl|rfl|rfl
  ·rw [aag,c0];rfl
  ·rw [c1];rfl
  ·rw [c2];rfl
  ·rw [b];rfl
 ·rw [ag (by omega)];simp;omega
theorem FW(D:Nat->Bool)(P K T:Nat->qh)(L:Nat->Nat->Int)(k:Nat)(a:k<12)(w:oP):(aad 89 (.agg (nz D P K T L).toArray) (.int .i64 k)).run oC w= .ok (.agg #[.bool (D k),P k,K k,T k]) w:=by
 obtain⟨i,d,b⟩:=Gz VN;have c:=Yr D P K T L k a;simp [aad,part,isAgg,sizeOf,typeInfo,underlying,go_sem,Uz,Tryz.underlying88,d,b,a];simpa using c
theorem VO:(Tryz.prog.info? 28).map (fun i=>(i.zero,i.size,i.bytes))=some (some (.slice none 0 0),1,24):=by kernel_rfl
def MH(w:oP)(base:Nat)(v:qh)(vs:List qh):Prop:=w.ownsRow base 28 1 v vs.length vs
theorem WE{w:oP}{ops:Array Oper}{rest:List Oper}{o:Oper}{a:Act}{Q:Exit->Act->oP->Prop}(t:o.guard=none)(s x:Operand)
  (B:o.op= .call {callee:= .builtin .append,args:=#[s,x],argTypes:=#[24,24]})
  (base:Nat)(v:qh)(e:List qh)(l:Option Addr)(el i:Nat)(A:a.eval s=v)(b:MH w base v e)(d:base<=w.heap.size)(z:a.eval x= .slice (some ⟨w.heap.size,0,none⟩) 1 1)(D:(e.length+1)*24<=140737488355328)
  (h:∀f w',MH w' base f (e++ [.slice l el i])->(w.alloc (.cells #[.slice l el i] 28)).grownBy w' v.ownBlock->xh base w w'->wpList oC ops Q rest (a.put o.dst f) w'):
  wpList oC ops Q (o::rest) a (w.alloc (.cells #[.slice l el i] 28)):=by
 obtain⟨i0,r,p,n,m⟩:=info_parts VO;refine X6 (w:=_) t s x 24 B base 28 i0 _ 1 24 Tryz.underlying24 r p n m rfl (by decide) _ e.length e A (Qi b _) ⟨w.heap.size,0,none⟩ 1 1 [.slice l el i] z rfl ?_ ?_ (by unfold OO;omega) D (by simp;omega) ?_
 ·intro j u g;match j,g with
  |0,g=>simp at g;subst g;rw [bD];simp
 ·intro u hu;simp at hu;subst hu;rfl
 ·intro f w' c y _;have q:=GX b;refine h f w' ?_ y (((rU _ _).alloc d _).grown y (by simp;omega) (fun k C=>(q k C).1));unfold MH;simpa using c
theorem IX(B:Nat)(s:Pl.Nt)(w:oP)(h:aT w B s):
  Pe oC 46 #[.pointer (some ⟨B,0,none⟩)] w fun e w'=>∃v a,e= .returned v/\MH w' w.heap.size v a/\a.length=12/\(∀i,i<12->Own w' (B+1) (a.getD i xn) (s.K i))/\xh w.heap.size w w':=by
 obtain⟨M,A,J,I,h2,H,Z,h5⟩:=h;have H3:=ae H;have ad:=I.lt;have O:OE (∀i,i<12->∃c b,A i= .slice c (s.K i).length b):=ae fun i l=>az (H i l);have MZ:OE (∀i,i<12->∃c m b,M i= .slice c m b):=ae fun i l=>by obtain⟨x,y,e⟩:=az (h2 i l);exact⟨x,_,y,e⟩
 have N:OE (∀i,i<12->∃c m b,J i= .slice c m b):=ae fun i l=>by obtain⟨hs,q⟩:=Z i l;obtain⟨x,y,e⟩:=az q.1;exact⟨x,_,y,e⟩
 have o:=ae I.nodes;obtain⟨D,HD⟩:∃D,OE (s.D=D):=⟨_,ae rfl⟩
 obtain⟨L,HL⟩:=ai (s.L);rw [HD.out,HL.out]at o;clear I h2 H Z h5;go_enter Tryz.func46,Tryz.ntmps46;go_wp2_with (refine wpList_load_mid rfl 89 (.tmp 8) rfl B 0 rfl (nz D M A J L) _ o.out Uz rfl VM ?_);go_loopw [3,10] (fun ul i wr=>∃(j:Nat) (v:qh) (a:List qh),v=ul/\j<=12/\i= .int .i64 j/\OE (MH wr w.heap.size v a)/\OE (a.length=j)/\OE (∀t,t<j->a.getD t xn=A t)/\OE (xh w.heap.size w wr)) (fun _ i _=>12-(SQ i).toNat)
 case atStart=>exact⟨0,_,[],rfl,by omega,rfl,ae (O6 _ _ _ _),ae rfl,ae (fun t ht=>by omega),ae (rU _ _)⟩
 case round=>
  obtain⟨j,v,a,F,hj,rfl,HO,p,HV,C⟩:=hrel;subst F;have hz:=C.out.size;by_cases f:j<12
  ·have Y:=fun w=>FW D M A J L j f w;obtain⟨c,b,u⟩:=O.out j f;obtain⟨m,UR⟩:=ai ((s.K j).length);rw [UR.out]at u;have Q:=ae u;rw [u]at Y;clear u;obtain⟨d,R⟩:=ai (D j);obtain⟨W,U,V,ep⟩:=MZ.out j f;obtain⟨T,S,rc,er⟩:=N.out j f;rw [R.out,ep,er]at Y;have ak:(j:Int)<12:=by omega
   clear ep er;obtain⟨z,k⟩:=aV (wr.alloc (.cells #[.bool d,.slice W U V,.slice c m b,.slice T S rc] 88));have r:OE (xh wr.heap.size wr z):=ae (by rw [k.out];exact(rU _ _).alloc (qL _) _);have E:z.heap.size=wr.heap.size+1:=by rw [k.out];simp
   have SI:OE (z.heap[wr.heap.size]? =some (.cells #[.bool d,.slice W U V,.slice c m b,.slice T S rc] 88)):=ae (by rw [k.out];exact bW _ _);obtain⟨⟨c0,c1,c2,c3⟩,cf,aa⟩:=aS SI.out;have yR:=ae ((show MH z w.heap.size v a from zi HO.out r.out));have P:=ae p.out;go_wp2_with (first|(rw [<-k.out])|(at_builtin;refine WE rfl (.tmp 13) (.tmp 16) rfl w.heap.size v a c m b rfl yR.out (by omega) (by show Value.slice (some ⟨wr.heap.size+1,0,none⟩) 1 1=_;rw [E]) (by have:=P.out;omega) ?_;intro v5 w5 X G n;have oL:=ae X;have jP:=ae n;clear X G n));go_roundw
   case rel=>
    refine⟨j+1,_,a++ [.slice c m b],rfl,by omega,by go_num,oL,ae (by simp [p.out]),ae (fun t ht=> ?_),ae ((C.out.trans (r.out.mono hz)).trans jP.out)⟩;rcases OG t j with g|g
    ·rw [<-HV.out t g];simp [Ee,Ah (show t<a.length by rw [p.out];exact g)]
    ·obtain rfl:t=j:=by omega
     rw [Q.out];have:=p.out;simp [Ee,<-this]
   case measure=>simp [SQ];omega
  ·obtain rfl:j=12:=by omega
   go_wp2_with fail;go_ret;exact⟨_,a,rfl,HO.out,p.out,fun i l=>by rw [HV.out i l];exact(H3.out i l).below C.out,C.out⟩
theorem Pl.xQ{L:Nat->Int}(h:∀i,i<12->0<=L i/\L i<=1000):∀k,k<=12->qU (Pl.sidesK L k)=0/\∀p∈Pl.sidesK L k,p.1<(k:Int)/\Pl.small p
 |0,_=>⟨rfl,fun p hp=>by cases hp⟩
 |k+1,c=>by
  obtain⟨b,a⟩:=xQ h k (by omega);have d:=h k (by omega);unfold Pl.sidesK;split
  ·rename_i hp;refine⟨WG b (fun p hp=>(a p hp).1) (by omega) (by omega),fun p hp=> ?_⟩;rcases List.mem_append.1 hp with hp|hp
   ·have:=a p hp;exact⟨by have:=this.1;push_cast;omega,this.2⟩
   ·simp at hp;subst hp;exact⟨by push_cast;omega,by show(0:Int)<=(k:Int)/\(k:Int)<=1000/\0<=L k/\L k<=1000;omega⟩
  ·exact⟨b,fun p hp=>by have:=a p hp;exact⟨by have:=this.1;push_cast;omega,this.2⟩⟩
theorem Jq{n:Int}(h:(Lit.int .i64 n).wf=true): -9223372036854775808<=n/\n<=9223372036854775807:=by
 unfold Lit.wf at h;simp only [Bool.and_eq_true,ik]at h;exact h
theorem Pl.aiZ{n:Int}(h0:0<=n)(a:n<100):(Pl.dec n).data.toList.length<=2:=by
 obtain⟨m,rfl⟩:∃m:Nat,n=m:=⟨n.toNat,by omega⟩
 have hm:m<100:=by omega
 rw [O3];have:(Eb 100).all (fun m=>decide ((aac m).length<=2))=true:=by decide+kernel
 exact of_decide_eq_true (List.all_eq_true.1 this m (List.mem_range.2 hm))
theorem Pl.ad4{n:Int}(h0:0<=n)(a:n<=1000):(Pl.dec n).data.toList.length<=4:=by
 obtain⟨m,rfl⟩:∃m:Nat,n=m:=⟨n.toNat,by omega⟩
 have hm:m<1001:=by omega
 rw [O3];have:(Eb 1001).all (fun m=>decide ((aac m).length<=4))=true:=by decide+kernel
 exact of_decide_eq_true (List.all_eq_true.1 this m (List.mem_range.2 hm))
theorem Pl.Ei(m:ByteArray)(ps:List (Int×Int))(B:Nat)(h:∀p∈ps,(Pl.dec p.1).data.toList.length+m.data.toList.length+(Pl.dec p.2).data.toList.length<=B):(gJ m ps).size<=ps.length*(B+1):=by
 have e:(gJ m ps).size=(gJ m ps).data.toList.length:=by simp
 rw [e,qg];refine Iy (Pl.join_le B _ _ ?_) (by simp);intro x a;simp only [PW]at a;obtain⟨y,⟨p,hp,rfl⟩,rfl⟩:=a;have:=h p hp;unfold iC;simp only [ByteArray.data_append,Array.toList_append,Tn];omega
theorem Pl.zB{d:Bool}{L:Nat->Int}(h:∀i,i<12->0<=L i/\L i<=1000):(iF d (Pl.sidesK L 12)).size<=120:=by
 obtain⟨f,e⟩:=xQ h 12 (qL _);have hl:=uG L 12;have k:=Ei ⟨#[61]⟩ (Pl.sidesK L 12) 7 (fun p hp=>by
  obtain⟨j,c,g,b,a⟩:=e p hp;have a1:=aiZ (n:=p.1) c (by omega);have a2:=ad4 (n:=p.2) b a;show _+1+_<=7;omega)
 unfold iF;rw [af f];split
 ·rw [Ru];have:(⟨#[33]⟩:ByteArray).size=1:=rfl;omega
 ·omega
theorem Pl.zh{ps:List (Int×Int)}(h:fM ps=0):(fB ps).size<=120:=by
 obtain⟨hl,a⟩:=KY h;have a:=Ei ⟨#[47]⟩ ps 9 (fun p hp=>by
  obtain⟨e,d,c,b⟩:=a p hp;have a1:=ad4 (n:=p.1) e d;have a2:=ad4 (n:=p.2) c b;show _+1+_<=9;omega)
 unfold fB;rw [af h];omega
structure Pl.Jn(x:Pl.Ac):Prop where
 key:x.key.size<=OO
 val:x.val.size<=OO
 p:dJ x.p
 n:x.n<=9223372036854775807
 m:x.m<=9223372036854775807
def acV(x:Pl.Ac):qh:= .agg #[.int .i64 x.kind,.int .i64 x.a,.int .i64 x.b,.int .i64 x.n,.int .i64 x.m,.int .i64 x.p.1,.int .i64 x.p.2,.string x.key,.string x.val]
def Eg(B:Nat)(w:oP)(r:Pl.Rp)(s:Pl.Nt)(e:Ending)(w':oP):Prop:=∃vp vk,e= .returned (.agg #[.int .i64 r.code,vp,.int .i64 r.cost,vk])/\dI w' w.heap.size vp r.path/\bF w' w.heap.size vk r.keys/\aT w' B s/\bG B w w'
theorem jv(f:Nat)(enters:∀args w,(callFunc f args).run oC w= .ok (.enter f args) w)(B:Nat)(r:Pl.Rp)(sn s:Pl.Nt)(x:Pl.Ac)(w:oP)(h:aT w B s)(ha:0<=x.a/\x.a<=11)
  (N:EE B x.kind= .func (.func f) #[.pointer (some ⟨B,0,none⟩)] #[])
  (hc:∀W,aT W B s->xh w.heap.size w W->Pe oC f #[.pointer (some ⟨B,0,none⟩),acV x] W (Eg B W r sn)):
  Pe oC 45 #[.pointer (some ⟨B,0,none⟩),acV x] w (Eg B w r sn):=by
 have HN:=ae h;have aa:=h.lt;have K:=ae hc;have Q:=ae N;clear h hc N;obtain⟨kind,t,b,n,m,⟨p1,p2⟩,key,val⟩:=x;unfold acV at K⊢;simp only at ha K Q⊢;have S:=ae (fun(W:oP)=>OZ B kind W);rw [Q.out]at S;obtain⟨b0,b1,O,l⟩:=two (w:=w) (.cells #[.int .i64 kind,.int .i64 t,.int .i64 b,.int .i64 n,.int .i64 m,.int .i64 p1,.int .i64 p2,.string key,.string val] 51) (.cells #[.int .i64 0,.slice none 0 0,.int .i64 0,.slice none 0 0] 40);obtain⟨P,p⟩:=aV ((w.alloc (.cells #[.int .i64 kind,.int .i64 t,.int .i64 b,.int .i64 n,.int .i64 m,.int .i64 p1,.int .i64 p2,.string key,.string val] 51)).alloc (.cells #[.int .i64 0,.slice none 0 0,.int .i64 0,.slice none 0 0] 40));rw [<-p.out]at b0 b1 O l;obtain⟨q0,q1,q2,q3,q4,q5,q6,q7,q8⟩:=kz b0;have L:=ae b1;have X:=ae l;have Z:P.heap.size=w.heap.size+2:=O;have hle:w.heap.size<=w.heap.size+1:=by omega
 have d:w.heap.size+1≠B:=by omega
 have J:=ae (K.out P (HN.out.below l) l);have T:decide (0<=t/\t<=11)=true:=by simpa using ha
 have M:∀W,(binOp .eql 93 (.func (.func f) #[.pointer (some ⟨B,0,none⟩)] #[]) Jk).run oC W= .ok (.bool false) W:=fun W=>by kernel_rfl
 clear b0 b1 l;go_enter Tryz.func45,Tryz.ntmps45;go_wp2_with (first|(go_at_call 70;refine(S.out _).mono ?_;rintro e w' ⟨rfl,c⟩;rw [c];clear c w')|(go_at_call 72;refine(aZ _ _).mono ?_;rw [T];rintro e w' ⟨rfl,c⟩;rw [c];clear c w'));rw [<-p.out];refine J.out.mono ?_;rintro e w3 ⟨vp,vk,rfl,g,j,k,i⟩;obtain⟨y,u,rfl⟩:=az g;obtain⟨D,C,rfl⟩:=az j;have o:=ae ((i.block _ (by omega) d (.inr (by intro cur m e;rw [L.out]at e;simp at e))).trans L.out);have R:=ae g;have q:=ae j;have Y:=ae k;have I:OE (bG B w w3):=ae ((bG.of (aI.of X.out)).trans i);obtain⟨z,V⟩:=ai (r.path.length);obtain⟨A,CE⟩:=ai (r.keys.length);rw [V.out]at R⊢;rw [CE.out]at q⊢;obtain⟨⟨y0,y1,y2,y3⟩,yf,yl⟩:=aS o.out;clear g j k i;go_wp2_with fail
 obtain⟨H,F⟩:=aV (jy w3 (w.heap.size+1) (.int .i64 r.code) (.slice y z u) (.int .i64 r.cost) (.slice D A C));have E:aI (w.heap.size+1) w3 H:=by rw [F.out];exact jF (aI.refl (w.heap.size+1) w3) _ _ _ _
 have G:H.heap[w.heap.size+1]? =some (.cells #[.int .i64 r.code,.slice y z u,.int .i64 r.cost,.slice D A C] 40):=by
  rw [F.out];exact lL o.out _ _ _ _
 obtain⟨⟨z0,U,z2,z3⟩,_,_⟩:=aS G;rw [show(((w3.setCell ⟨w.heap.size+1,0,none⟩ (.int .i64 r.code)).setCell ⟨w.heap.size+1,1,none⟩ (.slice y z u)).setCell ⟨w.heap.size+1,2,none⟩ (.int .i64 r.cost)).setCell ⟨w.heap.size+1,3,none⟩ (.slice D A C)=H from F.out.symm];refine GM (v:= .agg #[.int .i64 r.code,.slice y z u,.int .i64 r.cost,.slice D A C]) (by simp [results,Tryz.results45,go_sem,z0,U,z2,z3]) rfl ⟨_,_,rfl,?_,?_,?_,?_⟩
 ·exact dI.mono (kF R.out E (by intro cur m e;rw [o.out]at e;simp at e)) (by omega)
 ·exact World.dh (qx q.out E o.out) (by omega)
 ·exact aT.ql Y.out E o.out d
 ·exact bG.over I.out E hle
theorem Pl.Eo(n:Int)(h0:0<=n)(a:n<=1000):(aW n).size<=23:=by
 unfold aW;rw [Ru];have:=BL n (by omega) (by omega);have e:(⟨#[112,58]⟩:ByteArray).size=2:=rfl;omega
theorem Ku(c:Int)(B:Nat)(s:Pl.Nt)(x:Pl.Ac)(w:oP)(h:aT w B s)(hc:(c=3/\¬(1<=x.kind/\x.kind<=10))\/(c=2/\(∃f,EE B x.kind= .func (.func f) #[.pointer (some ⟨B,0,none⟩)] #[])/\¬(0<=x.a/\x.a<=11))):
  Pe oC 45 #[.pointer (some ⟨B,0,none⟩),acV x] w (Eg B w (Pl.Rp.no c) s):=by
 have U:=ae h;have R:=h.lt;clear h;obtain⟨kind,r,b,n,m,⟨p1,p2⟩,key,val⟩:=x;unfold acV;simp only at hc⊢;have y:=ae (fun(W:oP)=>OZ B kind W);have G:=ae (fun(c:Int) (W:oP)=>fJ c W);obtain⟨b0,b1,J,E⟩:=two (w:=w) (.cells #[.int .i64 kind,.int .i64 r,.int .i64 b,.int .i64 n,.int .i64 m,.int .i64 p1,.int .i64 p2,.string key,.string val] 51) (.cells #[.int .i64 0,.slice none 0 0,.int .i64 0,.slice none 0 0] 40);obtain⟨S,l⟩:=aV ((w.alloc (.cells #[.int .i64 kind,.int .i64 r,.int .i64 b,.int .i64 n,.int .i64 m,.int .i64 p1,.int .i64 p2,.string key,.string val] 51)).alloc (.cells #[.int .i64 0,.slice none 0 0,.int .i64 0,.slice none 0 0] 40));rw [<-l.out]at b0 b1 J E;obtain⟨q0,q1,q2,q3,q4,Z,Y,X,V⟩:=kz b0;have t:=ae b1;have H:=ae E;have O:S.heap.size=w.heap.size+2:=J;have hle:w.heap.size<=w.heap.size+1:=by omega
 have q:∀f W,(binOp .eql 93 (.func (.func f) #[.pointer (some ⟨B,0,none⟩)] #[]) Jk).run oC W= .ok (.bool false) W:=fun f W=>by kernel_rfl
 have k:∀W,(binOp .eql 93 Jk Jk).run oC W= .ok (.bool true) W:=fun W=>by kernel_rfl
 have K:OE (∀(u:oP),xh w.heap.size w u->Eg B w (Pl.Rp.no c) s (.returned (.agg #[.int .i64 c,.slice none 0 0,.int .i64 0,.slice none 0 0])) (jy u (w.heap.size+1) (.int .i64 c) (.slice none 0 0) (.int .i64 0) (.slice none 0 0))):=ae fun u Q=>by
  have j:xh w.heap.size w (jy u (w.heap.size+1) (.int .i64 c) (.slice none 0 0) (.int .i64 0) (.slice none 0 0)):=(((Q.setCell (p:=⟨w.heap.size+1,0,none⟩) hle _).setCell (p:=⟨w.heap.size+1,1,none⟩) hle _).setCell (p:=⟨w.heap.size+1,2,none⟩) hle _).setCell (p:=⟨w.heap.size+1,3,none⟩) hle _;exact⟨_,_,rfl,dI.nil _ _,bF.nil _ _,U.out.below j,bG.of (aI.of j)⟩
 clear b0 b1 E;rcases hc with⟨rfl,P⟩|⟨rfl,⟨f,I⟩,ha⟩
 ·have T:OE (EE B kind=Jk):=ae (by
   unfold EE;rw [ag (by omega),ag (by omega),ag (by omega),ag (by omega),ag (by omega),ag (by omega),ag (by omega),ag (by omega),ag (by omega),ag (by omega)])
  rw [T.out]at y;clear P q;go_enter Tryz.func45,Tryz.ntmps45;go_wp2_with (first|(go_at_call 70;refine(y.out _).mono ?_;rintro e w' ⟨rfl,d⟩;rw [d];clear d w'));rw [<-l.out];refine(G.out 3 _).mono ?_;rintro e w3 ⟨rfl,g⟩;have i:=(g.block _ (aG t.out)).trans t.out;have o:=ae (H.out.trans (g.mono (by omega)));have F:=ae (K.out w3 o.out);obtain⟨⟨D,C,A,z⟩,N,M⟩:=aS i;clear g i;go_wp2_with fail;exact GM (v:= .agg #[.int .i64 3,.slice none 0 0,.int .i64 0,.slice none 0 0]) (by simp [results,Tryz.results45,go_sem,D,C,A,z]) rfl F.out
 ·rw [I]at y;have L:decide (0<=r/\r<=11)=false:=by simpa using ha
  clear I ha k;go_enter Tryz.func45,Tryz.ntmps45;go_wp2_with (first|(go_at_call 70;refine(y.out _).mono ?_;rintro e w' ⟨rfl,d⟩;rw [d];clear d w')|(go_at_call 72;refine(aZ _ _).mono ?_;rw [L];rintro e w' ⟨rfl,d⟩;rw [d];clear d w'));rw [<-l.out];refine(G.out 2 _).mono ?_;rintro e w3 ⟨rfl,g⟩;have i:=(g.block _ (aG t.out)).trans t.out;have o:=ae (H.out.trans (g.mono (by omega)));have F:=ae (K.out w3 o.out);obtain⟨⟨D,C,A,z⟩,N,M⟩:=aS i;clear g i;go_wp2_with fail;exact GM (v:= .agg #[.int .i64 2,.slice none 0 0,.int .i64 0,.slice none 0 0]) (by simp [results,Tryz.results45,go_sem,D,C,A,z]) rfl F.out
theorem RG(B:Nat){k:Int}(h:1<=k/\k<=10):∃f,EE B k= .func (.func f) #[.pointer (some ⟨B,0,none⟩)] #[]:=by
 have a:k=1\/k=2\/k=3\/k=4\/k=5\/k=6\/k=7\/k=8\/k=9\/k=10:=by omega
 rcases a with rfl|rfl|rfl|rfl|rfl|rfl|rfl|rfl|rfl|rfl<;>exact⟨_,rfl⟩
theorem Eg.of{B:Nat}{w:oP}{c:Int}{s:Pl.Nt}{e:Ending}{w':oP}(h:e= .returned (.agg #[.int .i64 c,.slice none 0 0,.int .i64 0,.slice none 0 0]))(a:aT w' B s)(b:bG B w w'):Eg B w (Pl.Rp.no c) s e w':=⟨_,_,h,dI.nil _ _,bF.nil _ _,a,b⟩
theorem abW(B:Nat)(s:Pl.Nt)(x:Pl.Ac)(w:oP)(h:aT w B s)(l:fZ s)(u:Jn x)(hT:Ff w):
  Pe oC 45 #[.pointer (some ⟨B,0,none⟩),acV x] w (Eg B w (oJ s x) (mg s x)):=by
 by_cases o:1<=x.kind/\x.kind<=10
 ·by_cases ha:0<=x.a/\x.a<=11
  ·have y:oJ s x=if x.kind=1 then Pl.Rp.no (rE x)else if x.kind=2 then Pl.Rp.no (rJ s.L x)else if x.kind=3 then Pl.Rp.no (oG x)else if x.kind=4 then Pl.Rp.no (zt s x)else if x.kind=5 then Pl.Rp.no (Eh s x)else if x.kind=6 then⟨(Pl.putsS (s.K x.a.toNat) x.a.toNat (kX s x.a.toNat) 2).1,[],0,nR s x.a.toNat (kX s x.a.toNat)⟩else if x.kind=7 then⟨tC s x,[],0,tu s x⟩else if x.kind=8 then⟨vX s x,[],0,rW s x⟩else if x.kind=9 then Pl.Rp.no 0 else⟨(qc s x).1,(qc s x).2.1,(qc s x).2.2,[]⟩:=by
    unfold oJ;rw [ag (by simpa using o),ag (by simpa using ha)]
   have z:mg s x=if x.kind=1 then{s with L:=tX s.L x}else if x.kind=2 then{s with L:=uo s.L x}else if x.kind=3 then{s with D:=sQ s.D x}else if x.kind=4 then Ez s x else if x.kind=5 then Pl.takeN s x else if x.kind=6 then tJ s x.a.toNat (kX s x.a.toNat)else if x.kind=7 then qZ s x else if x.kind=8 then pY s x else if x.kind=9 then{s with T:=cZ s.T x.a.toNat (wz (s.K x.a.toNat) x.a.toNat)}else s:=by
    unfold mg;rw [ag (by simpa using o),ag (by simpa using ha)]
   have j:x.a=((x.a.toNat:Nat):Int):=by omega
   have r:x.a.toNat<12:=by omega
   obtain⟨g1,g2,g3⟩:=pO (l.P x.a.toNat);have v:∀p∈s.P x.a.toNat,dJ p:=fun p hp=>gp (by have:=gm (g2 p hp);omega);rw [y,z];have F:x.kind=1\/x.kind=2\/x.kind=3\/x.kind=4\/x.kind=5\/x.kind=6\/x.kind=7\/x.kind=8\/x.kind=9\/x.kind=10:=by omega
   rcases F with k|k|k|k|k|k|k|k|k|k
   ·rw [af k,af k];exact jv 110 (enters_of Tryz.func110 (by kernel_rfl) rfl) B _ _ s x w h ha (by rw [k];rfl) fun W b _=>(QS B s x W b ha).mono fun e w' ⟨g,f,c⟩=>Eg.of g f c
   ·rw [ag (by omega),af k,ag (by omega),af k];exact jv 111 (enters_of Tryz.func111 (by kernel_rfl) rfl) B _ _ s x w h ha (by rw [k];rfl) fun W b _=>(VC B s x W b ha).mono fun e w' ⟨g,f,c⟩=>Eg.of g f c
   ·rw [ag (by omega),ag (by omega),af k,ag (by omega),ag (by omega),af k];exact jv 112 (enters_of Tryz.func112 (by kernel_rfl) rfl) B _ _ s x w h ha (by rw [k];rfl) fun W b _=>(Oj B s x W b ha).mono fun e w' ⟨g,f,c⟩=>Eg.of g f c
   ·rw [ag (by omega),ag (by omega),ag (by omega),af k,ag (by omega),ag (by omega),ag (by omega),af k];exact jv 113 (enters_of Tryz.func113 (by kernel_rfl) rfl) B _ _ s x w h ha (by rw [k];rfl) fun W b _=>(Oi B s x _ W b j r l u.p).mono fun e w' ⟨g,f,c⟩=>Eg.of g f c
   ·rw [ag (by omega),ag (by omega),ag (by omega),ag (by omega),af k,ag (by omega),ag (by omega),ag (by omega),ag (by omega),af k];exact jv 114 (enters_of Tryz.func114 (by kernel_rfl) rfl) B _ _ s x w h ha (by rw [k];rfl) fun W b _=>(Og B s x _ W b j r v g1).mono fun e w' ⟨g,f,c⟩=>Eg.of g f c
   ·rw [ag (by omega),ag (by omega),ag (by omega),ag (by omega),ag (by omega),af k,ag (by omega),ag (by omega),ag (by omega),ag (by omega),ag (by omega),af k];obtain⟨s1,s2⟩:=xQ (L:=s.L x.a.toNat) (fun i _=>l.L _ i) 12 (qL _);refine jv 115 (enters_of Tryz.func115 (by kernel_rfl) rfl) B _ _ s x w h ha (by rw [k];rfl) fun W b G=>(Oe B s x _ W b j r (l.K _) s1 (fun p hp=> ?_) (l.P _) v (fun t E=> ?_) (hT.below G)).mono fun e w' ⟨vk,g,f,c,q⟩=>⟨_,vk,g,dI.nil _ _,f,c,q⟩
    ·obtain⟨_,C,A,I,H⟩:=s2 p hp;exact gp (by omega)
    ·unfold kX at E;simp only [List.mem_cons,List.not_mem_nil,or_false]at E;rcases E with rfl|rfl
     ·have C:=EJ (x.a.toNat:Int) (by omega) (by omega);have A:=zB (d:=s.D x.a.toNat) (L:=s.L x.a.toNat) (fun i _=>l.L _ i);exact⟨Iy C (by unfold OO;omega),Iy A (by unfold OO;omega)⟩
     ·have C:=Eo (x.a.toNat:Int) (by omega) (by omega);have A:=zh (l.P x.a.toNat);exact⟨Iy C (by unfold OO;omega),Iy A (by unfold OO;omega)⟩
   ·rw [ag (by omega),ag (by omega),ag (by omega),ag (by omega),ag (by omega),ag (by omega),af k,ag (by omega),ag (by omega),ag (by omega),ag (by omega),ag (by omega),ag (by omega),af k];exact jv 116 (enters_of Tryz.func116 (by kernel_rfl) rfl) B _ _ s x w h ha (by rw [k];rfl) fun W b _=>(Oh B s x _ W b j r (fun i _=>l.K i) u.n).mono fun e w' ⟨vk,g,f,c,q⟩=>⟨_,vk,g,dI.nil _ _,f,c,q⟩
   ·rw [ag (by omega),ag (by omega),ag (by omega),ag (by omega),ag (by omega),ag (by omega),ag (by omega),af k,ag (by omega),ag (by omega),ag (by omega),ag (by omega),ag (by omega),ag (by omega),ag (by omega),af k];exact jv 117 (enters_of Tryz.func117 (by kernel_rfl) rfl) B _ _ s x w h ha (by rw [k];rfl) fun W b _=>(Lp B s x W b ha (Pl.Good.ok ((bK _).1 (l.K _))) u.key u.val).mono fun e w' ⟨vk,g,f,c,q⟩=>⟨_,vk,g,dI.nil _ _,f,c,q⟩
   ·rw [ag (by omega),ag (by omega),ag (by omega),ag (by omega),ag (by omega),ag (by omega),ag (by omega),ag (by omega),af k,ag (by omega),ag (by omega),ag (by omega),ag (by omega),ag (by omega),ag (by omega),ag (by omega),ag (by omega),af k];exact jv 118 (enters_of Tryz.func118 (by kernel_rfl) rfl) B _ _ s x w h ha (by rw [k];rfl) fun W b G=>(IY B s x _ W b j r (l.K _) (l.T _) (hT.below G)).mono fun e w' ⟨g,f,c⟩=>Eg.of g f c
   ·rw [ag (by omega),ag (by omega),ag (by omega),ag (by omega),ag (by omega),ag (by omega),ag (by omega),ag (by omega),ag (by omega),ag (by omega),ag (by omega),ag (by omega),ag (by omega),ag (by omega),ag (by omega),ag (by omega),ag (by omega),ag (by omega)];exact jv 119 (enters_of Tryz.func119 (by kernel_rfl) rfl) B _ _ s x w h ha (by rw [k];rfl) fun W b _=>(Oc B s x _ W b j r l u.m).mono fun e w' ⟨vp,g,f,c,q⟩=>⟨vp,_,g,f,bF.nil _ _,c,q⟩
  ·have y:oJ s x=Pl.Rp.no 2:=by unfold oJ;rw [ag (by simpa using o),af (by simpa using ha)]
   have z:mg s x=s:=by unfold mg;rw [ag (by simpa using o),af (by simpa using ha)]
   rw [y,z];exact Ku 2 B s x w h (.inr ⟨rfl,RG B o,ha⟩)
 ·have y:oJ s x=Pl.Rp.no 3:=by unfold oJ;rw [af (by simpa using o)]
  have z:mg s x=s:=by unfold mg;rw [af (by simpa using o)]
  rw [y,z];exact Ku 3 B s x w h (.inl ⟨rfl,o⟩)
def kL(x:Pl.Ac):List qh:= [.int .i64 x.kind,.int .i64 x.a,.int .i64 x.b,.int .i64 x.n,.int .i64 x.m,.int .i64 x.p.1,.int .i64 x.p.2,.string x.key,.string x.val]
def Pl.Ac.none:Pl.Ac:=⟨0,0,0,0,0,(0,0),⟨#[]⟩,⟨#[]⟩⟩
def Pl.ac(xs:List Pl.Ac)(i:Nat):Pl.Ac:=xs.getD i Pl.Ac.none
theorem Pl.ZT(xs:List Pl.Ac)(i:Nat)(h:i<xs.length):Pl.ac xs i=xs[i]:=by simp [Pl.ac,Ee,h]
theorem Pl.ZR(xs:List Pl.Ac)(i:Nat)(h:i<xs.length):Pl.ac xs i∈xs:=by rw [ZT xs i h];exact List.getElem_mem h
theorem Pl.TK(xs:List Pl.Ac)(i:Nat)(h:i<xs.length):xs.take (i+1)=xs.take i++ [Pl.ac xs i]:=by
 rw [ZT xs i h];exact(List.take_append_getElem h).symm
def MW(w:oP)(b off:Nat)(xs:List Pl.Ac):Prop:=∀i,i<xs.length->∀k v,(kL (Pl.ac xs i))[k]? =some v->w.cell? ⟨b,off+i*9+k,none⟩=some v
def oK(w:oP)(a:Option Addr)(len cap:Nat)(xs:List Pl.Ac):Prop:=
 xs.length=len/\len<=cap/\cap<=OO/\(∀x∈xs,Jn x)/\(xs= []\/∃b off,a=some ⟨b,off,none⟩/\b<w.heap.size/\MW w b off xs)
theorem oK.below{w w':oP}{a:Option Addr}{len cap:Nat}{xs:List Pl.Ac}(h:oK w a len cap xs)(k:xh w.heap.size w w'):oK w' a len cap xs:=by
 obtain⟨n,m,l,j,c⟩:=h;refine⟨n,m,l,j,?_⟩;rcases c with c|⟨b,off,rfl,d,f⟩
 ·exact .inl c
 ·exact .inr ⟨b,off,rfl,UX d k.size,fun i g q v e=>(k.cell (p:=⟨b,_,none⟩) d).trans (f i g q v e)⟩
theorem oK.at{w:oP}{a:Option Addr}{len cap:Nat}{xs:List Pl.Ac}(h:oK w a len cap xs){k:Nat}(d:k<len):∃b off,a=some ⟨b,off,none⟩/\b<w.heap.size/\MW w b off xs:=by
 rcases h.2.2.2.2 with e|c
 ·have:=h.1;rw [e]at this;simp at this;omega
 ·exact c
theorem MW.nine{w:oP}{b off:Nat}{xs:List Pl.Ac}(h:MW w b off xs){i:Nat}(d:i<xs.length){x:Pl.Ac}(c:Pl.ac xs i=x):
  w.cell? ⟨b,off+i*9,none⟩=some (.int .i64 x.kind)/\w.cell? ⟨b,off+i*9+1,none⟩=some (.int .i64 x.a)/\w.cell? ⟨b,off+i*9+2,none⟩=some (.int .i64 x.b)/\w.cell? ⟨b,off+i*9+3,none⟩=some (.int .i64 x.n)/\w.cell? ⟨b,off+i*9+4,none⟩=some (.int .i64 x.m)/\w.cell? ⟨b,off+i*9+5,none⟩=some (.int .i64 x.p.1)/\w.cell? ⟨b,off+i*9+6,none⟩=some (.int .i64 x.p.2)/\w.cell? ⟨b,off+i*9+7,none⟩=some (.string x.key)/\w.cell? ⟨b,off+i*9+8,none⟩=some (.string x.val):=by
 have g:=h i d;rw [c]at g;exact⟨g 0 _ rfl,g 1 _ rfl,g 2 _ rfl,g 3 _ rfl,g 4 _ rfl,g 5 _ rfl,g 6 _ rfl,g 7 _ rfl,g 8 _ rfl⟩
structure D6 where
 vp:qh
 vk:qh
 r:Pl.Rp
def cellsRp:List D6->List qh
 | []=> []
 |t::r=> .int .i64 t.r.code::t.vp:: .int .i64 t.r.cost::t.vk::cellsRp r
theorem xw:∀a b:List D6,cellsRp (a++b)=cellsRp a++cellsRp b
 | [],_=>rfl
 |t::r,b=>by simp [cellsRp,xw r b]
def mD(w:oP)(base:Nat)(v:qh)(ts:List D6):Prop:=w.ownsRow base 40 4 v ts.length (cellsRp ts)/\∀t∈ts,dI w base t.vp t.r.path/\bF w base t.vk t.r.keys
theorem VH:(Tryz.prog.info? 40).map (fun i=>(i.zero,i.size,i.bytes))=some (some (.agg #[.int .i64 0,.slice none 0 0,.int .i64 0,.slice none 0 0]),4,64):=by kernel_rfl
theorem mD.nil(w:oP)(base:Nat):mD w base (.slice none 0 0) []:=⟨O6 _ _ _ _,fun t h=>(by cases h)⟩
theorem mD.below{w w':oP}{base:Nat}{v:qh}{ts:List D6}(h:mD w base v ts)(k:xh w.heap.size w w'):mD w' base v ts:=⟨iI h.1 k,fun t a=>⟨(h.2 t a).1.below k,(h.2 t a).2.below k⟩⟩
theorem mD.mono{w:oP}{base a:Nat}{v:qh}{ts:List D6}(h:mD w base v ts)(k:a<=base):mD w a v ts:=⟨World.dh h.1 k,fun t b=>⟨(h.2 t b).1.mono k,World.dh (h.2 t b).2 k⟩⟩
theorem sG{B:Nat}{w w':oP}{base:Nat}{e:Rz}{sz:Nat}{v:qh}{n:Nat}{xs:List qh}(h:w.ownsRow base e sz v n xs)(k:bG B w w')(f:B<base)(he:e≠49):w'.ownsRow base e sz v n xs:=by
 obtain⟨h0,a⟩:=h;refine⟨h0,?_⟩;rcases a with a|⟨g,cap,cur,rfl,d,hh,b⟩
 ·exact .inl a
 ·refine .inr ⟨g,cap,cur,rfl,d,(k.block g (aG hh) (by omega) (.inr ?_)).trans hh,b⟩;intro c m q;rw [hh]at q;simp at q;exact he q.2.1
theorem mD.afx{B:Nat}{w w':oP}{base:Nat}{v:qh}{ts:List D6}(h:mD w base v ts)(k:bG B w w')(a:B<base):mD w' base v ts:=
 ⟨sG h.1 k a (by decide),fun t b=>⟨sG (h.2 t b).1 k a (by decide),sG (h.2 t b).2 k a (by decide)⟩⟩
theorem Kt{w:oP}{ops:Array Oper}{rest:List Oper}{o:Oper}{a:Act}{Q:Exit->Act->oP->Prop}(l:o.guard=none)(s x:Operand)
  (q:o.op= .call {callee:= .builtin .append,args:=#[s,x],argTypes:=#[23,23]})
  (base:Nat)(v:qh)(ts:List D6)(t:D6)(G F:Option Addr)(el E A B:Nat)(C:t.vp= .slice G el E)(D:t.vk= .slice F A B)(p:a.eval s=v)(d:w.ownsRow base 40 4 v ts.length (cellsRp ts))(m:base<=w.heap.size)(n:a.eval x= .slice (some ⟨w.heap.size,0,none⟩) 1 1)(I:ts.length<=1000000)
  (h:∀e w',w'.ownsRow base 40 4 e (ts++ [t]).length (cellsRp (ts++ [t]))->(w.alloc (.cells #[.int .i64 t.r.code,t.vp,.int .i64 t.r.cost,t.vk] 40)).grownBy w' v.ownBlock->wpList oC ops Q rest (a.put o.dst e) w'):
  wpList oC ops Q (o::rest) a (w.alloc (.cells #[.int .i64 t.r.code,t.vp,.int .i64 t.r.cost,t.vk] 40)):=by
 obtain⟨i0,k,i,g,f⟩:=partsOf VH;refine X6 (w:=_) l s x 23 q base 40 i0 _ 4 64 Tryz.underlying23 k i g f rfl (by decide) _ ts.length (cellsRp ts) p (Qi d _) ⟨w.heap.size,0,none⟩ 1 1 [.int .i64 t.r.code,t.vp,.int .i64 t.r.cost,t.vk] n rfl ?_ ?_ (by unfold OO;omega) (by omega) (by simp;omega) ?_
 ·have y:=bW w (.cells #[.int .i64 t.r.code,t.vp,.int .i64 t.r.cost,t.vk] 40);obtain⟨⟨c0,c1,c2,H⟩,_,_⟩:=aS y;intro j u b;rw [bD];match j,b with
  |0,b=>simp at b;subst b;exact c0
  |1,b=>simp at b;subst b;exact c1
  |2,b=>simp at b;subst b;exact c2
  |3,b=>simp at b;subst b;exact H
  |j+4,b=>simp at b
 ·intro u hu;rw [C,D]at hu;simp at hu;rcases hu with rfl|rfl|rfl|rfl<;>rfl
 ·intro e w' c z _;refine h e w' ?_ z;rw [xw];simpa [cellsRp]using c
theorem dQ{w w':oP}{base sz n:Nat}{v:qh}{xs:List qh}(d:w.ownsRow base 40 sz v n xs)(f:w.grownBy w' v.ownBlock){b:Nat}{e:Rz}{a:Nat}{u:qh}{m:Nat}{c:List qh}(h:w.ownsRow b e a u m c)(he:e≠40):w'.ownsRow b e a u m c:=
 aae h f (yI he h d)
theorem aT.grown{w w':oP}{B:Nat}{s:Pl.Nt}{base sz n:Nat}{v:qh}{xs:List qh}(h:aT w B s)(a:w.ownsRow base 40 sz v n xs)(c:w.grownBy w' v.ownBlock)(E:B<base):aT w' B s:=by
 have d:=GX a;have f:=h.lt;obtain⟨C,D,A,z,y,x,u,t⟩:=h;refine⟨C,D,A,(c.block B f (fun e=>by have:=(d B e.symm).1;omega)).trans z,fun i b=>dQ a c (y i b) (by decide),fun i b=>dQ a c (x i b) (by decide),fun i b=> ?_,t⟩;obtain⟨p,q⟩:=u i b;refine⟨p,dQ a c q.1 (by decide),q.2.1,fun j r=> ?_⟩;obtain⟨o,m,l,k,g⟩:=q.2.2 j r;exact⟨o,m,l,dQ a c k (by decide),g⟩
theorem bG.abD{B:Nat}{w w':oP}{base sz n:Nat}{v:qh}{xs:List qh}{a:oP}(h:bG B a w)(f:w.ownsRow base 40 sz v n xs)(b:w.grownBy w' v.ownBlock)(j:a.heap.size<=base):bG B a w':=
 ⟨b.os.trans h.os,b.tape.trans h.tape,b.output.trans h.output,Iy h.size b.size,fun k d i g=>by
  have c:=GX f;exact(b.block k (UX d h.size) (fun e=>by have:=(c k e.symm).1;omega)).trans (h.block k d i g)⟩
theorem bG.below{B C:Nat}{w w':oP}(h:bG B w w')(hC:C<=B)(hw:C<=w.heap.size):xh C w w':=⟨h.os,h.tape,h.output,h.size,fun k a=>h.block k (by omega) (by omega) (.inl (by omega))⟩
theorem ac9:Wq=Array.ofFn (n:=192) fun i=>gG (fun _=>false) (fun _=> .slice none 0 0) (fun _=> .slice none 0 0) (fun _=> .slice none 0 0) (fun _ _=>0) i.1:=by kernel_rfl
theorem aT.new(w:oP):aT (w.alloc (.cells Wq 92)) w.heap.size Pl.Nt.new:=by
 refine⟨fun _=> .slice none 0 0,fun _=> .slice none 0 0,fun _=> .slice none 0 0,?_,fun i _=>aU.nil _ _ _,fun i _=> ?_,fun i _=>⟨[],dG.nil _ _⟩,fun i j _ _ _=> .inl rfl⟩
 ·show _=_;rw [ac9];exact bW _ _
 ·exact O6 _ _ _ _
open Go.ChangeShapes Go.WideShapes Go.ChangeAt Go.RowKit
theorem Ko:Tryz.prog.cellsOf 51=9:=by kernel_rfl
theorem Py{H:Type}{enc:Rz×qh->H}{w:oP}{held:Bool}{n:Nat}{cs:List qh}{x:DataW H×List MemPlace}
  (h:DataW.trod enc oC w 0 (fun _=>true) held n 51 cs=some x):∃e:Pl.Ac,cs=kL e/\Jn e:=by
 obtain⟨xs,m,_,rfl,hl,hlen,a⟩:=DataW.trod_struct Tryz.underlying51 h;rw [Ko]at hl;match cs,hl,xs,hlen with
 | [c0,c1,c2,O,N,M,L,K,J],_,[I,G,F,E,D,C,B,A],_=>
  have k:Tryz.prog.cellsOf 49=2:=by kernel_rfl
  have v:Tryz.prog.cellsOf 3=1:=by kernel_rfl
  have u:Tryz.prog.cellsOf 9=1:=by kernel_rfl
  have h0:=a 0 _ rfl;have j:=a 1 _ rfl;have i:=a 2 _ rfl;have g:=a 3 _ rfl;have f:=a 4 _ rfl;have d:=a 5 _ rfl;have c:=a 6 _ rfl;have b:=a 7 _ rfl;simp [k,v,u]at h0 j i g f d c b;obtain⟨t,a0,_,b0⟩:=IA BG h0;obtain⟨s1,a1,_,b1⟩:=IA BG j;obtain⟨s2,a2,_,P⟩:=IA BG i;obtain⟨s3,a3,_,b3⟩:=IA BG g;obtain⟨s,a4,_,b4⟩:=IA BG f;obtain⟨p,a5,ok⟩:=Ld Tryz.underlying49 k rfl rfl rfl rfl d;obtain⟨r,o,_,z⟩:=Tq WZ c;obtain⟨q,l,_,y⟩:=Tq WZ b;simp at a0 a1 a2 a3 a4 a5 o l;obtain⟨rfl,rfl⟩:=a5;subst a0 a1 a2 a3 a4 o l;exact⟨⟨t,s1,s2,s3,s,p,r,q⟩,rfl,z,y,ok,(Jq b3).2,(Jq b4).2⟩
theorem EO{H:Type}{enc:Rz×qh->H}{w:oP}{r:Reach}{b0:Nat}{held:Bool}{v:qh}{d:DataW H}{p:List MemPlace}
  (G:Value.okWide oC w r b0 22 v)(h:DataW.Trod enc oC w 0 (fun _=>true) held 22 v d p):
  ∃a len cap es,v= .slice a len cap/\oK w a len cap es/\(a=none->cap=0)/\((d= .nil/\len=0)\/∃el sp,d= .slice el sp/\el.length=len):=by
 obtain⟨a,len,cap,rfl⟩:=okWide_slice UQ G;obtain⟨fuel,I⟩:=h;rcases Go.Deep.open_slice UQ I with⟨f,q⟩|⟨x,l,c,m,n,D,Q,f,_,hl,hm,t,o,E⟩
 ·simp [Z5]at f;obtain⟨rfl,rfl,rfl⟩:=f;simp only [Xc]at q;exact⟨_,_,_,[],rfl,⟨rfl,qL _,by simp,by simp,.inl rfl⟩,fun _=>rfl,.inl ⟨q.1,rfl⟩⟩
 ·simp [Z5]at f;obtain⟨rfl,rfl,rfl⟩:=f;simp only [if_true]at t;subst t;rw [Ko]at E;have y:∀i,i<len->∃e:Pl.Ac,w.cells? 0 (x.add (i*9)) 9=some (kL e)/\Jn e:=by
   intro i g;obtain⟨L,K,J⟩:=E i (by omega);obtain⟨e,rfl,A⟩:=Py J;exact⟨e,K,A⟩
  obtain⟨F,hF⟩:= @Go.Deep.choose_lt Pl.Ac ⟨Pl.Ac.none⟩ len _ y;have hlen:((Eb len).map F).length=len:=by simp
  have u:∀i,i<len->Pl.ac ((Eb len).map F) i=F i:=by
   intro i g;rw [ZT _ _ (by simpa using g)];simp
  simp only [Xc]at o;refine⟨_,_,_,(Eb len).map F,rfl,⟨hlen,hl,hm,?_,?_⟩,by simp,.inr ⟨_,_,o.1,by simp⟩⟩
  ·intro e he;simp only [PW,List.mem_range]at he;obtain⟨i,g,rfl⟩:=he;exact(hF i g).2
  ·rcases Nat.eq_zero_or_pos len with h0|s
   ·subst h0;exact .inl rfl
   ·right;obtain⟨b,off,spot⟩:=x;have j:=(Tf (hF 0 s).1).2.2 0 (by omega);simp only [kL,List.getElem?_cons_zero]at j;have z:spot=none:=by simpa [Addr.add]using World.cell?_spot j
    subst z;refine⟨b,off,rfl,?_,?_⟩
    ·have:=abP j;simpa [Addr.add]using this
    ·intro i g k v C;rw [hlen]at g;rw [u i g]at C;have B:k<9:=by
      have:=(List.getElem?_eq_some_iff.1 C).1;simpa [kL]using this
     have hc:=(Tf (hF i g).1).2.2 k B;rw [C]at hc;simp only [bD]at hc;exact hc
def IE(D:Nat->Bool)(P K T:Nat->qh)(L:Nat->Nat->Int)(o:Nat):qh:=
 if o%16=0 then K (o/16)else if o%16=1 then .bool (D (o/16))else if o%16=2 then P (o/16)else if o%16=3 then T (o/16)else .int .i64 (L (o/16) (o%16-4))
theorem afs(D P K T L)(i:Nat):IE D P K T L (i*16)=K i:=by
 unfold IE;rw [af (by omega),show i*16/16=i by omega]
theorem aft(D P K T L)(i:Nat):IE D P K T L (i*16+1)= .bool (D i):=by
 unfold IE;rw [ag (by omega),af (by omega),show(i*16+1)/16=i by omega]
theorem afq(D P K T L)(i:Nat):IE D P K T L (i*16+2)=P i:=by
 unfold IE;rw [ag (by omega),ag (by omega),af (by omega),show(i*16+2)/16=i by omega]
theorem afp(D P K T L)(i:Nat):IE D P K T L (i*16+3)=T i:=by
 unfold IE;rw [ag (by omega),ag (by omega),ag (by omega),af (by omega),show(i*16+3)/16=i by omega]
theorem afr(D P K T L)(i j:Nat)(a:j<12):IE D P K T L (i*16+4+j)= .int .i64 (L i j):=by
 unfold IE;rw [ag (by omega),ag (by omega),ag (by omega),ag (by omega),show(i*16+4+j)/16=i by omega,show(i*16+4+j)%16-4=j by omega]
def bV(w:oP)(B:Nat)(D:Nat->Bool)(P K T:Nat->qh)(L:Nat->Nat->Int):Prop:=aj w B 34 192 (IE D P K T L)
theorem bV.lt{w B D P K T L}(h:bV w B D P K T L):B<w.heap.size:=aj.lt h
theorem bV.soft{w B D P K T L}(h:bV w B D P K T L)(o:Nat):w.frozen? ⟨B,o,none⟩=false:=aj.soft h o
theorem bV.lq{w B D P K T L}(h:bV w B D P K T L)(a:Nat)(ha:a<12):w.cell? ⟨B,a*16,none⟩=some (K a):=by
 rw [aj.cell h _ (by omega),afs]
theorem bV.table{w B D P K T L}(h:bV w B D P K T L)(a:Nat)(ha:a<12):w.cell? ⟨B,a*16+3,none⟩=some (T a):=by
 rw [aj.cell h _ (by omega),afp]
theorem bV.line{w B D P K T L}(h:bV w B D P K T L)(a b:Nat)(ha:a<12)(c:b<12):w.cell? ⟨B,a*16+4+b,none⟩=some (.int .i64 (L a b)):=by
 rw [aj.cell h _ (by omega),afr _ _ _ _ _ _ _ c]
theorem bV.CY{w B D P K T L}(h:bV w B D P K T L)(a:Nat)(v:qh):bV (w.setCell ⟨B,a*16,none⟩ v) B D P (cZ K a v) T L:=by
 refine(aj.set h _ _).ext fun o c=> ?_;unfold cZ IE;by_cases b:o=a*16
 ·subst b;rw [af rfl,af (by omega)];simp only;rw [af (by omega)]
 ·rw [ag b];by_cases h0:o%16=0
  ·rw [af h0,af h0];simp only;rw [ag (by omega)]
  ·rw [ag h0,ag h0]
theorem bV.adl{w B D P K T L}(h:bV w B D P K T L)(a:Nat)(v:Bool):bV (w.setCell ⟨B,a*16+1,none⟩ (.bool v)) B (cZ D a v) P K T L:=by
 refine(aj.set h _ _).ext fun o c=> ?_;unfold cZ IE;by_cases b:o=a*16+1
 ·subst b;rw [af rfl,ag (by omega),af (by omega)];simp only;rw [af (by omega)]
 ·rw [ag b];by_cases h0:o%16=1
  ·rw [af h0,af h0];simp only;rw [ag (show¬o/16=a by omega)]
  ·rw [ag h0,ag h0]
theorem bV.KJ{w B D P K T L}(h:bV w B D P K T L)(a:Nat)(v:qh):bV (w.setCell ⟨B,a*16+2,none⟩ v) B D (cZ P a v) K T L:=by
 refine(aj.set h _ _).ext fun o c=> ?_;unfold cZ IE;by_cases b:o=a*16+2
 ·subst b;rw [af rfl,ag (by omega),ag (by omega),af (by omega)];simp only;rw [af (by omega)]
 ·rw [ag b];by_cases h0:o%16=2
  ·rw [af h0,af h0];simp only;rw [ag (show¬o/16=a by omega)]
  ·rw [ag h0,ag h0]
theorem bV.Qv{w B D P K T L}(h:bV w B D P K T L)(a:Nat)(v:qh):bV (w.setCell ⟨B,a*16+3,none⟩ v) B D P K (cZ T a v) L:=by
 refine(aj.set h _ _).ext fun o c=> ?_;unfold cZ IE;by_cases b:o=a*16+3
 ·subst b;rw [af rfl,ag (by omega),ag (by omega),ag (by omega),af (by omega)];simp only;rw [af (by omega)]
 ·rw [ag b];by_cases h0:o%16=3
  ·rw [af h0,af h0];simp only;rw [ag (show¬o/16=a by omega)]
  ·rw [ag h0,ag h0]
theorem bV.qN{w B D P K T L}(h:bV w B D P K T L)(a b:Nat)(g:b<12)(v:Int):bV (w.setCell ⟨B,a*16+4+b,none⟩ (.int .i64 v)) B D P K T (cZ L a (cZ (L a) b v)):=by
 refine(aj.set h _ _).ext fun o f=> ?_;unfold cZ IE;by_cases d:o=a*16+4+b
 ·subst d;rw [af rfl,ag (by omega),ag (by omega),ag (by omega),ag (by omega),show(a*16+4+b)/16=a by omega,show(a*16+4+b)%16-4=b by omega];simp
 ·rw [ag d];by_cases h0:o%16=0\/o%16=1\/o%16=2\/o%16=3
  ·rcases h0 with e|e|e|e<;>simp [e]
  ·rw [ag (by omega),ag (by omega),ag (by omega),ag (by omega),ag (by omega),ag (by omega),ag (by omega),ag (by omega)];by_cases c:o/16=a
   ·simp only [af c];rw [ag (by omega),c]
   ·simp only [ag c]
def ax(D:Nat->Bool)(P K T:Nat->qh)(L:Nat->Nat->Int):List qh:=(Eb 192).map (IE D P K T L)
theorem bH(D P K T L):(ax D P K T L).length=192:=by simp [ax]
theorem bV.all{w B D P K T L}(h:bV w B D P K T L):w.rangeAt B 0 (ax D P K T L):=aj.range h _ _ (by simp [ax]) fun j a=>by
 simp only [ax,Xh,VB]at a;simp [ax]
theorem bV.new(w:oP)(D P K T L):bV (w.alloc (.cells (ax D P K T L).toArray 34)) w.heap.size D P K T L:=by
 refine aj.new w _ _ _ _ (by simp [ax]) fun i a=> ?_;simp [ax]
theorem bV.fill{w:oP}{B:Nat}{D P K T L}(h:∃g,aj w B 34 192 g):bV (w.setCells B 0 (ax D P K T L)) B D P K T L:=by
 obtain⟨g,h⟩:=h;refine(aj.XT (ax D P K T L) 0 w _ h).ext fun o a=> ?_;rw [af (by rw [bH];omega)];simp [ax,a]
def nV:Nat->qh:=fun _=> .slice none 0 0
theorem qW:Tryz.zeroCells34=(ax (fun _=>false) nV nV nV (fun _ _=>0)).toArray:=by kernel_rfl
theorem fD:(Tryz.prog.info? 34).map (·.size)=some 192:=by kernel_rfl
theorem gq:(Tryz.prog.info? 33).map (·.size)=some 16:=by kernel_rfl
def I5(v:qh):Prop:=∃a l c,v= .slice a l c
theorem ads{D P K T L}(hP:∀i,i<12->I5 (P i))(hK:∀i,i<12->I5 (K i))(hT:∀i,i<12->I5 (T i)):∀v∈ax D P K T L,v.oneCell'=true:=by
 intro v b;simp only [ax,PW]at b;obtain⟨o,d,rfl⟩:=b;have d:=List.mem_range.1 d;unfold IE;split
 ·obtain⟨a,l,c,e⟩:=hK (o/16) (by omega);rw [e];rfl
 ·split
  ·rfl
  ·split
   ·obtain⟨a,l,c,e⟩:=hP (o/16) (by omega);rw [e];rfl
   ·split
    ·obtain⟨a,l,c,e⟩:=hT (o/16) (by omega);rw [e];rfl
    ·rfl
def meC(D:Bool)(P K T:qh)(L:Nat->Int)(o:Nat):qh:=if o=0 then K else if o=1 then .bool D else if o=2 then P else if o=3 then T else .int .i64 (L (o-4))
def vM(w:oP)(M:Nat)(D:Bool)(P K T:qh)(L:Nat->Int):Prop:=aj w M 33 16 (meC D P K T L)
def bP(D:Bool)(P K T:qh)(L:Nat->Int):List qh:=(Eb 16).map (meC D P K T L)
theorem aP(D P K T L):(bP D P K T L).length=16:=by simp [bP]
theorem bV.place{w B D P K T L}(h:bV w B D P K T L)(a:Nat)(ha:a<12):w.rangeAt B (a*16) (bP (D a) (P a) (K a) (T a) (L a)):=aj.range h _ _ (by simp [bP];omega) fun j b=>by
 simp only [bP,Xh,VB]at b;simp only [bP,List.getElem_map,List.getElem_range];unfold IE meC;rw [show(a*16+j)%16=j by omega,show(a*16+j)/16=a by omega]
theorem zk{D P K T L}(hP:I5 P)(hK:I5 K)(hT:I5 T):∀v∈bP D P K T L,v.oneCell'=true:=by
 intro v b;simp only [bP,PW]at b;obtain⟨o,d,rfl⟩:=b;unfold meC;split
 ·obtain⟨a,l,c,e⟩:=hK;rw [e];rfl
 ·split
  ·rfl
  ·split
   ·obtain⟨a,l,c,e⟩:=hP;rw [e];rfl
   ·split
    ·obtain⟨a,l,c,e⟩:=hT;rw [e];rfl
    ·rfl
theorem vM.fill{w:oP}{M:Nat}{D P K T L}(h:∃g,aj w M 33 16 g):vM (w.setCells M 0 (bP D P K T L)) M D P K T L:=by
 obtain⟨g,h⟩:=h;refine(aj.XT (bP D P K T L) 0 w _ h).ext fun o a=> ?_;rw [af (by rw [aP];omega)];simp [bP,a]
theorem vM.lq{w M D P K T L}(h:vM w M D P K T L):w.cell? ⟨M,0,none⟩=some K:=aj.cell h 0 (by omega)
theorem vM.yB{w M D P K T L}(h:vM w M D P K T L):w.cell? ⟨M,1,none⟩=some (.bool D):=aj.cell h 1 (by omega)
theorem vM.jh{w M D P K T L}(h:vM w M D P K T L):w.cell? ⟨M,2,none⟩=some P:=aj.cell h 2 (by omega)
theorem vM.line{w M D P K T L}(h:vM w M D P K T L)(b:Nat)(a:b<12):w.cell? ⟨M,4+b,none⟩=some (.int .i64 (L b)):=by
 rw [aj.cell h _ (by omega)];unfold meC;rw [ag (by omega),ag (by omega),ag (by omega),ag (by omega),show 4+b-4=b by omega]
def Kn(w:oP)(s:Pl.Nt)(P K T:Nat->qh):Prop:=(∀i,i<12->bJ w 0 (P i) (s.P i))/\(∀i,i<12->Own w 0 (K i) (s.K i))/\∀i,i<12->∃hs,dG w 0 (T i) hs (s.T i)
theorem Kn.below{w w':oP}{s P K T}(h:Kn w s P K T)(k:xh w.heap.size w w'):Kn w' s P K T:=
 ⟨fun i a=>(h.1 i a).below k,fun i a=>(h.2.1 i a).below k,fun i a=>by obtain⟨b,q⟩:=h.2.2 i a;exact⟨b,q.below k⟩⟩
theorem Kn.XP{w s P K T}(h:Kn w s P K T):∀i,i<12->I5 (P i):=fun i a=>aU.slice (h.1 i a)
theorem Bf{w:oP}{base:Nat}{e:Rz}{sz:Nat}{v:qh}{n:Nat}{xs:List qh}(h:w.ownsRow base e sz v n xs):I5 v:=by
 obtain⟨_,h|⟨g,cap,cur,rfl,_⟩⟩:=h
 ·exact⟨_,_,_,h.1⟩
 ·exact⟨_,_,_,rfl⟩
theorem Kn.XQ{w s P K T}(h:Kn w s P K T):∀i,i<12->I5 (K i):=fun i a=>Bf (h.2.1 i a)
theorem Kn.XO{w s P K T}(h:Kn w s P K T):∀i,i<12->I5 (T i):=fun i a=>by
 obtain⟨b,q⟩:=h.2.2 i a;exact Bf q.1
theorem Kn.one{w s P K T}(h:Kn w s P K T):∀v∈ax s.D P K T s.L,v.oneCell'=true:=ads h.XP h.XQ h.XO
theorem Kn.CY{w s P K T}(h:Kn w s P K T)(a:Nat){v:qh}{es:List aK}(b:Own w 0 v es):Kn w {s with K:=cZ s.K a es} P (cZ K a v) T:=
 ⟨h.1,fun i c=>by
  unfold cZ;by_cases e:i=a
  ·simp only [af e];exact b
  ·simp only [ag e];exact h.2.1 i c,h.2.2⟩
theorem Kn.KJ{w s P K T}(h:Kn w s P K T)(a:Nat){v:qh}{ps:List (Int×Int)}(b:bJ w 0 v ps):Kn w {s with P:=cZ s.P a ps} (cZ P a v) K T:=
 ⟨fun i c=>by
  unfold cZ;by_cases e:i=a
  ·simp only [af e];exact b
  ·simp only [ag e];exact h.1 i c,h.2.1,h.2.2⟩
theorem Kn.Qv{w s P K T}(h:Kn w s P K T)(a:Nat){v:qh}{rs:List Pl.Rt}(c:∃b,dG w 0 v b rs):Kn w {s with T:=cZ s.T a rs} P K (cZ T a v):=
 ⟨h.1,h.2.1,fun i d=>by
  unfold cZ;by_cases e:i=a
  ·simp only [af e];exact c
  ·simp only [ag e];exact h.2.2 i d⟩
theorem Kn.same{w s t P K T}(h:Kn w s P K T)(c:t.P=s.P)(b:t.K=s.K)(a:t.T=s.T):Kn w t P K T:=by
 unfold Kn at h⊢;rw [c,b,a];exact h
end Go.Proofs.YtjjelkdajdeikaaGreatDoor
