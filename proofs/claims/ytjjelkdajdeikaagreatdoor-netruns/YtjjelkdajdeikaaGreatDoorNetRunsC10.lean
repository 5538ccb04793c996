/-
  Facts put together.
-/
import Derived.Test.YtjjelkdajdeikaaGreatDoorNetRunsC8
import Derived.Test.YtjjelkdajdeikaaGreatDoorNetRunsC7
import Derived.Test.YtjjelkdajdeikaaGreatDoorShelfB
open Go.Oper renaming wp→oC
open Go.Proofs.Tryz renaming prog→oP,underlying37→OG,underlying29→Rw,f118→aat,f117→aau
open Nat renaming le_refl→qh,lt_of_lt_of_le→BG,lt_or_ge→GX,zero_add→Pe,le_trans→SN,eq_or_lt_of_le→aac,zero_le→aar
open Go.RowKit renaming Below→qL,Hid→xx,intOf→Tq
open Go.RowKit.Below renaming refl→rU,heap_alloc→SQ
open Go renaming undef→xh,World→xk,bodyPost_ret→xn,maxLen→Eb,Value→GM,Calls→OE,getD_set_ne→O6,wp_region_any→X6,run_equal_slice_nil→aal,wpList_append_own→aan,mem_ready→aao
open Go.Sort renaming putCells→Ah,putRow→Tn,grow→WZ,grow_empty→Xh,ahead→aae
open Go.Value.slice renaming injEq→BD
open Go.Value renaming int→Ee,ownBlock→Qe
open Option.some renaming injEq→Iy,inj→Rq
open List renaming length_set→IA,replicate→Jj,getElem?_take→MJ,getElem_of_mem→Qi,length_append→Ru,getElem_append_right→Wq,getElem?_eq_getElem→Xc,mem_singleton→Z5,getElem_mem→aad,mem_append→aah,length_map→aai,append_nil→aaj,take_set→aam
open Array renaming getElem?_toList→Jk,getElem?_modify→PW,toList_setIfInBounds→UQ,getElem?_append_left→UX
open Go.Lib renaming compactUpTo→LM,compact→Zf,keeps→aak
open Go.IntKind renaming wrap_i64→OI
open Int renaming toNat_natCast→OM
open And renaming intro→OO
open Go.World.ownsRow renaming lt→Qd,kept→Uz,alloc→aap
open Bool renaming not_eq_true'→Rz,false_eq_true→aab,and_eq_true→aaf
open Go.World renaming cell?→Tf,frozen?→VB
open Go.Addr.mk renaming injEq→aag
open Go.Code renaming region→aaq
open List.Sublist renaming append_left→aas
set_option maxHeartbeats 8000000
namespace Go.Proofs.YtjjelkdajdeikaaGreatDoor
open Pl
open Go.RowKit
set_option maxRecDepth 20000
theorem NU{w:xk}{g:Nat}{cur:Array GM}{T:TypeId}(b:w.heap[g]? =some (.cells cur T (0,0)))(d:Array Int)(n:Nat)(os:Array Obj):
  (WZ (Tn (Ee .i64) (aae w n) g 0 d) os).heap[g]? =some (.cells (Ah (Ee .i64) 0 d cur) T (0,0)):=by
 have a:=aG b;unfold WZ Tn Go.Sort.mapBlock;show((w.heap.modify g _)++os)[g]? =_;rw [UX (by simpa using a),PW,af rfl,b];rfl
theorem TU{w:xk}{g:Nat}(d:Array Int)(n:Nat)(os:Array Obj):aI g w (WZ (Tn (Ee .i64) (aae w n) g 0 d) os):=by
 refine⟨rfl,rfl,rfl,?_,fun k b a=> ?_⟩
 ·show _<=((w.heap.modify g _)++os).size;simp
 ·show((w.heap.modify g _)++os)[k]? =_;rw [UX (by simpa using b),PW,ag (Ne.symm a)]
theorem NS(d:Array Int)(cur:Array GM)(h:d.size<=cur.size):(Ah (Ee .i64) 0 d cur).toList.take d.size=fA d.toList:=by
 apply List.ext_getElem?;intro i;rw [MJ];by_cases a:i<d.size
 ·rw [af a,Jk];simp [Ah,fA,a,show i<cur.size by omega]
 ·rw [ag a];simp [fA,show d.size<=i by omega]
theorem NT(d:Array Int)(cur:Array GM):(Ah (Ee .i64) 0 d cur).size=cur.size:=by simp [Ah]
theorem N7{w:xk}{base g cap:Nat}{cur:Array GM}{xs:List Int}(d:base<=g)(c:w.heap[g]? =some (.cells cur 3 (0,0)))(hc:xs.length<=cap)(hm:cap<=Eb)(b:cur.size=cap)(a:cur.toList.take xs.length=fA xs):dI w base (.slice (some ⟨g,0,none⟩) xs.length cap) xs:=
 ⟨by simp [fA],.inr ⟨g,cap,cur,rfl,d,c,hc,hm,by simpa using b,by simpa using a⟩⟩
theorem dI.row{w:xk}{base:Nat}{v:GM}{xs:List Int}(h:dI w base v xs)(a:xs≠ []):
  ∃g cap cur,v= .slice (some ⟨g,0,none⟩) xs.length cap/\base<=g/\w.heap[g]? =some (.cells cur 3 (0,0))/\xs.length<=cap/\cap<=Eb/\cur.size=cap/\cur.toList.take xs.length=fA xs:=by
 obtain⟨_,⟨h,f⟩|⟨g,cap,cur,rfl,e,hh,d,hm,c,b⟩⟩:=h
 ·exact absurd (List.length_eq_zero_iff.1 f) a
 ·exact⟨g,cap,cur,rfl,e,hh,d,hm,by simpa using c,by simpa using b⟩
theorem Y6{w:xk}{g:Nat}{cur:Array GM}{xs:List Int}(b:w.heap[g]? =some (.cells cur 3 (0,0)))(d:cur.toList.take xs.length=fA xs):Go.Sort.Holds (Ee .i64) w g 0 xs.toArray:=by
 intro j e;have a:j<xs.length:=by simpa using e
 have c:(fA xs)[j]? =some (.int .i64 xs[j]):=by simp [fA,a]
 rw [<-d,MJ,af a,Jk]at c;refine⟨?_,?_⟩
 ·rw [Pe];simp [Tf,b,c,a]
 ·rw [Pe];simp [VB,b]
theorem Pl.BP(d:Array Int)(b:∀i j,i<j->j<d.size->d[i]! <=d[j]!):∀m,m<=d.size->(LM d m).Pairwise (·<·)/\(∀x,x∈LM d m↔∃j,j<m/\d[j]! =x)
 |0,_=>by
  have e:LM d 0= []:=rfl;rw [e];simp
 |m+1,h=>by
  obtain⟨l,c⟩:=BP d b m (by omega);rw [Lib.compactUpTo_succ];by_cases k:aak d m=true
  ·rw [af k];refine⟨List.pairwise_append.2 ⟨l,by simp,fun x n y f=> ?_⟩,fun x=> ?_⟩
   ·obtain⟨j,a,rfl⟩:=(c x).1 n;simp only [Z5]at f;subst f;have o:d[m]! ≠d[m-1]! :=by
     unfold aak at k;simp only [ik]at k;rcases k with k|k
     ·omega
     ·exact k
    have a1:d[j]! <=d[m-1]! :=by
     rcases GX j (m-1)with g|g
     ·exact b j (m-1) g (by omega)
     ·rw [show j=m-1 by omega];exact Int.le_refl _
    have a2:=b (m-1) m (by omega) (by omega);omega
   ·rw [aah,c,Z5];constructor
    ·rintro(⟨j,a,e⟩|e)
     ·exact⟨j,by omega,e⟩
     ·exact⟨m,by omega,e.symm⟩
    ·rintro⟨j,a,e⟩;rcases GX j m with g|g
     ·exact .inl ⟨j,g,e⟩
     ·rw [show j=m by omega]at e;exact .inr e.symm
  ·rw [ag k,aaj];refine⟨l,fun x=> ?_⟩;rw [c];have p:¬(m=0\/d[m]! ≠d[m-1]!):=by
    unfold aak at k;simpa using k
   constructor
   ·rintro⟨j,a,e⟩;exact⟨j,by omega,e⟩
   ·rintro⟨j,a,e⟩;rcases GX j m with g|g
    ·exact⟨j,g,e⟩
    ·have hm:j=m:=by omega
     subst hm;refine⟨j-1,by omega,?_⟩;rw [<-e];exact(Decidable.byContradiction fun q=>p (.inr q)).symm
theorem RP(a:List Int):(Zf a).length<=a.length:=by
 unfold Zf LM;rw [aai];exact SN (List.length_filter_le _ _) (by simp)
theorem Pl.Qp(xs f:List Int)(o:∀x∈xs,0<=x/\x<=11)(n:∀y∈f,0<=y/\y<=11):Zf ((xs++f).mergeSort fun x y=>decide (x<=y))=sW xs f:=by
 have hp:((xs++f).mergeSort fun x y=>decide (x<=y)).Perm (xs++f):=List.mergeSort_perm _ _;have p:((xs++f).mergeSort fun x y=>decide (x<=y)).Pairwise (fun x y=>decide (x<=y)=true):=by
  refine List.pairwise_mergeSort ?_ ?_ _
  ·intro a b c m l;simp only [ik]at*;omega
  ·intro a b;simp only [Bool.or_eq_true,ik];omega
 generalize ((xs++f).mergeSort fun x y=>decide (x<=y))=d at*;have q:∀i j,i<j->j<d.toArray.size->d.toArray[i]! <=d.toArray[j]! :=by
  intro i j k g;have h:j<d.length:=by simpa using g
  have:=List.pairwise_iff_getElem.1 p i j (by omega) h k;simp only [ik]at this;simpa [getElem!_pos,h,show i<d.length by omega]using this
 obtain⟨m,l⟩:=BP d.toArray q d.length (by simp);refine Qo m (GU _ _) fun x=> ?_;rw [show(x∈sW xs f)=(x∈xs\/x∈f)from propext (yj o n),<-aah,<-hp.mem_iff];show x∈LM d.toArray d.length↔_;rw [l];constructor
 ·rintro⟨j,g,e⟩;rw [<-e];simp [getElem!_pos,g]
 ·intro hm;obtain⟨j,g,e⟩:=Qi hm;exact⟨j,g,by simp [getElem!_pos,g,e]⟩
theorem Cc{w:xk}{ops:Array Oper}{rest:List Oper}{o:Oper}{a:Act}{Q:Exit->Act->xk->Prop}(m:o.guard=none)(s x:Operand)
  (C:o.op= .call {callee:= .builtin .append,args:=#[s,x],argTypes:=#[37,37]})
  (base:Nat)(v:GM)(xs:List Int)(c:dI w base v xs)(d:base<=w.heap.size)(ao:Option Addr)(len cap:Nat)(n:List Int)(B:a.eval s=v)(A:a.eval x= .slice ao len cap)(I:fV w ao len cap n)(K:len<=1000)(H:xs.length<=1000)
  (h:∀p w',dI w' base p (xs++n)->qL base w w'->wpList oP ops Q rest (a.put o.dst p) w'):wpList oP ops Q (o::rest) a w:=by
 obtain⟨i0,l,t,r,q⟩:=info_parts YR;obtain⟨hl,hc,hm,g,f⟩:=I;have y:=Qd c;rcases ao with _|J
 ·obtain rfl:=g rfl;obtain rfl:len=0:=by omega
  obtain rfl:n= []:=List.length_eq_zero_iff.1 hl;rw [aaj]at h;exact wpList_append_own_none m s x 37 C base 3 i0 1 OG l _ xs.length (fA xs) B c A (h _ _ c (rU _ _))
 ·refine aan (w:=w) m s x 37 C base 3 i0 _ 1 8 OG l t r q rfl (by decide) _ xs.length (fA xs) B c J len cap (fA n) A (by simp [fA,hl]) ?_ (Hu _) (by unfold Eb;omega) (by omega) d ?_
  ·intro j u F;obtain⟨i,rfl⟩:=Hw F;rcases f with rfl|⟨b,off,z,_,D⟩
   ·simp at i
   ·cases z;rw [bD];exact D j i
  ·intro p w' e G _;refine h p w' ?_ ((rU _ _).grown G d (fun k E=>(y k E).1));unfold dI;rw [Ru,hl];simpa [fA]using e
theorem IK{w:xk}{ops:Array Oper}{rest:List Oper}{o:Oper}{a:Act}{Q:Exit->Act->xk->Prop}(f:o.guard=none)(s x:Operand)
  (p:o.op= .call {callee:= .builtin .append,args:=#[s,x],argTypes:=#[37,3]})
  (k:Nat)(m:a.eval s= .slice none 0 0)(l:a.eval x= .int .i64 (k:Int))(h0:0<k)(j:k<=1000)
  (h:∀w' G cur,w'.heap[w.heap.size]? =some (.cells cur 3 (0,0))->cur.size=G->k<=G->G<=Eb->qL w.heap.size w w'->wpList oP ops Q rest (a.put o.dst (.slice (some ⟨w.heap.size,0,none⟩) k G)) w'):wpList oP ops Q (o::rest) a w:=by
 obtain⟨i0,e,d,c,b⟩:=info_parts YR;have hold:(Builtin.firstCells i0.size 0 (.slice none 0 0)).run oP w.drew= .ok (#[]:Array GM) w.drew:=by
  rw [c];rfl
 have n:=Lib.run_append_grow_zeros w 37 3 o.type 3 i0 _ .i64 .i64 OG Tryz.underlying3 e d none 0 0 [] hold k h0 (by omega) (by omega) (by omega) (by rw [b];omega) (by rw [b];exact growslice_fits (by omega) (by omega));have g:=grownCap_ge w (0+k) 0 3;have i:=grownCap_le_maxLen w (0+k) 0 3 (by unfold Eb;omega);generalize grownCap w (0+k) 0 3=G at*;refine Lib.wpList_append_run _ f s x _ _ p _ _ m l _ _ n ?_;rw [show(0+k)=k by omega]at*;refine h _ G _ (ji w.drew _) ?_ g i ((rU _ _).drew.alloc (qh _) _);simp [Builtin.zeroCells,Value.cells];omega
theorem Xk(k:Nat)(w:xk)(h0:0<k)(g:k<=1000):
  OE oP 208 #[.slice none 0 0,.int .i64 (k:Int)] w fun e w'=>∃v,e= .returned v/\dI w' w.heap.size v []/\qL w.heap.size w w':=by
 have f:IntKind.i64.wrap ((k:Int)-0)=(k:Int):=by rw [OI];omega
 have o:decide ((k:Int)<0)=false:=by simp
 have n:decide ((0:Int)<(k:Int))=true:=by simp;omega
 go_enter Tryz.func208,Tryz.ntmps208;go_wp2_with (at_builtin;refine IK rfl (.tmp 20) (.tmp 21) rfl k rfl rfl h0 g ?_;intro m G cur a b h d c;have i:=ae a;have l:=ae c;have j:=ae b;clear a c b;unfold Eb at d);go_ret;refine⟨_,rfl,?_,l.out⟩;exact N7 (xs:= []) (qh _) i.out (aar _) (by unfold Eb;exact d) j.out (by simp [fA])
def Pl.ai0(xs ys:List Int):Nat->List Int
 |0=> []
 |1=>xs
 |_=>xs++ys
theorem P5(B:Nat)(a b:Option Addr)(d A h z:Nat)(xs o:List Int)(w:xk)(n:B<w.heap.size)(c0:w.cell? ⟨B,0,none⟩=some (.slice a d A))(c1:w.cell? ⟨B,1,none⟩=some (.slice b h z))(y:fV w a d A xs)(x:fV w b h z o)(X:0<d)(O:d<=12)(N:h<=12):
  OE oP 183 #[.slice (some ⟨B,0,none⟩) 2 2] w fun e w'=>∃v,e= .returned v/\dI w' w.heap.size v (xs++o)/\qL w.heap.size w w':=by
 have H1:=ae y;have W:=ae x;have F:=ae c0;have E:=ae c1;have U:xx (xs.length=d):=ae y.1;have V:xx (o.length=h):=ae x.1;have K:IntKind.i64.wrap (0+(d:Int))=(d:Int):=by rw [OI];omega
 have u:IntKind.i64.wrap ((d:Int)+(h:Int))=((d+h:Nat):Int):=by rw [OI];omega
 obtain⟨S,Q⟩:∃S,d+h=S:=⟨_,rfl⟩
 rw [Q]at u;have M:decide ((d:Int)<0)=false:=by simp
 have L:decide ((S:Int)<0)=false:=by simp
 clear y x c0 c1;go_enter Tryz.func183,Tryz.ntmps183;go_wp2_with fail;go_loopw [3,11] (fun s i wr=>∃k:Nat,k<=2/\i= .int .i64 k/\s= .int .i64 ((if k=0 then 0 else if k=1 then d else S:Nat):Int)/\xx (qL w.heap.size w wr)) (fun _ i _=>2-(Tq i).toNat)
 case atStart=>exact⟨0,by omega,rfl,rfl,ae (rU _ _)⟩
 case round=>
  obtain⟨k,P,rfl,rfl,j⟩:=hrel;have d0:=(j.out.cell (p:=⟨B,0,none⟩) n).trans F.out;have d1:=(j.out.cell (p:=⟨B,1,none⟩) n).trans E.out;have R:B<wr.heap.size:=BG n j.out.size;have l:k=0\/k=1\/k=2:=by omega
  rcases l with rfl|rfl|rfl
  ·go_wp2_with fail;go_roundw
   case rel=>exact⟨1,by omega,by go_num,rfl,j⟩
   case measure=>simp [Tq]
  ·go_wp2_with fail;go_roundw
   case rel=>exact⟨2,by omega,by go_num,rfl,j⟩
   case measure=>simp [Tq]
  ·go_wp2_with fail;refine(Xk S wr (by omega) (by omega)).mono ?_;rintro e I ⟨v1,rfl,q,r⟩;have J:=ae (q.mono j.out.size);have D:xx (qL w.heap.size w I):=ae (j.out.trans (r.mono j.out.size));clear q r;go_wp2_with fail;go_loopw [6,27] (fun v i wr=>∃k:Nat,k<=2/\i= .int .i64 k/\xx (dI wr w.heap.size v (ai0 xs o k))/\xx (qL w.heap.size w wr)) (fun _ i _=>2-(Tq i).toNat)
   case atStart=>exact⟨0,by omega,rfl,J,D⟩
   case round=>
    obtain⟨k,P,rfl,C,c⟩:=hrel;rename xk=>G
    have d0:=(c.out.cell (p:=⟨B,0,none⟩) n).trans F.out;have d1:=(c.out.cell (p:=⟨B,1,none⟩) n).trans E.out;have T:B<G.heap.size:=BG n c.out.size;have l:k=0\/k=1\/k=2:=by omega
    rcases l with rfl|rfl|rfl
    ·go_wp2_with (at_builtin;refine Cc rfl (.tmp 31) (.tmp 32) rfl w.heap.size _ [] C.out c.out.size a d A xs rfl rfl (H1.out.below c.out) (by omega) (by simp) ?_;intro v2 H f g;have t:=ae f;have m:=ae g;clear f g);go_roundw
     case rel=>exact⟨1,by omega,by go_num,t,ae (c.out.trans m.out)⟩
     case measure=>simp [Tq]
    ·go_wp2_with (at_builtin;refine Cc rfl (.tmp 31) (.tmp 32) rfl w.heap.size _ xs C.out c.out.size b h z o rfl rfl (W.out.below c.out) (by omega) (by have:=U.out;omega) ?_;intro v2 H f g;have t:=ae f;have m:=ae g;clear f g);go_roundw
     case rel=>exact⟨2,by omega,by go_num,t,ae (c.out.trans m.out)⟩
     case measure=>simp [Tq]
    ·go_wp2_with fail;go_ret;exact⟨_,rfl,C.out,c.out⟩
theorem U0(a b:Option Addr)(m D o C:Nat)(xs f:List Int)(w:xk)(I:fV w a m D xs)(t:fV w b o C f)(hx:0<m)(P:m<=12)(O:o<=12)(rx:∀x∈xs,0<=x/\x<=11)(ry:∀y∈f,0<=y/\y<=11):
  OE oP 155 #[.slice a m D,.slice b o C] w fun e w'=>∃v,e= .returned v/\dI w' w.heap.size v (sW xs f)/\qL w.heap.size w w':=by
 have l:xx (qL w.heap.size w (w.alloc (.cells #[.slice a m D,.slice b o C] 37))):=ae ((rU _ _).alloc (qh _) _);have jD:=ae (P5 w.heap.size a b m D o C xs f (w.alloc (.cells #[.slice a m D,.slice b o C] 37)) (by simp) (by simp) (by simp) (I.below l.out) (t.below l.out) hx P O);have Xw:xx (xs++f≠ []):=ae (by intro e;have:=I.1;rw [(List.append_eq_nil_iff.1 e).1]at this;simp at this;omega);have L:xx ((xs++f).length=m+o):=ae (by rw [Ru,I.1,t.1]);have d:=ae (Qp xs f rx ry);obtain⟨U,R⟩:=ai (sW xs f);rw [R.out]at d⊢;clear I t;go_enter Tryz.func155,Tryz.ntmps155;go_wp2_with fail;refine jD.out.mono ?_;rintro e K ⟨v1,rfl,u,B⟩;obtain⟨g,cap,cur,rfl,A,H,hn,hm,hs,M⟩:=u.row Xw.out;have HG:=ae H;have HT:=ae M;have HS:=ae hs;have HM:=ae hm;have z:=aG H
 have F:xx (w.heap.size<=g):=ae (by have:=A;simp at this;omega);have G:xx (qL w.heap.size w K):=ae (l.out.trans (B.mono l.out.size));have E:=ae (Y6 H M);obtain⟨n,HZ⟩:=ai (xs++f);rw [HZ.out]at L Xw E HT hn d⊢;clear u B H M hs hm A;go_wp2_with fail;refine(Tryz.slices_Sort_int g 0 cap n K E.out z (by have:=L.out;omega)).mono ?_;rintro e s ⟨rfl,n2,aa,q⟩;have k:xx (s.heap[g]? =some (.cells (Ah (Ee .i64) 0 (n.mergeSort fun x y=>decide (x<=y)).toArray cur) 3 (0,0))):=ae (by rw [q];exact NU HG.out _ _ _);have SK:xx (aI g K s):=ae (by rw [q];exact TU _ _ _);clear q;have ad:g<s.heap.size:=BG z SK.out.size;have c:xx ((n.mergeSort fun x y=>decide (x<=y)).length=n.length):=ae (by simp)
 have r:=ae (NS (n.mergeSort fun x y=>decide (x<=y)).toArray cur (by simp only [List.size_toArray];rw [c.out,HS.out];exact hn));have j:=ae ((NT (n.mergeSort fun x y=>decide (x<=y)).toArray cur).trans HS.out);obtain⟨ms,V⟩:=ai ((n.mergeSort fun x y=>decide (x<=y)));rw [V.out]at k c r j d;obtain⟨J,Y⟩:=ai (Ah (Ee .i64) 0 ms.toArray cur);rw [Y.out]at k r j;have Q:xx (J.toList.take ms.length=fA ms):=ae (by simpa using r.out);have W:=ae (Y6 k.out Q.out);rw [<-c.out];go_wp2_with fail;refine(Tryz.slices_Compact_int g 0 cap ms s W.out (by have:=c.out;have:=L.out;omega) (by have:=c.out;omega)).mono ?_;rw [d.out];rintro e w3 ⟨rfl,Z,p⟩;have i:xx (U.length<=ms.length):=ae (by have:=RP ms;rwa [d.out]at this)
 have X:xx (w3.heap[g]? =some (.cells (Ah (Ee .i64) 0 (U++Jj (ms.length-(U).length) 0).toArray J) 3 (0,0))):=ae (by
  rw [p];have:=NU k.out (U++Jj (ms.length-(U).length) 0).toArray Z #[];rwa [Xh]at this)
 have S:xx (aI g s w3):=ae (by
  rw [p];have:=TU (w:=s) (g:=g) (U++Jj (ms.length-(U).length) 0).toArray Z #[];rwa [Xh]at this)
 have T:=ae (NS (U++Jj (ms.length-(U).length) 0).toArray J (by have:=i.out;have:=c.out;rw [j.out];simp;omega));have Ai:=ae ((NT (U++Jj (ms.length-(U).length) 0).toArray J).trans j.out);clear p;go_wp2_with fail;go_ret;refine⟨_,rfl,N7 F.out X.out (by have:=i.out;have:=c.out;omega) HM.out Ai.out ?_,?_⟩
 ·have h:=T.out;have N:(U++Jj (ms.length-(U).length) 0).toArray.size=ms.length:=by have:=i.out;simp;omega
  rw [N]at h;have t:=congrArg (List.take (U).length) h;rw [List.take_take,Nat.min_eq_left i.out]at t;rw [t];simp [fA]
 ·exact G.out.trans ((SK.out.trans S.out).below F.out G.out.size)
theorem Pl.zW{l:List Int}(h:fP l=true):l.length<=12:=by
 have key:∀k,k<l.length->(k:Int)<=Pl.nm l k:=by
  intro k;induction k with
  |zero=>intro b;have:=nS h 0 b;rw [uf]at this;simp at this;exact this.1
  |succ k c=>
   intro b;have d:=c (by omega);have a:=nS h (k+1) b;rw [pU]at a;simp at a;omega
 rcases GX 12 l.length with g|g
 ·have d:=key 12 g;have a:=fO h _ (aad g);rw [<-vH l 12 g]at a;omega
 ·exact g
theorem bx5{w:xk}{b:Nat}{c0 c1 c2 c a:GM}{T:TypeId}(h:w.heap[b]? =some (.cells #[c0,c1,c2,c,a] T)):
  (w.cell? ⟨b,0,none⟩=some c0/\w.cell? ⟨b,1,none⟩=some c1/\w.cell? ⟨b,2,none⟩=some c2/\w.cell? ⟨b,3,none⟩=some c/\w.cell? ⟨b,4,none⟩=some a)/\(∀o,w.frozen? ⟨b,o,none⟩=false)/\b<w.heap.size:=by
 refine⟨⟨?_,?_,?_,?_,?_⟩,fun o=> ?_,aG h⟩;iterate 5 simp [Tf,h]
 simp [VB,h]
theorem three{w:xk}(A B C:Obj):((((w.alloc A).alloc B).alloc C).heap[w.heap.size]? =some A)/\((((w.alloc A).alloc B).alloc C).heap[w.heap.size+1]? =some B)/\((((w.alloc A).alloc B).alloc C).heap[w.heap.size+2]? =some C)/\(((w.alloc A).alloc B).alloc C).heap.size=w.heap.size+3/\qL w.heap.size w (((w.alloc A).alloc B).alloc C):=by
 have b:(w.alloc A).heap.size=w.heap.size+1:=by simp
 have a:((w.alloc A).alloc B).heap.size=w.heap.size+2:=by simp
 refine⟨?_,?_,?_,by simp,(((rU _ _).alloc (qh _) _).alloc (by simp) _).alloc (by simp;omega) _⟩
 ·rw [SQ _ _ _ (by simp;omega),SQ _ _ _ (by simp)];exact ji w A
 ·rw [SQ _ _ _ (by simp)];have:=ji (w.alloc A) B;rwa [b]at this
 ·have:=ji ((w.alloc A).alloc B) C;rwa [a]at this
theorem ZJ(base:Nat)(g h:Pl.RH)(r s:Pl.Rt)(w:xk)(H:bU w base g r)(hh:bU w base h s)(hb:base<=w.heap.size)(S:fP r.aH=true)(R:fP s.aH=true)(A:s.cost=r.cost->r.aH≠ []):
  OE oP 107 #[.agg #[.int .i64 g.p.1,.int .i64 g.p.2,.bool g.here,.int .i64 g.cost,.slice g.ha g.hl g.hc],.agg #[.int .i64 h.p.1,.int .i64 h.p.2,.bool h.here,.int .i64 h.cost,.slice h.ha h.hl h.hc]] w fun e w'=>
   ∃k:Pl.RH,e= .returned (.agg #[.int .i64 k.p.1,.int .i64 k.p.2,.bool k.here,.int .i64 k.cost,.slice k.ha k.hl k.hc])/\bU w' base k (iY r s)/\qL w.heap.size w w':=by
 have u:=ae H;have N:=ae hh;have f:xx (g.cost=r.cost):=ae H.2.2.1;have d:xx (h.cost=s.cost):=ae hh.2.2.1;have t:xx (g.hl=r.aH.length):=ae (by
  obtain⟨a,cap,e,_,_⟩:=H.2.2.2.1.ints;simp only [BD]at e;exact e.2.1)
 have F:xx (h.hl=s.aH.length):=ae (by
  obtain⟨a,cap,e,_,_⟩:=hh.2.2.2.1.ints;simp only [BD]at e;exact e.2.1)
 have Z:=ae S;have Y:=ae R;have Xw:=ae A;clear H hh S R A;obtain⟨⟨p1,p2⟩,n,gc,o,m,q⟩:=g;obtain⟨⟨y,x⟩,i,hc,ha,hl,b⟩:=h;simp only at u N f d t F;simp only;have P:=ae (three (w:=w) (.cells #[.int .i64 p1,.int .i64 p2,.bool n,.int .i64 gc,.slice o m q] 80) (.cells #[.int .i64 y,.int .i64 x,.bool i,.int .i64 hc,.slice ha hl b] 80) (.cells #[.int .i64 0,.int .i64 0,.bool false,.int .i64 0,.slice none 0 0] 80));by_cases c:hc<gc
 ·have C:decide (hc<gc)=true:=by simpa using c
  have z:xx (iY r s=s):=ae (by unfold iY;rw [af (by rw [<-d.out,<-f.out];exact c)]);clear c;go_enter Tryz.func107,Tryz.ntmps107;go_wp2_with fail;have l:=ae (three (w:=w) (.cells #[.int .i64 p1,.int .i64 p2,.bool n,.int .i64 gc,.slice o m q] 80) (.cells #[.int .i64 y,.int .i64 x,.bool i,.int .i64 hc,.slice ha hl b] 80) (.cells #[.int .i64 y,.int .i64 x,.bool i,.int .i64 hc,.slice ha hl b] 80)).2.2.2.2;refine xn (v:= .agg #[.int .i64 y,.int .i64 x,.bool i,.int .i64 hc,.slice ha hl b]) (by simp [results,Tryz.results107,go_sem]) rfl ⟨⟨(y,x),i,hc,ha,hl,b⟩,rfl,?_,l.out⟩;rw [z.out];exact N.out.below l.out
 ·have C:decide (hc<gc)=false:=by simpa using c
  by_cases heq:hc=gc
  ·have D:(hc==gc)=true:=by simpa using heq
   have z:xx (iY r s=⟨r.p,r.here,r.cost,sW r.aH s.aH⟩):=ae (by unfold iY;rw [ag (by rw [<-d.out,<-f.out];exact c),af (by rw [<-d.out,<-f.out];exact heq)]);obtain⟨U,X⟩:=ai (sW r.aH s.aH);rw [X.out]at z;have M:=ae (zW Z.out);have L:=ae (zW Y.out);have HN:xx (0<m):=ae (by
    rw [t.out];exact List.length_pos_iff.2 (Xw.out (by rw [<-d.out,<-f.out];exact heq)))
   have E:=ae (U0 o ha m q hl b r.aH s.aH _ ((u.out.below P.out.2.2.2.2).reads.1.2.2.2.1) ((N.out.below P.out.2.2.2.2).reads.1.2.2.2.1) HN.out (by rw [t.out];exact M.out) (by rw [F.out];exact L.out) (fO Z.out) (fO Y.out));clear heq c;go_enter Tryz.func107,Tryz.ntmps107;go_wp2_with fail;refine E.out.mono ?_;rw [X.out];rintro e I ⟨v4,rfl,G,j⟩;obtain⟨b0,b1,W,T,V⟩:=P.out;rw [T]at j G;obtain⟨⟨x0,x1,x2,x3,x4⟩,xf,xl⟩:=bx5 ((j.block w.heap.size (by omega)).trans b0);obtain⟨⟨y0,y1,y2,y3,y4⟩,yf,yl⟩:=bx5 ((j.block (w.heap.size+2) (by omega)).trans W);have O:xx (qL w.heap.size w I):=ae (V.trans (j.mono (by omega)));obtain⟨a4,K,rfl,_,_⟩:=G.ints;have Q:=ae G;clear G j b0 b1 W T V E;obtain⟨J,Xx⟩:=ai (U.length);rw [Xx.out]at Q⊢;go_wp2_with fail
   refine xn (v:= .agg #[.int .i64 p1,.int .i64 p2,.bool n,.int .i64 gc,.slice a4 J K]) (by simp [results,Tryz.results107,go_sem,y0,y1,y2,y3,y4]) rfl ⟨⟨(p1,p2),n,gc,a4,J,K⟩,rfl,?_,?_⟩
   ·rw [z.out];refine⟨u.out.1,u.out.2.1,u.out.2.2.1,?_,u.out.2.2.2.2⟩;refine dI.mono (base:=w.heap.size+3) ?_ (by omega);refine dI.but (B:=w.heap.size+2) (w:=I.setCell ⟨w.heap.size,4,none⟩ (.slice a4 J K)) (dI.but Q.out ((aI.refl w.heap.size I).setCell _ _) (.inl (by omega))) ?_ (.inl (by omega));exact(((((aI.refl _ _).setCell _ _).setCell _ _).setCell _ _).setCell _ _).setCell _ _
   ·have hle:w.heap.size<=w.heap.size+1+1:=by omega
    exact((((((O.out.setCell (qh _) _).setCell hle _).setCell hle _).setCell hle _).setCell hle _).setCell hle _)
  ·have D:(hc==gc)=false:=by simpa using heq
   have z:xx (iY r s=r):=ae (by unfold iY;rw [ag (by rw [<-d.out,<-f.out];exact c),ag (by rw [<-d.out,<-f.out];exact heq)]);clear heq c;go_enter Tryz.func107,Tryz.ntmps107;go_wp2_with fail;have l:=ae (three (w:=w) (.cells #[.int .i64 p1,.int .i64 p2,.bool n,.int .i64 gc,.slice o m q] 80) (.cells #[.int .i64 y,.int .i64 x,.bool i,.int .i64 hc,.slice ha hl b] 80) (.cells #[.int .i64 p1,.int .i64 p2,.bool n,.int .i64 gc,.slice o m q] 80)).2.2.2.2;refine xn (v:= .agg #[.int .i64 p1,.int .i64 p2,.bool n,.int .i64 gc,.slice o m q]) (by simp [results,Tryz.results107,go_sem]) rfl ⟨⟨(p1,p2),n,gc,o,m,q⟩,rfl,?_,l.out⟩;rw [z.out];exact u.out.below l.out
def xH(w:xk)(base:Nat)(hs:List Pl.RH)(rs:List Pl.Rt):Prop:=hs.length=rs.length/\∀i,i<hs.length->bU w base (Pl.rh hs i) (Pl.rt rs i)
theorem xH.take{w:xk}{base:Nat}{a:List Pl.RH}{rs:List Pl.Rt}(h:xH w base a rs)(n:Nat):xH w base (a.take n) (rs.take n):=by
 refine⟨by simp [h.1],fun i b=> ?_⟩;simp only [List.length_take]at b;rw [TR a n i (by omega) (by omega)];have:Pl.rt (rs.take n) i=Pl.rt rs i:=by
  have:=h.1;rw [Pl.rt_eq _ _ (by simp;omega),Pl.rt_eq _ _ (by omega)];simp
 rw [this];exact h.2 i (by omega)
theorem xH.drop{w:xk}{base:Nat}{a:List Pl.RH}{rs:List Pl.Rt}(h:xH w base a rs)(n:Nat):xH w base (a.drop n) (rs.drop n):=by
 refine⟨by simp [h.1],fun i b=> ?_⟩;simp only [List.length_drop]at b;rw [TS a n i (by omega)];have:Pl.rt (rs.drop n) i=Pl.rt rs (n+i):=by
  have:=h.1;rw [Pl.rt_eq _ _ (by simp;omega),Pl.rt_eq _ _ (by omega)];simp
 rw [this];exact h.2 (n+i) (by omega)
theorem xH.append{w:xk}{base:Nat}{a gs:List Pl.RH}{rs b:List Pl.Rt}(h:xH w base a rs)(k:xH w base gs b):xH w base (a++gs) (rs++b):=by
 refine⟨by simp [h.1,k.1],fun i c=> ?_⟩;simp only [Ru]at c;rcases GX i a.length with q|q
 ·rw [Di _ _ _ q,Dc _ _ _ (by rw [<-h.1];exact q)];exact h.2 i q
 ·have f:Pl.rh (a++gs) i=Pl.rh gs (i-a.length):=by
   rw [ru _ _ (by simp;omega),ru _ _ (by omega),Wq q]
  have e:Pl.rt (rs++b) i=Pl.rt b (i-a.length):=by
   have d:=h.1;have g:=k.1;rw [Pl.rt_eq _ _ (by simp;omega),Pl.rt_eq _ _ (by omega),Wq (by omega)];simp [d]
  rw [f,e];exact k.2 _ (by omega)
theorem xH.one{w:xk}{base:Nat}{x:Pl.RH}{r:Pl.Rt}(h:bU w base x r):xH w base [x] [r]:=⟨rfl,fun i a=>by simp at a;subst a;exact h⟩
theorem ig.TT{a0:Act}{s n m:Nat}{off:Nat->Option Nat}{V d:Nat->GM}{C:xk->Prop}{listed:Array Bool}{a:Act}{w:xk}
  (h:ig a0 s n m off V C listed a w)(g:∀k j,off k=some j->listed.getD k false=true->V j=d j):ig a0 s n m off d C listed a w:=by
 obtain⟨xs,hl,e,f⟩:=h.fr;exact⟨h.ls,⟨xs,hl,e,fun k j c b=>(f k j c b).trans (g k j c b)⟩,h.cw⟩
theorem adE(xs:List GM)(h:xs.length=10):∃k j i g f e d c b a,xs= [k,j,i,g,f,e,d,c,b,a]:=by
 match xs,h with
 | [k,j,i,g,f,e,d,c,b,a],_=>exact⟨k,j,i,g,f,e,d,c,b,a,rfl⟩
def Z4(w1:xk)(base g o:Nat)(r B:Pl.Rt)(listed:Array Bool)(x y:GM)(W:xk):Prop:=
 (listed.getD 10 false=false/\qL w1.heap.size w1 W/\(listed.getD 7 false=true->∃k:Pl.RH,x= .agg #[.int .i64 k.p.1,.int .i64 k.p.2,.bool k.here,.int .i64 k.cost,.slice k.ha k.hl k.hc]/\bU W base k r)/\
  (listed.getD 8 false=true->∃k:Pl.RH,y= .agg #[.int .i64 k.p.1,.int .i64 k.p.2,.bool k.here,.int .i64 k.cost,.slice k.ha k.hl k.hc]/\bU W base k B))\/
 (listed.getD 10 false=true/\∃(k:Pl.RH) (W0:xk),bU W0 base k B/\qL w1.heap.size w1 W0/\W=KL W0 g o k)
theorem Z4.quiet{b base g o r B listed x y W}{i:Nat}(h:Z4 b base g o r B listed x y W)(d:i≠7)(c:i≠8)(a:i≠10):Z4 b base g o r B (listed.setIfInBounds i true) x y W:=by
 unfold Z4 at h⊢;rw [O6 false d,O6 false c,O6 false a];exact h
theorem Vw(base:Nat)(v:GM)(m:List Pl.RH)(rs:List Pl.Rt)(x:Pl.RH)(r:Pl.Rt)(w:xk)(A:dG w base v m rs)(an:base<=w.heap.size)(Z:eY rs)(hlen:m.length<=1000)(hx:Reads w x r)(ad:fP r.aH=true)(d:∀q∈rs,fP q.aH=true)(a8:∀q∈rs,q.p=r.p->r.cost=q.cost->q.aH≠ []):
  OE oP 65 #[v,.agg #[.int .i64 x.p.1,.int .i64 x.p.2,.bool x.here,.int .i64 x.cost,.slice x.ha x.hl x.hc]] w fun e w'=>
   ∃v' bm,e= .returned v'/\dG w' base v' bm (Bh rs r)/\w.grownBy w' v.ownBlock:=by
 have HO:=ae A;have HX:=ae hx;have HZ:xx (xH w base m rs):=ae A.2;have Xg:xx (Pl.hp m=rs.map Pl.Rt.p):=ae A.reads.qA;have has:xN (Pl.hp m):=A.reads.asc Z;have Z7:xx (x.hl<=1000):=ae (by have T:=hx.2.2.2.1.1;have h2:=zW ad;omega);have U:xx (x.p=r.p):=ae hx.1;have Q:xx (Bh rs r=Ou rs (Pl.posP (Pl.hp m) x.p) (bu (Pl.hp m) x.p) (IU rs r)):=ae (by
  unfold Bh;rw [<-Gt,Yp,Xg.out,U.out])
 have bz:=ae ad;have qM:xx (m.length=rs.length):=ae A.2.1;obtain⟨⟨p1,p2⟩,here,cost,ha,hl,hc⟩:=x;simp only at HX Z7 U Q⊢;obtain⟨tt,HT⟩:=ai (bu (Pl.hp m) (p1,p2));obtain⟨b,HI⟩:=ai (Pl.posP (Pl.hp m) (p1,p2));have Ql:xx (b<=m.length):=ae (by rw [<-HI.out];have:=Ba (Pl.hp m) (p1,p2);rwa [sK]at this);have pq:xx (tt=true->b<m.length):=ae fun e=>by rw [<-HI.out];have:=jQ (by rw [HT.out];exact e:bu (Pl.hp m) (p1,p2)=true);rwa [sK]at this
 have HF:xx (∀W,qL w.heap.size w W->OE oP 67 #[v,.agg #[.int .i64 p1,.int .i64 p2]] W fun e w'=>e= .returned (.tuple #[.int .i64 b,.bool tt])/\qL W.heap.size W w'):=ae fun W C=>by
  obtain⟨a,cap,rfl,hr,_⟩:=(HO.out.1.below C).rows;have:=ui a m.length cap m p1 p2 W hr has (by omega);rwa [HT.out,HI.out]at this
 have V:xx (IU rs r=if tt then iY (Pl.rt rs b) r else r):=ae (by
  unfold IU;rw [<-Xg.out,<-U.out,HT.out,HI.out])
 have aw:xx (tt=true->fP (Pl.rt rs b).aH=true/\(r.cost=(Pl.rt rs b).cost->(Pl.rt rs b).aH≠ [])):=ae fun e=>by
  have hm:=XZ rs b (by have:=pq.out e;have:=qM.out;omega);refine⟨d _ hm,a8 _ hm ?_⟩;have X:bu (Pl.hp m) (p1,p2)=true:=by rw [HT.out];exact e
  have T:=xO X;rw [Xg.out]at T;rw [<-Xg.out,HI.out,Xg.out,qo rs b (by have:=pq.out e;have:=qM.out;omega)]at T;rw [T,U.out]
 rw [HT.out,HI.out]at Q;rw [Q.out];clear A has hx ad d a8 Z HT HI
 cases tt
 ·have HE:xx (Ou rs b false (IU rs r)=rs.take b++([r]++rs.drop b)):=ae (by rw [V.out];rfl);rw [HE.out];clear HE V Q aw;have Qm:xx (∀W,qL w.heap.size w W->OE oP 69 #[.agg #[.int .i64 p1,.int .i64 p2,.bool here,.int .i64 cost,.slice ha hl hc]] W fun e w'=>∃g:Pl.RH,e= .returned (.agg #[.int .i64 g.p.1,.int .i64 g.p.2,.bool g.here,.int .i64 g.cost,.slice g.ha g.hl g.hc])/\bU w' W.heap.size g r/\qL W.heap.size W w'):=ae fun W C=>uh ⟨(p1,p2),here,cost,ha,hl,hc⟩ r W (HX.out.below C) Z7.out;go_enter Tryz.func65,Tryz.ntmps65;go_wp2_with fail;refine(HF.out _ ((rU _ _).alloc (qh _) _)).mono ?_;rintro e w1 ⟨rfl,O⟩;obtain⟨⟨y0,y1,y2,y3,y4⟩,bq,l⟩:=vJ (by simpa using O);have eH:=ae l;clear O l;go_wp2_with fail;refine(Qm.out _ eH.out).mono ?_;rintro e w2 ⟨k,rfl,aE,bc⟩
  have bw:=ae (aE.mono (SN an eH.out.size));have ay:xx (qL w.heap.size w w2):=ae (eH.out.trans (bc.mono eH.out.size));have yR:=ae (HO.out.below ay.out);have hz:=ay.out.size;clear aE bc;go_wp2_with fail;refine(Iu base v m b k w2 yR.out.1 (by omega) (by omega) Ql.out).mono ?_;rintro e w3 ⟨v',rfl,a6,bb⟩;have vC:=ae a6;have bk:=ae bb;clear a6 bb;go_wp2_with fail;go_ret;have key:∀x y,bU w2 base x y->bU w3 base x y:=by
   intro x y ⟨q1,q2,q3,q4,q5⟩;exact⟨q1,q2,q3,Uz (aap q4 _) bk.out (Mc q4 yR.out.1),q5⟩
  have aD:xH w2 base (m.take b++([k]++m.drop b)) (rs.take b++([r]++rs.drop b)):=(xH.take yR.out.2 b).append ((xH.one bw.out).append (xH.drop yR.out.2 b));refine⟨_,m.take b++([k]++m.drop b),rfl,⟨vC.out,aD.1,fun i hi=>key _ _ (aD.2 i hi)⟩,?_⟩;exact eu (fQ ay.out) (eu (fQ ((rU _ _).alloc (qh _) _)) bk.out)
 ·have ak:=pq.out rfl;have aq:=ae (aw.out rfl);obtain⟨g,cap,rfl,bA,I,bo,hm,aR,aM⟩:=HO.out.1.opened (by omega);unfold Eb at hm;obtain⟨c0,c1,c2,c3,c4⟩:=aR b ak;have av:=ae (HZ.out.2 b ak);obtain⟨n,HN⟩:=ai (m.length);rw [HN.out]at HF ak bo hlen⊢;obtain⟨B,HB⟩:=ai (iY (Pl.rt rs b) r);have HE:xx (Ou rs b true (IU rs r)=rs.set b B):=ae (by
   rw [V.out];show rs.take b++iY (Pl.rt rs b) r::rs.drop (b+1)=_;rw [HB.out,List.set_eq_take_append_cons_drop,af (by have:=qM.out;have:=HN.out;omega)])
  rw [HE.out];obtain⟨old,bj⟩:=ai (Pl.rh m b);obtain⟨ro,bx⟩:=ai (Pl.rt rs b);rw [bj.out]at c0 c1 c2 c3 c4 av;rw [bx.out]at av aq HB;clear aR HE V Q aw;have Qm:xx (∀W,qL w.heap.size w W->OE oP 69 #[.agg #[.int .i64 p1,.int .i64 p2,.bool here,.int .i64 cost,.slice ha hl hc]] W fun e w'=>∃g:Pl.RH,e= .returned (.agg #[.int .i64 g.p.1,.int .i64 g.p.2,.bool g.here,.int .i64 g.cost,.slice g.ha g.hl g.hc])/\bU w' W.heap.size g r/\qL W.heap.size W w'):=ae fun W C=>uh ⟨(p1,p2),here,cost,ha,hl,hc⟩ r W (HX.out.below C) Z7.out;have aa:(b:Int)<(n:Int):=by omega
  go_enter Tryz.func65,Tryz.ntmps65;go_wp2_with fail;refine(HF.out _ ((rU _ _).alloc (qh _) _)).mono ?_;rintro e w1 ⟨rfl,O⟩;obtain⟨⟨y0,y1,y2,y3,y4⟩,bq,l⟩:=vJ (by simpa using O);have eH:=ae l;have nI:=ae (HO.out.below l);have hz:=l.size;have D0:=ae ((l.cell (p:=⟨g,0+b*5,none⟩) I).trans c0);have D1:=ae ((l.cell (p:=⟨g,0+b*5+1,none⟩) I).trans c1);have D2:=ae ((l.cell (p:=⟨g,0+b*5+2,none⟩) I).trans c2);have D3:=ae ((l.cell (p:=⟨g,0+b*5+3,none⟩) I).trans c3);have D4:=ae ((l.cell (p:=⟨g,0+b*5+4,none⟩) I).trans c4);have DF:xx (∀o,w1.frozen? ⟨g,o,none⟩=false):=ae fun o=>(l.frozen (p:=⟨g,o,none⟩) I).trans (aM o);rw [Pe]at D0 D1 D2 D3 D4;have br:=ae (av.out.below l);have Y:=ae (OO y0 (OO y1 (OO y2 (OO y3 y4))));clear O l c0 c1 c2 c3 c4 aM y0 y1 y2 y3 y4
  have Zc:w.heap.size<w1.heap.size:=by omega
  have z:g<w1.heap.size:=by omega
  go_wp2_with fail;generalize P:Act.mk _ _=a0;have s:22+10<=a0.tmps.size:=by
   have:a0.tmps.size=33:=by rw [<-P];rfl
   omega
  have q0:a0.tmps[0]?.getD xh= .slice (some ⟨g,0,none⟩) n cap:=by rw [<-P];rfl
  have q3:a0.tmps[3]?.getD xh= .pointer (some ⟨w.heap.size,0,none⟩):=by rw [<-P];rfl
  have q5:a0.tmps[5]?.getD xh= .int .i64 b:=by rw [<-P];rfl
  refine X6 (by kernel_rfl) ?_;refine cO (fun listed a W=>∃x y,ig a0 22 10 11 (fun k=>if k<10 then some k else none)
   (fun j=>([.slice (some ⟨g,0,none⟩) n cap,.int .i64 b,.slice (some ⟨g,0,none⟩) n cap,.int .i64 b,.pointer (some ⟨g,b*5,none⟩),.agg #[.int .i64 old.p.1,.int .i64 old.p.2,.bool old.here,.int .i64 old.cost,.slice old.ha old.hl old.hc],.agg #[.int .i64 p1,.int .i64 p2,.bool here,.int .i64 cost,.slice ha hl hc],x,y,.pointer (some ⟨g,b*5,none⟩)]:List GM).getD j xh)
   (fun _=>True) listed a W/\Z4 w1 base g (b*5) r B listed x y W) ?_ ?_ _ _ _ _ (by decide+kernel) ?_ (bn _ _ _)
  ·rintro i listed a W hi R ⟨x,y,f,C⟩;rw [aao]at hi;obtain⟨ba,o,ho,d⟩:=hi;have bs:i<11:=(Array.getElem?_eq_some_iff.1 ho).1;have o0:=(f.out (k:=0) (by omega)).trans q0;have o3:=(f.out (k:=3) (by omega)).trans q3;have o5:=(f.out (k:=5) (by omega)).trans q5;have a7:listed.getD i false=false:=by
    have bp:i<listed.size:=by rw [f.ls];exact bs
    simp [bp]at ba⊢;exact ba
   have J:listed.getD 10 false=false:=by
    cases h:listed.getD 10 false with
    |false=>rfl
    |true=>
     exfalso;have e8:=R 10 _ rfl h ⟨8,.data⟩ (by simp) rfl;have e9:=R 10 _ rfl h ⟨9,.data⟩ (by simp) rfl;have e5:=R 8 _ rfl e8 ⟨5,.data⟩ (by simp) rfl;have e7:=R 8 _ rfl e8 ⟨7,.data⟩ (by simp) rfl;have e6:=R 7 _ rfl e7 ⟨6,.data⟩ (by simp) rfl;have e4:=R 5 _ rfl e5 ⟨4,.data⟩ (by simp) rfl;have S:=R 4 _ rfl e4 ⟨2,.data⟩ (by simp) rfl;have e3:=R 4 _ rfl e4 ⟨3,.data⟩ (by simp) rfl;have e0:=R 9 _ rfl e9 ⟨0,.data⟩ (by simp) rfl;have L:=R 9 _ rfl e9 ⟨1,.data⟩ (by simp) rfl;have G:i=0\/i=1\/i=2\/i=3\/i=4\/i=5\/i=6\/i=7\/i=8\/i=9\/i=10:=by omega
     rcases G with rfl|rfl|rfl|rfl|rfl|rfl|rfl|rfl|rfl|rfl|rfl<;>simp_all
   obtain⟨c,h7,h8⟩:qL w1.heap.size w1 W/\(listed.getD 7 false=true->∃k:Pl.RH,x= .agg #[.int .i64 k.p.1,.int .i64 k.p.2,.bool k.here,.int .i64 k.cost,.slice k.ha k.hl k.hc]/\bU W base k r)/\(listed.getD 8 false=true->∃k:Pl.RH,y= .agg #[.int .i64 k.p.1,.int .i64 k.p.2,.bool k.here,.int .i64 k.cost,.slice k.ha k.hl k.hc]/\bU W base k B):=by
    rcases C with⟨_,h⟩|⟨h,_⟩
    ·exact h
    ·rw [J]at h;cases h
   have G:i=0\/i=1\/i=2\/i=3\/i=4\/i=5\/i=6\/i=7\/i=8\/i=9\/i=10:=by omega
   rcases G with rfl|rfl|rfl|rfl|rfl|rfl|rfl|rfl|rfl|rfl|rfl
   all_goals
    simp at ho;subst ho;refine au rfl rfl ?_
   ·simp [oC,go_sem,o0];exact⟨x,y,f.put (i:=0) (j:=0) rfl (by omega) rfl trivial,C.quiet (by omega) (by omega) (by omega)⟩
   ·simp [oC,go_sem,o5];exact⟨x,y,f.put (i:=1) (j:=1) rfl (by omega) rfl trivial,C.quiet (by omega) (by omega) (by omega)⟩
   ·simp [oC,go_sem,o0];exact⟨x,y,f.put (i:=2) (j:=2) rfl (by omega) rfl trivial,C.quiet (by omega) (by omega) (by omega)⟩
   ·simp [oC,go_sem,o5];exact⟨x,y,f.put (i:=3) (j:=3) rfl (by omega) rfl trivial,C.quiet (by omega) (by omega) (by omega)⟩
   ·have L:a.tmps[24]?.getD xh= .slice (some ⟨g,0,none⟩) n cap:=f.at (k:=2) (j:=2) s rfl (by omega) (d ⟨2,.data⟩ (by simp) rfl);have S:a.tmps[25]?.getD xh= .int .i64 b:=f.at (k:=3) (j:=3) s rfl (by omega) (d ⟨3,.data⟩ (by simp) rfl);simp [oC,go_sem,L,S,aa];exact⟨x,y,f.put (i:=4) (j:=4) rfl (by omega) rfl trivial,C.quiet (by omega) (by omega) (by omega)⟩
   ·have L:a.tmps[26]?.getD xh= .pointer (some ⟨g,b*5,none⟩):=f.at (k:=4) (j:=4) s rfl (by omega) (d ⟨4,.data⟩ (by simp) rfl);have f0:=(c.cell (p:=⟨g,b*5,none⟩) z).trans D0.out;have f1:=(c.cell (p:=⟨g,b*5+1,none⟩) z).trans D1.out;have f2:=(c.cell (p:=⟨g,b*5+2,none⟩) z).trans D2.out;have f3:=(c.cell (p:=⟨g,b*5+3,none⟩) z).trans D3.out;have f4:=(c.cell (p:=⟨g,b*5+4,none⟩) z).trans D4.out;simp [oC,go_sem,L,f0,f1,f2,f3,f4];exact⟨x,y,f.put (i:=5) (j:=5) rfl (by omega) rfl trivial,C.quiet (by omega) (by omega) (by omega)⟩
   ·have f0:=(c.cell (p:=⟨w.heap.size,0,none⟩) Zc).trans Y.out.1;have f1:=(c.cell (p:=⟨w.heap.size,1,none⟩) Zc).trans Y.out.2.1;have f2:=(c.cell (p:=⟨w.heap.size,2,none⟩) Zc).trans Y.out.2.2.1;have f3:=(c.cell (p:=⟨w.heap.size,3,none⟩) Zc).trans Y.out.2.2.2.1;have f4:=(c.cell (p:=⟨w.heap.size,4,none⟩) Zc).trans Y.out.2.2.2.2;simp [oC,go_sem,o3,f0,f1,f2,f3,f4];exact⟨x,y,f.put (i:=6) (j:=6) rfl (by omega) rfl trivial,C.quiet (by omega) (by omega) (by omega)⟩
   ·have L:a.tmps[28]?.getD xh= .agg #[.int .i64 p1,.int .i64 p2,.bool here,.int .i64 cost,.slice ha hl hc]:=f.at (k:=6) (j:=6) s rfl (by omega) (d ⟨6,.data⟩ (by simp) rfl);simp [oC,go_sem,L];refine(Qm.out W (eH.out.trans (c.mono hz))).mono ?_;rintro e W' ⟨k,rfl,H,N⟩;refine⟨.agg #[.int .i64 k.p.1,.int .i64 k.p.2,.bool k.here,.int .i64 k.cost,.slice k.ha k.hl k.hc],y,ig.put (i:=7) (j:=7) (w':=W') (ig.TT f fun u j D M=> ?_) rfl (by omega) rfl trivial,.inl ⟨?_,c.trans (N.mono c.size),fun _=>⟨k,rfl,H.mono (by have:=c.size;omega)⟩,fun h=> ?_⟩⟩
    ·by_cases e7:u=7
     ·subst e7;rw [a7]at M;cases M
     ·by_cases F:u<10
      ·rw [af F]at D
       cases D;have G:u=0\/u=1\/u=2\/u=3\/u=4\/u=5\/u=6\/u=8\/u=9:=by omega
       rcases G with rfl|rfl|rfl|rfl|rfl|rfl|rfl|rfl|rfl<;>rfl
      ·rw [ag F]at D;cases D
    ·rw [O6 false (by omega)];exact J
    ·rw [O6 false (by omega)]at h;obtain⟨k2,S,z2⟩:=h8 h;exact⟨k2,S,z2.below N⟩
   ·obtain⟨E,rfl,z1⟩:=h7 (d ⟨7,.data⟩ (by simp) rfl);have L:a.tmps[27]?.getD xh= .agg #[.int .i64 old.p.1,.int .i64 old.p.2,.bool old.here,.int .i64 old.cost,.slice old.ha old.hl old.hc]:=f.at (k:=5) (j:=5) s rfl (by omega) (d ⟨5,.data⟩ (by simp) rfl);have S:a.tmps[29]?.getD xh= .agg #[.int .i64 E.p.1,.int .i64 E.p.2,.bool E.here,.int .i64 E.cost,.slice E.ha E.hl E.hc]:=f.at (k:=7) (j:=7) s rfl (by omega) (d ⟨7,.data⟩ (by simp) rfl);simp [oC,go_sem,L,S];have bg:=ZJ base old E ro r W (br.out.below c) z1 (by have:=c.size;omega) aq.out.1 bz.out aq.out.2;rw [HB.out]at bg;refine bg.mono ?_;rintro e W' ⟨k,rfl,H,N⟩
    refine⟨_,.agg #[.int .i64 k.p.1,.int .i64 k.p.2,.bool k.here,.int .i64 k.cost,.slice k.ha k.hl k.hc],ig.put (i:=8) (j:=8) (w':=W') (ig.TT f fun u j D M=> ?_) rfl (by omega) rfl trivial,.inl ⟨?_,c.trans (N.mono c.size),fun _=>⟨E,rfl,z1.below N⟩,fun _=>⟨k,rfl,H⟩⟩⟩
    ·by_cases e8:u=8
     ·subst e8;rw [a7]at M;cases M
     ·by_cases F:u<10
      ·rw [af F]at D
       cases D;have G:u=0\/u=1\/u=2\/u=3\/u=4\/u=5\/u=6\/u=7\/u=9:=by omega
       rcases G with rfl|rfl|rfl|rfl|rfl|rfl|rfl|rfl|rfl<;>rfl
      ·rw [ag F]at D;cases D
    ·rw [O6 false (by omega)];exact J
   ·have L:a.tmps[22]?.getD xh= .slice (some ⟨g,0,none⟩) n cap:=f.at (k:=0) (j:=0) s rfl (by omega) (d ⟨0,.data⟩ (by simp) rfl);have S:a.tmps[23]?.getD xh= .int .i64 b:=f.at (k:=1) (j:=1) s rfl (by omega) (d ⟨1,.data⟩ (by simp) rfl);simp [oC,go_sem,L,S,aa];exact⟨x,y,f.put (i:=9) (j:=9) rfl (by omega) rfl trivial,C.quiet (by omega) (by omega) (by omega)⟩
   ·obtain⟨E,rfl,z1⟩:=h8 (d ⟨8,.data⟩ (by simp) rfl);have L:a.tmps[31]?.getD xh= .pointer (some ⟨g,b*5,none⟩):=f.at (k:=9) (j:=9) s rfl (by omega) (d ⟨9,.data⟩ (by simp) rfl);have S:a.tmps[30]?.getD xh= .agg #[.int .i64 E.p.1,.int .i64 E.p.2,.bool E.here,.int .i64 E.cost,.slice E.ha E.hl E.hc]:=f.at (k:=8) (j:=8) s rfl (by omega) (d ⟨8,.data⟩ (by simp) rfl);have f0:=(c.cell (p:=⟨g,b*5,none⟩) z).trans D0.out;have f1:=(c.cell (p:=⟨g,b*5+1,none⟩) z).trans D1.out;have f2:=(c.cell (p:=⟨g,b*5+2,none⟩) z).trans D2.out;have f3:=(c.cell (p:=⟨g,b*5+3,none⟩) z).trans D3.out;have f4:=(c.cell (p:=⟨g,b*5+4,none⟩) z).trans D4.out;have ff:∀o,W.frozen? ⟨g,o,none⟩=false:=fun o=>(c.frozen (p:=⟨g,o,none⟩) z).trans (DF.out o);simp [oC,go_sem,L,S,f0,f1,f2,f3,f4,ff];refine⟨x,_,f.skip (i:=10) rfl trivial,.inr ⟨?_,E,W,z1,c,rfl⟩⟩
    have:10<listed.size:=by rw [f.ls];omega
    simp [this]
  ·rintro listed a W hr ⟨x,y,f,C⟩;rename_i K hK;have J:=mX (by decide+kernel) f.ls hr 10 (by decide);obtain⟨xs,aL,rfl,_⟩:=f.fr;obtain⟨x0,x1,x2,x3,x4,x5,x6,x7,x8,x9,rfl⟩:=adE xs aL;rcases C with⟨h,_⟩|⟨_,k,W0,H,bd,C⟩
   ·rw [J]at h;cases h
   have bt:=ae H;have bl:=ae bd;have bh:=ae C;clear f hr aL q0 q3 q5 s H bd C J;rw [<-P];simp only [setFrom];refine hK _ W ?_;go_wp2_with fail;go_ret;have Zh:=nI.out.below bl.out;have ar:=Zh.1;refine⟨_,m.set b k,rfl,?_,?_⟩
   ·rw [bh.out];have T:=ar.set b k;rw [HN.out]at T;refine⟨T,by rw [IA,IA];exact qM.out,fun t X=> ?_⟩;rw [IA]at X;by_cases e:t=b
    ·subst e;rw [JG m t k X,Pl.rt_eq _ _ (by rw [IA,<-qM.out];exact X)];rw [List.getElem_set_self];exact bt.out.set ar
    ·rw [Dh m b t k e,Pl.rt_eq _ _ (by rw [IA,<-qM.out];exact X),List.getElem_set_ne (Ne.symm e),<-Pl.rt_eq rs t (by rw [<-qM.out];exact X)];exact(Zh.2.2 t X).set ar
   ·rw [bh.out];have T:=eH.out.trans (bl.out.mono hz);exact eu (fQ T) (aI.KL W0 g (b*5) k).grown
  ·exact⟨xh,xh,ig.start s trivial,.inl ⟨by simp,(rU _ _).drew,fun h=>by simp at h,fun h=>by simp at h⟩⟩
theorem Pl.Dn(ps:List (Int×Int)):∀n i,i+n=ps.length->Pl.pfxN ps n i=0->∀j,i<=j->j<ps.length->iH (Pl.pr ps j)=0/\(0<j->oz (Pl.pr ps (j-1)) (Pl.pr ps j)=false)
 |0,i,h,_,j,a,b=>by omega
 |n+1,i,h,h0,j,a,b=>by
  by_cases g:iH (Pl.pr ps i)=0
  ·cases i with
   |zero=>
    rw [zM g]at h0;rcases aac a with e|a
    ·subst e;exact⟨g,fun h=>by omega⟩
    ·exact Dn ps n 1 (by omega) h0 j a b
   |succ m=>
    cases k:oz (Pl.pr ps m) (Pl.pr ps (m+1))
    ·rw [KX g k]at h0;rcases aac a with e|a
     ·subst e;exact⟨g,fun _=>k⟩
     ·exact Dn ps n (m+1+1) (by omega) h0 j a b
    ·rw [F6 g k]at h0;cases h0
  ·rw [Bd g]at h0;exact absurd h0 g
theorem Pl.pO{ps:List (Int×Int)}(h:fM ps=0):ps.length<=6/\(∀p∈ps,iH p=0)/\ps.Pairwise (fun p q=>dw p q=true):=by
 by_cases hl:ps.length<=6
 ·rw [xY hl]at h;have g:=Dn ps ps.length 0 (by omega) h;have f:∀p∈ps,iH p=0:=fun p hp=>by
   obtain⟨i,a,rfl⟩:=Qi hp;rw [<-jI ps i a];exact(g i (by omega) a).1
  refine⟨hl,f,List.pairwise_iff_getElem.2 fun i j a b e=> ?_⟩;rw [<-jI ps i a,<-jI ps j b];induction j with
  |zero=>omega
  |succ m d=>
   have c:dw (Pl.pr ps m) (Pl.pr ps (m+1))=true:=by
    have g1:=(g (m+1) (by omega) b).2 (by omega);have a1:=gm (g m (by omega) (by omega)).1;have a2:=gm (g (m+1) (by omega) b).1;unfold oz at g1;rw [qw];simp at g1;omega
   rcases GX i m with q|q
   ·exact qp (d (by omega) q) c
   ·obtain rfl:i=m:=by omega
    exact c
 ·rw [Dp (by omega)]at h;cases h
theorem Pl.AV(l:List UInt8):(Ej l).length<=6/\(∀p∈Ej l,iH p=0)/\(Ej l).Pairwise (fun p q=>dw p q=true):=by
 unfold Ej;split
 ·rename_i h;unfold NJ at h
  cases a:iP 47 l with
  |none=>simp
  |some ps=>rw [a]at h;exact pO h
 ·simp
theorem Pl.Df(l:List UInt8):(Ej l).Nodup:=(AV l).2.2.imp fun h=>Bc h
def Pl.IZ(ps:Nat->List (Int×Int))(a b:Nat):Int:=if a=b then 0 else yN ps a b
theorem Pl.adz(es:List aK)(a b:Nat):0<=yN (Pl.tS es) a b/\yN (Pl.tS es) a b<=1000:=by
 unfold yN;split
 ·exact KO (lW _).ok b
 ·omega
def Pl.wC(es:List aK)(f n:Nat):Int:=(dB (yN (Pl.tS es)) (Pl.tD es) f 12).cost n
def Pl.wH(es:List aK)(f n:Nat):List Int:=Pl.hopsL ((dB (yN (Pl.tS es)) (Pl.tD es) f 12).aH n) 12
theorem Pl.TJ(es:List aK){f:Nat}(c:f<12):Pl.wC es f f=0:=
 J4 (L:=IZ (Pl.tS es)) (fun a b h=>by unfold IZ;rw [ag h]) (fun a=>by unfold IZ;rw [af rfl]) c
theorem Pl.adb(es:List aK){f n:Nat}(e:f<12)(d:n≠f):Cj (fun c=>∃k,Pl.Way (IZ (Pl.tS es)) (Pl.tD es) f k n c) (Pl.wC es f n):=
 J5 (fun a b h=>by unfold IZ;rw [ag h]) (fun a=>by unfold IZ;rw [af rfl]) e d
theorem Pl.YA(es:List aK){f:Nat}(n:Nat)(e:f<12)(x:Int):x∈Pl.wH es f n↔∃k:Nat,x=(k:Int)/\Pl.Way (IZ (Pl.tS es)) (Pl.tD es) f k n (Pl.wC es f n):=by
 unfold Pl.wH;rw [tV];have key:=fun k=>G9 (L:=IZ (Pl.tS es)) (M:=yN (Pl.tS es)) (D:=Pl.tD es) (f:=f) (fun a b h=>by unfold IZ;rw [ag h]) (fun a=>by unfold IZ;rw [af rfl]) e n k;constructor
 ·rintro⟨j,_,d,c⟩;exact⟨j,d,(key j).1 c⟩
 ·rintro⟨j,d,c⟩;exact⟨j,c.klt.1,d,(key j).2 c⟩
theorem Pl.Nh(es:List aK)(f n:Nat): -1<=Pl.wC es f n/\Pl.wC es f n<=12000:=by
 have:=Pl.CB.iter (L:=yN (Pl.tS es)) (D:=Pl.tD es) (f:=f) (fun a b=>(adz es a b).2) 12 n;unfold Pl.wC;omega
theorem Pl.aaT(es:List aK){f:Nat}(b:f<12):Pl.wH es f f= []:=by
 cases h:Pl.wH es f f with
 |nil=>rfl
 |cons x xs=>
  have a:x∈Pl.wH es f f:=by rw [h];simp
  obtain⟨k,_,hw⟩:=(YA es f b x).1 a;exact absurd rfl hw.ne
theorem Pl.Qn(es:List aK){f n:Nat}(b:f<12)(c:n≠f)(h:0<=Pl.wC es f n):0<Pl.wC es f n/\Pl.wH es f n≠ []:=by
 rcases adb es b c with⟨e,_⟩|⟨_,⟨k,a⟩,_⟩
 ·omega
 ·refine⟨a.pos,fun e=> ?_⟩;have:=(YA es n b (k:Int)).2 ⟨k,rfl,a⟩;rw [e]at this;simp at this
def Pl.wz(es:List aK)(f:Nat):List Pl.Rt:=Pl.tabK (Pl.wC es f) (Pl.wH es f) (Pl.tP es) f 12
theorem Pl.FB(es:List aK){f:Nat}(g:f<12):Pl.WP (Pl.wC es f) (Pl.wH es f) (Pl.tP es) f:=by
 intro n h hc p hp;have a:=(AV _).2.1 p hp;have i:=Nh es f n;by_cases e:n=f
 ·subst e;have d:=TJ es g;have c:=aaT es g;refine⟨(ja _).2 ⟨a,?_,?_,?_⟩,?_⟩
  ·show 0<=Pl.wC es n n/\_;simp [Ep,d]
  ·simp [Ep,d,c]
  ·show fP (Pl.wH es n n)=true;rw [c];rfl
  ·simp [Ep,d]
 ·obtain⟨d,c⟩:=Qn es g e hc;have b:decide ((n:Int)=(f:Int))=false:=by simp;omega
  refine⟨(ja _).2 ⟨a,?_,?_,?_⟩,?_⟩
  ·show 0<=Pl.wC es f n/\Pl.wC es f n<=1048576;omega
  ·simp only [Ep,b];simpa using c
  ·exact Fa _ (qh _)
  ·simp only [Ep,b];symm;simp;omega
theorem Pl.Jw(es:List aK){f:Nat}(a:f<12):aaz (wz es f)/\∀r∈wz es f,Xp r:=
 U5 (FB es a) (fun _=>Df _) (fun _=>(AV _).1) 12 (qh _)
theorem Pl.FC(es:List aK){f:Nat}(a:f<12):gB (wz es f)=0:=(yz _).2 (Jw es a).1
theorem Pl.Nv(es:List aK)(f:Nat)(q:Int×Int):Pl.getR (wz es f) q=qQ (Pl.wC es f) (Pl.wH es f) (Pl.tP es) f q 12:=
 wB (fun _=>Df _) q 12
theorem Pl.Gf(C H node n)(rs:List Pl.Rt)(ps:List (Int×Int))(j:Nat)(h:j<ps.length):yM C H node n rs (ps.take (j+1))=Bh (yM C H node n rs (ps.take j)) (Ep C H node n (Pl.pr ps j)):=by
 unfold yM;rw [List.take_add_one,Xc h,List.foldl_append,jI ps j h];rfl
theorem Pl.Ol{ps:List (Int×Int)}(b:ps.Nodup){j:Nat}(h:j<ps.length):¬Pl.pr ps j∈ps.take j:=by
 intro hm;rw [jI ps j h]at hm;obtain⟨i,c,e⟩:=Qi hm;have a:i<j:=by simp at c;omega
 rw [List.getElem_take]at e;have:=(List.nodup_iff_pairwise_ne.1 b)
 exact(List.pairwise_iff_getElem.1 this i j (by omega) h a) e
theorem Pl.JY{C H P node}(hC:∀n,n<12->C n=0->n=node)(q:Int×Int):∀k,k<=12->∀a,qQ C H P node q k=some a->a.cost=0->node<k
 |0,_,a,e,_=>by cases e
 |k+1,g,a,e,h0=>by
  have f:=JY (H:=H) (P:=P) hC q k (by omega);unfold qQ at e;split at e
  ·have:=f a e h0;omega
  ·cases e
   cases d:qQ C H P node q k with
   |none=>
    rw [d]at h0;have:=hC k (by omega) h0;omega
   |some b=>
    rw [d]at h0;have c:(iY b (Ep C H node k q)).cost=0:=h0;unfold iY at c;split at c
    ·have:=hC k (by omega) c;omega
    ·split at c
     ·have:=f b d c;omega
     ·have:=f b d c;omega
theorem Pl.QQ(es:List aK){f k:Nat}(r:f<12)(t:k<12)(hc:0<=Pl.wC es f k){j:Nat}(v:j<(Pl.tP es k).length):
  let rs:=yM (Pl.wC es f) (Pl.wH es f) f k (Pl.tabK (Pl.wC es f) (Pl.wH es f) (Pl.tP es) f k) ((Pl.tP es k).take j)
  eY rs/\rs.length<=78/\(∀q∈rs,fP q.aH=true)/\(∀q∈rs,q.p=Pl.pr (Pl.tP es k) j->Pl.wC es f k=q.cost->q.aH≠ []):=by
 intro rs;have m:∀i,(Pl.tP es i).Nodup:=fun _=>Df _;have hl:∀i,(Pl.tP es i).length<=6:=fun _=>(AV _).1;have c:=tq (Pl.wC es f) (Pl.wH es f) (Pl.tP es) f k;have o:eY rs:=Gg _ _ _ _ _ _ c;have l:((Pl.tP es k).take j).Nodup:=(List.take_sublist _ _).nodup (m k);have g:∀q∈rs,Xp q:=by
  intro q d;have b:=lT o d;rw [Bg _ _ _ _ _ _ _ c l,wB m]at b;have s:=BJ (FB es r) q.p k (by omega);split at b
  ·rename_i hm;rw [<-Rq b];exact Ue (fun a ha=>(s a ha).1) (FB es r k t hc _ (List.mem_of_mem_take hm))
  ·exact(s q b).1
 refine⟨o,?_,fun q d=>((ja q).1 (g q d).1).2.2.2,fun q d hp w hh=> ?_⟩
 ·have b:=Gh (Pl.wC es f) (Pl.wH es f) f k ((Pl.tP es k).take j) (Pl.tabK (Pl.wC es f) (Pl.wH es f) (Pl.tP es) f k);have z:=FD (C:=Pl.wC es f) (H:=Pl.wH es f) (node:=f) hl k;have y:=hl k;have x:((Pl.tP es k).take j).length<=6:=by simp;omega
  show(yM _ _ _ _ _ _).length<=78;omega
 ·have b:=lT o d;rw [Bg _ _ _ _ _ _ _ c l,wB m,hp,ag (Ol (m k) v)]at b;obtain⟨g1,g2⟩:=g q d;have g3:=((ja q).1 g1).2.2.1;have u:q.cost=0:=by
   cases e:q.here
   ·rw [e]at g3;simp only [aab,if_false]at g3;exact absurd hh g3
   ·rw [e]at g3;simp only [if_true]at g3;exact g3.1
  have hC:∀n,n<12->Pl.wC es f n=0->n=f:=fun n _ h=>by
   rcases Nat.decEq n f with e|e
   ·have:=(Qn es r e (by omega)).1;omega
   ·exact e
  have a1:=JY hC _ k (by omega) q b u;have a2:=hC k t (by omega);omega
theorem Pl.U4(es:List aK)(f k:Nat)(h:0<=Pl.wC es f k):Pl.tabK (Pl.wC es f) (Pl.wH es f) (Pl.tP es) f (k+1)=yM (Pl.wC es f) (Pl.wH es f) f k (Pl.tabK (Pl.wC es f) (Pl.wH es f) (Pl.tP es) f k) (Pl.tP es k):=by
 show(if _ then _ else _)=_;rw [ag (by omega)]
theorem Pl.U3(es:List aK)(f k:Nat)(h:Pl.wC es f k<0):Pl.tabK (Pl.wC es f) (Pl.wH es f) (Pl.tP es) f (k+1)=Pl.tabK (Pl.wC es f) (Pl.wH es f) (Pl.tP es) f k:=by
 show(if _ then _ else _)=_;rw [af h]
theorem Hy:∀(ts:List (Int×GM×List Int)) (i:Nat) (a:i<ts.length),(cellsW ts)[i*2]? =some (.int .i64 ts[i].1)/\(cellsW ts)[i*2+1]? =some ts[i].2.1
 | [],i,h=>by simp at h
 |p::r,0,_=>by simp [cellsW]
 |p::r,i+1,h=>by
  have:=Hy r i (by simpa using h);rw [show(i+1)*2=i*2+2 by omega];simpa [cellsW]using this
theorem qV.cells{w:xk}{base:Nat}{v:GM}{ts:List (Int×GM×List Int)}(h:qV w base v ts):
  ∃a cap,v= .slice a ts.length cap/\ts.length<=cap/\cap<=Eb/\(ts= []\/∃g,a=some ⟨g,0,none⟩/\g<w.heap.size/\∀i (k:i<ts.length),w.cell? ⟨g,i*2,none⟩=some (.int .i64 ts[i].1)/\w.cell? ⟨g,i*2+1,none⟩=some ts[i].2.1):=by
 obtain⟨⟨_,⟨h,f⟩|⟨g,cap,cur,rfl,o,hh,m,hm,n,l⟩⟩,_⟩:=h
 ·have e:ts= []:=List.length_eq_zero_iff.1 f;subst e;exact⟨none,0,h,qh _,by simp,.inl rfl⟩
 ·refine⟨_,cap,rfl,m,hm,.inr ⟨g,rfl,aG hh,fun i k=> ?_⟩⟩;have b:∀j u,(cellsW ts)[j]? =some u->w.cell? ⟨g,j,none⟩=some u:=by
   intro j u c;rw [<-l]at c;have d:cur[j]? =some u:=by
    rw [MJ]at c;split at c
    ·rw [<-Jk];exact c
    ·cases c
   simp [Tf,hh,d]
  obtain⟨h0,f⟩:=Hy ts i k;exact⟨b _ _ h0,b _ _ f⟩
theorem Pl.vY(s:Pl.DS):∀k,(EM s k).length=k
 |0=>rfl
 |k+1=>by simp [EM,vY s k]
theorem Pl.TG(s:Pl.DS):∀k i,i<k->(EM s k)[i]? =some (s.cost i,Pl.hopsL (s.aH i) 12)
 |0,i,h=>by omega
 |k+1,i,h=>by
  unfold EM;rcases GX i k with g|g
  ·rw [List.getElem?_append_left (by rw [vY];exact g)];exact TG s k i g
  ·obtain rfl:i=k:=by omega
   rw [List.getElem?_append_right (by rw [vY];exact qh _),vY];simp
def WAt(w:xk)(es:List aK)(f g:Nat):Prop:=g<w.heap.size/\∀i,i<12->w.cell? ⟨g,i*2,none⟩=some (.int .i64 (Pl.wC es f i))/\
 ∃ah ch,w.cell? ⟨g,i*2+1,none⟩=some (.slice ah (Pl.wH es f i).length ch)/\fV w ah (Pl.wH es f i).length ch (Pl.wH es f i)
theorem qV.agr{w:xk}{base:Nat}{v:GM}{ts:List (Int×GM×List Int)}{es:List aK}{f:Nat}(h:qV w base v ts)(e:Pl.flat ts=KC es (f:Int))(hc:je es (f:Int)=0):
  ∃g cap,v= .slice (some ⟨g,0,none⟩) 12 cap/\12<=cap/\cap<=Eb/\WAt w es f g:=by
 have r:KC es (f:Int)=EM (dB (yN (Pl.tS es)) (Pl.tD es) f 12) 12:=by
  unfold KC;rw [af hc,OM]
 rw [r]at e;have hl:ts.length=12:=by
  have:=congrArg List.length e;rw [vY]at this;simpa [Pl.flat]using this
 obtain⟨a,cap,rfl,d,hm,j⟩:=h.cells;rcases j with rfl|⟨g,rfl,o,j⟩
 ·simp at hl
 ·rw [hl]at d⊢;refine⟨g,cap,rfl,d,hm,o,fun i n=> ?_⟩;have b:i<ts.length:=by omega
  obtain⟨l,k⟩:=j i b;have q:(Pl.flat ts)[i]? =some (Pl.wC es f i,Pl.wH es f i):=by rw [e];exact TG _ 12 i n
  simp only [Pl.flat,List.getElem?_map,Xc b,Option.map_some,Iy,Prod.mk.injEq]at q;have m:dI w 0 ts[i].2.1 ts[i].2.2:=h.2 _ (aad b);obtain⟨ah,ch,p,c,_⟩:=m.ints;refine⟨by rw [l,q.1],ah,ch,?_,?_⟩
  ·rw [k,p,q.2]
  ·rw [q.2]at c;exact c
theorem Pl.aaS{es:List aK}{f:Nat}(a:Pl.fault es=0)(h:f<12):je es (f:Int)=0:=by
 unfold je;rw [ag (by simp [a]),af (by omega)]
def Pl.uF(es:List aK)(f:Int):List Pl.Rt:=if je es f=0 then wz es f.toNat else []
theorem abT{w:xk}{b1 h:Nat}{u v:GM}{ps:List (Int×Int)}{c:List Pl.RH}(f:aU 49 w b1 u ps)(d:fF w h v c):u.ownBlock=none\/u.ownBlock≠v.ownBlock:=by
 obtain⟨_,⟨rfl,_⟩|⟨g,cap,cur,rfl,_,hh,_⟩⟩:=f
 ·exact .inl rfl
 ·right;obtain⟨_,⟨rfl,_⟩|⟨g2,b,i,rfl,_,a,_⟩⟩:=d
  ·simp [Qe]
  ·simp only [Qe,ne_eq,Iy];intro e;subst e;rw [hh]at a;simp at a
theorem abU{w:xk}{h b:Nat}{v:GM}{d:List Pl.RH}{cs:Array GM}{T:TypeId}(g:w.heap[b]? =some (.cells cs T))(hT:T≠80)(f:fF w h v d):some b≠v.ownBlock:=by
 obtain⟨_,⟨rfl,_⟩|⟨g2,c,i,rfl,_,a,_⟩⟩:=f
 ·simp [Qe]
 ·simp only [Qe,ne_eq,Iy];intro e;subst e;rw [g]at a;simp at a;exact hT a.2
theorem WQ(a:Option Addr)(len cap:Nat)(es:List aK)(f:Int)(w:xk)(h:bI w a len cap es)(hT:Ff w):
  OE oP 37 #[.slice a len cap,.int .i64 f] w fun e w'=>∃v t,e= .returned (.tuple #[v,.int .i64 (je es f)])/\dG w' w.heap.size v t (uF es f)/\qL w.heap.size w w':=by
 have HE:=ae h;have EU:=ae hT;clear h hT;obtain⟨cd,R⟩:=ai (je es f);rw [R.out];go_enter Tryz.func37,Tryz.ntmps37;go_wp2_with fail;refine(ZU a len cap es f w HE.out EU.out).mono ?_;rw [R.out];rintro e d ⟨v2,ts,rfl,H,K,r⟩;have E:=ae r;by_cases z:cd=0
 ·subst z;have aR:0<=f/\f<=11:=by
   have:=R.out;unfold je at this;split at this
   ·rename_i h;exact absurd this h
   ·split at this
    ·assumption
    ·cases this
  obtain⟨n,rfl⟩:∃n:Nat,f=n:=⟨f.toNat,by omega⟩
  have hn:n<12:=by omega
  have UN:xx (uF es (n:Int)=Pl.tabK (Pl.wC es n) (Pl.wH es n) (Pl.tP es) n 12):=ae (by unfold uF;rw [R.out,af rfl,OM];rfl);obtain⟨g2,c2,rfl,bt,aM,L⟩:=H.agr K R.out;unfold Eb at aM;have ba:=ae L;have bl:=ae (HE.out.below r);have bc:=ae (EU.out.below r);have Z:=L.1;clear H K r L aR;go_wp2_with fail;go_loopw [8,24] (fun v i wr=>∃(k:Nat) (t:List Pl.RH),k<=12/\i= .int .i64 k/\xx (dG wr d.heap.size v t (Pl.tabK (Pl.wC es n) (Pl.wH es n) (Pl.tP es) n k))/\xx (qL d.heap.size d wr)) (fun _ i _=>12-(Tq i).toNat)
  case atStart=>exact⟨0,[],by omega,rfl,ae (dG.nil _ _),ae (rU _ _)⟩
  case round=>
   obtain⟨k,t,hk,rfl,HO,HB⟩:=hrel;have IG:=HB.out.size;by_cases J:k<12
   ·obtain⟨z0,ah,ch,z1,z2⟩:=ba.out.2 k J;have ak:=ae z2;have z0:=(HB.out.cell (p:=⟨g2,k*2,none⟩) Z).trans z0;have z1:=(HB.out.cell (p:=⟨g2,k*2+1,none⟩) Z).trans z1;have bs:g2<wr.heap.size:=by omega
    have a6:=Nh es n k;have M:=ae (fun h=>U4 es n k h);have N:=ae (fun h=>U3 es n k h);have SY:=ae (fun h j hj=>QQ es (j:=j) hn J h hj);have bk:xx (fP (Pl.wH es n k)=true):=ae (Fa _ (qh _));have Xy:xx (∀p,Ep (Pl.wC es n) (Pl.wH es n) n k p=⟨p,((k:Int)==(n:Int)),Pl.wC es n k,Pl.wH es n k⟩):=ae fun p=>rfl;obtain⟨bb,a7⟩:∃b,((k:Int)==(n:Int))=b:=⟨_,rfl⟩
    rw [a7]at Xy;obtain⟨hl,bj⟩:=ai ((Pl.wH es n k).length);rw [bj.out]at z1 ak;obtain⟨c,HC⟩:=ai (Pl.wC es n k);rw [HC.out]at z0 a6 M N SY Xy;clear z2;obtain⟨W1,s⟩:=aV (wr.alloc (.cells #[.int .i64 c,.slice ah hl ch] 126));have yL:xx (W1.heap[wr.heap.size]? =some (.cells #[.int .i64 c,.slice ah hl ch] 126)):=ae (by rw [s.out];exact ji wr _);have F:xx (qL wr.heap.size wr W1):=ae (by rw [s.out];exact(rU _ _).alloc (qh _) _);have Jm:xx (qL d.heap.size d W1):=ae (HB.out.trans (F.out.mono IG));by_cases g:c<0
    ·have I:decide (c<0)=true:=by simpa using g
     have bd:=ae (N.out g);clear g;go_wp2_with fail;rw [<-s.out];go_roundw
     case rel=>exact⟨k+1,t,by omega,by go_num,ae (by rw [bd.out];exact HO.out.below F.out),Jm⟩
     case measure=>simp [Tq];omega
    ·have I:decide (c<0)=false:=by simpa using g
     have yS:=ae (M.out (by omega));have rQ:=ae (SY.out (by omega));clear g M N SY;go_wp2_with fail;rw [<-s.out];refine(DZ a len cap es k W1 (bl.out.below Jm.out) J (bc.out.below Jm.out)).mono ?_;rintro e w4 ⟨vl,rfl,wX,A⟩;obtain⟨pa,pc,rfl,G,_,ay⟩:=aU.shape wX (KT _);have bm:xx (qL d.heap.size d w4):=ae (Jm.out.trans (A.mono Jm.out.size));have a8:xx (w4.heap[wr.heap.size]? =some (.cells #[.int .i64 c,.slice ah hl ch] 126)):=ae ((A.block _ (by rw [s.out];simp)).trans yL.out);have sV:=ae ((HO.out.below F.out).below A);have ar:=ae (aU.mono wX (SN IG F.out.size));have aL:=G.2.1;have aE:=G.2.2.1;unfold Eb at aE;obtain⟨m,S⟩:=ai ((Pl.tP es k).length);rw [S.out]at rQ ar aL⊢;clear wX A G ay;go_wp2_with fail
     go_loopw [8,36] (fun v i o=>∃(j:Nat) (t:List Pl.RH),j<=m/\i= .int .i64 j/\xx (dG o d.heap.size v t (yM (Pl.wC es n) (Pl.wH es n) n k (Pl.tabK (Pl.wC es n) (Pl.wH es n) (Pl.tP es) n k) ((Pl.tP es k).take j)))/\xx (aU 49 o d.heap.size (.slice pa m pc) (Pl.tP es k))/\xx (o.heap[wr.heap.size]? =some (.cells #[.int .i64 c,.slice ah hl ch] 126))/\xx (qL d.heap.size d o)) (fun _ i _=>m-(Tq i).toNat)
     case atStart=>exact⟨0,t,aar _,rfl,sV,ar,a8,bm⟩
     case round=>
      obtain⟨j,q,hj,rfl,Q,aq,ad,UW⟩:=hrel;rename xk=>o
      obtain⟨x0,x1,bp,bo,aw⟩:=aQ ad.out;by_cases u:j<m
      ·obtain⟨br,bq,e1,Y,_,_⟩:=aq.out.shape (KT _);have av:xx (di o pa m pc (Pl.tP es k)):=ae (by
        simp only [BD]at e1;obtain⟨u1,u2,u3⟩:=e1;rw [u1,u2,u3];exact Y)
       clear e1 Y;have Qj:xx (dJ (Pl.pr (Pl.tP es k) j)):=ae (KT _ _ (uJ (Pl.tP es k) j (by rw [S.out];exact u)));obtain⟨b,off,rfl,bw,hr⟩:∃b off,pa=some ⟨b,off,none⟩/\b<o.heap.size/\eP o b off (Pl.tP es k):=by
        rcases av.out.2.2.2.2 with h|h
        ·have:=S.out;rw [h]at this;simp at this;omega
        ·exact h
       obtain⟨p0,p1⟩:=hr j (by rw [S.out];exact u);obtain⟨r1,r2,r3,r4⟩:=rQ.out j u;have l:=ae (OO r1 (OO r2 (OO r3 r4)));have Qh:=ae (Gf (Pl.wC es n) (Pl.wH es n) n k (Pl.tabK (Pl.wC es n) (Pl.wH es n) (Pl.tP es) n k) (Pl.tP es k) j (by rw [S.out];exact u));obtain⟨V,U,X⟩:∃x y,Pl.pr (Pl.tP es k) j=(x,y):=⟨_,_,rfl⟩
       rw [X]at p0 p1 Qj l Qh;rw [Xy.out]at Qh;simp only at p0 p1;clear hr X r1 r2 r3 r4 av;obtain⟨rs,qM⟩:=ai (yM (Pl.wC es n) (Pl.wH es n) n k (Pl.tabK (Pl.wC es n) (Pl.wH es n) (Pl.tP es) n k) ((Pl.tP es k).take j));rw [qM.out]at Q l Qh;obtain⟨O,aa⟩:=aV (o.alloc (.cells #[.int .i64 V,.int .i64 U] 49));have D:xx (qL o.heap.size o O):=ae (by rw [aa.out];exact(rU _ _).alloc (qh _) _);have B:xx (qL d.heap.size d O):=ae (UW.out.trans (D.out.mono UW.out.size));have C:=ae (Q.out.below D.out);have an:=ae (aq.out.below D.out);have P:xx (O.heap[wr.heap.size]? =some (.cells #[.int .i64 c,.slice ah hl ch] 126)):=ae ((D.out.block _ aw).trans ad.out);have bx:(j:Int)<(m:Int):=by omega
       have bh:xx (∀T,dG O d.heap.size T q rs->OE oP 65 #[T,.agg #[.int .i64 V,.int .i64 U,.bool bb,.int .i64 c,.slice ah hl ch]] O fun e w'=>∃v' q,e= .returned v'/\dG w' d.heap.size v' q (Bh rs ⟨(V,U),bb,c,Pl.wH es n k⟩)/\O.grownBy w' T.ownBlock):=ae fun T W=>
        Vw d.heap.size T q rs ⟨(V,U),bb,c,ah,hl,ch⟩ ⟨(V,U),bb,c,Pl.wH es n k⟩ O W B.out.size l.out.1 (by have:=l.out.2.1;have:=W.2.1;omega) ⟨rfl,rfl,rfl,ak.out.below B.out,Qj.out⟩ bk.out l.out.2.2.1 l.out.2.2.2
       go_wp2_with fail;rw [<-aa.out];refine(bh.out _ C.out).mono ?_;rintro e w6 ⟨v6,aD,rfl,I7,Qc⟩;have CO:=ae I7;have bg:xx (aU 49 w6 d.heap.size (.slice (some ⟨b,off,none⟩) m pc) (Pl.tP es k)):=ae (Uz an.out Qc (abT an.out C.out.1));have Z8:xx (w6.heap[wr.heap.size]? =some (.cells #[.int .i64 c,.slice ah hl ch] 126)):=ae ((Qc.block _ (aG P.out) (abU P.out (by decide) C.out.1)).trans P.out);have vW:xx (qL d.heap.size d w6):=ae (B.out.grown Qc B.out.size (fun i hi=>(Qd C.out.1 i hi).1));clear I7 Qc;go_wp2_with fail;go_roundw
       case rel=>exact⟨j+1,aD,by omega,by go_num,ae (by rw [Qh.out];exact CO.out),bg,Z8,vW⟩
       case measure=>simp [Tq];omega
      ·obtain rfl:j=m:=by omega
       have Qg:xx ((Pl.tP es k).take j=Pl.tP es k):=ae (List.take_of_length_le (by rw [S.out];exact qh _));go_wp2_with fail;go_roundw
       case rel=>exact⟨k+1,q,by omega,by go_num,ae (by have:=Q.out;rw [Qg.out]at this;rw [yS.out];exact this),UW⟩
       case measure=>simp [Tq];omega
   ·obtain rfl:k=12:=by omega
    go_wp2_with fail;refine xn (results_tmp2 rfl _ _ _) rfl ⟨_,t,ni rfl rfl,by rw [UN.out];exact HO.out.mono E.out.size,E.out.trans (HB.out.mono E.out.size)⟩
 ·have UN:xx (uF es f= []):=ae (by unfold uF;rw [R.out,ag z]);have bz:(cd != 0)=true:=by simpa using z
  clear H K r z;go_wp2_with fail;refine xn (results_tmp2 rfl _ _ _) rfl ⟨_,[],ni rfl rfl,by rw [UN.out];exact dG.nil _ _,E.out⟩
def SV.table(base:Nat)(rs:List Pl.Rt):SV:=⟨fun u W=>∃hs,dG W base u hs rs,fun _ _ _ hb ⟨hs,h⟩=>⟨hs,h.below hb⟩⟩
theorem QT{Q:Exit->Act->xk->Prop}{a0:Act}{f:xk}{B xb a m n:Nat}{q:Option Addr}{es:List aK}
  (u:a0.tmps.size=64)
  (M:a0.tmps[3]?.getD xh= .pointer (some ⟨xb,0,none⟩))
  (L:a0.tmps[5]?.getD xh= .pointer (some ⟨B,a*4,none⟩))
  (U:B<f.heap.size)
  (P:xb<f.heap.size)
  (Y:f.cell? ⟨xb,1,none⟩=some (.int .i64 a))
  (Z:f.cell? ⟨B,a*4+2,none⟩=some (.slice q m n))
  (HK:bI f q m n es)
  (hT:Ff f)
  (T:∀xs W,xs.length=21->(∃w,dG W f.heap.size (xs.getD 0 xh) w (uF es a))->(xs.getD 1 xh)= .int .i64 (je es a)->qL f.heap.size f W->Q .normal {a0 with tmps:=setFrom a0.tmps 6 xs} W):
  ∀ops,dX aat 2=some ops->(aaq 2 ops true).wp oP Q a0 f:=by
 intro ops aH;have X:=Rq (aH.symm.trans (rfl:dX aat 2=some _));subst X;clear aH;have d:6+21<=a0.tmps.size:=by omega
 refine X6 (by kernel_rfl) ?_;refine cO (kC a0 6 21 12 (fun k=>some (([12,13,14,15,16,17,18,11,19,20,0,1]:List Nat).getD k 0)) (SV.V [SV.table f.heap.size (uF es a),SV.eq (.int .i64 (je es a)),SV.any,SV.any,SV.any,SV.any,SV.any,SV.any,SV.any,SV.any,SV.any,SV.two (SV.table f.heap.size (uF es a)) (je es a),SV.eq (.pointer (some ⟨B,a*4,none⟩)),SV.eq (.pointer (some ⟨B,a*4,none⟩)),SV.eq (.pointer (some ⟨B,a*4+2,none⟩)),SV.eq (.slice q m n),SV.eq (.pointer (some ⟨xb,1,none⟩)),SV.eq (.int .i64 a),SV.two (SV.table f.heap.size (uF es a)) (je es a),SV.table f.heap.size (uF es a),SV.eq (.int .i64 (je es a))]) (fun W=>qL f.heap.size f W)) ?_ ?_ _ _ _ _ (by decide+kernel) ?_ (bn _ _ _)
 ·rintro i listed g W I jS b;rw [aao]at I;obtain⟨S,o,y,c⟩:=I;have sN:i<12:=(Array.getElem?_eq_some_iff.1 y).1;have O:=(b.out (k:=3) (by omega)).trans M;have N:=(b.out (k:=5) (by omega)).trans L;have K:=(b.cw.cell (p:=⟨xb,1,none⟩) P).trans Y;have kn:=(b.cw.cell (p:=⟨B,a*4+2,none⟩) U).trans Z;have z:i=0\/i=1\/i=2\/i=3\/i=4\/i=5\/i=6\/i=7\/i=8\/i=9\/i=10\/i=11:=by omega
  rcases z with rfl|rfl|rfl|rfl|rfl|rfl|rfl|rfl|rfl|rfl|rfl|rfl
  all_goals
   simp at y;subst y
  ·refine au rfl rfl ?_;simp [oC,go_sem,N];exact b.put (i:=0) (j:=12) rfl (by omega) (fun _ _ h=>h) rfl b.cw
  ·refine au rfl rfl ?_;have H:g.tmps[18]?.getD xh= .pointer (some ⟨B,a*4,none⟩):=b.at (k:=0) (j:=12) d rfl (by omega) (c ⟨0,.data⟩ (by simp) rfl);simp [oC,go_sem,H];exact b.put (i:=1) (j:=13) rfl (by omega) (fun _ _ h=>h) rfl b.cw
  ·refine au rfl rfl ?_;have G:g.tmps[19]?.getD xh= .pointer (some ⟨B,a*4,none⟩):=b.at (k:=1) (j:=13) d rfl (by omega) (c ⟨1,.data⟩ (by simp) rfl);simp [oC,go_sem,G];exact b.put (i:=2) (j:=14) rfl (by omega) (fun _ _ h=>h) rfl b.cw
  ·refine au rfl rfl ?_;have F:g.tmps[20]?.getD xh= .pointer (some ⟨B,a*4+2,none⟩):=b.at (k:=2) (j:=14) d rfl (by omega) (c ⟨2,.data⟩ (by simp) rfl);simp [oC,go_sem,F,kn];exact b.put (i:=3) (j:=15) rfl (by omega) (fun _ _ h=>h) rfl b.cw
  ·refine au rfl rfl ?_;simp [oC,go_sem,O];exact b.put (i:=4) (j:=16) rfl (by omega) (fun _ _ h=>h) rfl b.cw
  ·refine au rfl rfl ?_;have D:g.tmps[22]?.getD xh= .pointer (some ⟨xb,1,none⟩):=b.at (k:=4) (j:=16) d rfl (by omega) (c ⟨4,.data⟩ (by simp) rfl);simp [oC,go_sem,D,K];exact b.put (i:=5) (j:=17) rfl (by omega) (fun _ _ h=>h) rfl b.cw
  ·refine au rfl rfl ?_;have E:g.tmps[21]?.getD xh= .slice q m n:=b.at (k:=3) (j:=15) d rfl (by omega) (c ⟨3,.data⟩ (by simp) rfl);have C:g.tmps[23]?.getD xh= .int .i64 a:=b.at (k:=5) (j:=17) d rfl (by omega) (c ⟨5,.data⟩ (by simp) rfl);simp [oC,go_sem,E,C];refine(WQ q m n es a W (HK.below b.cw) (hT.below b.cw)).mono ?_;rintro e W' ⟨v,w,rfl,x,r⟩;exact b.put (i:=6) (j:=18) rfl (by omega) (SV.grow r) ⟨_,rfl,⟨w,x.mono b.cw.size⟩⟩ (b.cw.trans (r.mono b.cw.size))
  ·refine au rfl rfl ?_;obtain⟨l,hl,hp⟩:=b.at (k:=6) (j:=18) d rfl (by omega) (c ⟨6,.data⟩ (by simp) rfl);have hl:g.tmps[24]?.getD xh=_:=hl;simp [oC,go_sem,hl];exact b.put (i:=7) (j:=11) rfl (by omega) (fun _ _ h=>h) ⟨l,rfl,hp⟩ b.cw
  ·refine au rfl rfl ?_;obtain⟨l,hl,hp⟩:=b.at (k:=7) (j:=11) d rfl (by omega) (c ⟨7,.data⟩ (by simp) rfl);have hl:g.tmps[17]?.getD xh=_:=hl;simp [oC,go_sem,hl];exact b.put (i:=8) (j:=19) rfl (by omega) (fun _ _ h=>h) hp b.cw
  ·refine au rfl rfl ?_;obtain⟨l,hl,hp⟩:=b.at (k:=7) (j:=11) d rfl (by omega) (c ⟨7,.data⟩ (by simp) rfl);have hl:g.tmps[17]?.getD xh=_:=hl;simp [oC,go_sem,hl];exact b.put (i:=9) (j:=20) rfl (by omega) (fun _ _ h=>h) rfl b.cw
  ·refine au rfl rfl ?_;have h0:=b.at (k:=8) (j:=19) d rfl (by omega) (c ⟨8,.data⟩ (by simp) rfl);simp [oC,go_sem];exact b.put (i:=10) (j:=0) rfl (by omega) (fun _ _ h=>h) h0 b.cw
  ·refine au rfl rfl ?_;have A:g.tmps[26]?.getD xh= .int .i64 (je es a):=b.at (k:=9) (j:=20) d rfl (by omega) (c ⟨9,.data⟩ (by simp) rfl);simp [oC,go_sem,A];exact b.put (i:=11) (j:=1) rfl (by omega) (fun _ _ h=>h) rfl b.cw
 ·rintro listed g W R b;have s:=dm (by decide+kernel) b.ls R;obtain⟨xs,t,rfl,J⟩:=b.fr;exact T xs W t (J 10 0 rfl (s 10 (by decide))) (J 11 1 rfl (s 11 (by decide))) b.cw
 ·exact kC.start d (rU _ _).drew
theorem Pl.getR_filter{rs:List Pl.Rt}(c:eY rs)(f:Pl.Rt->Bool)(q:Int×Int):Pl.getR (rs.filter f) q=match Pl.getR rs q with|none=>none|some r=>if f r then some r else none:=by
 cases h:Pl.getR rs q with
 |none=>
  refine pV fun r i e=> ?_;have:=lT c (List.mem_filter.1 i).1;rw [e,h]at this;cases this
 |some r=>
  obtain⟨k,j⟩:=lC h;show _=if f r then some r else none;split
  ·rename_i g;rw [<-j];exact lT (uP f c) (List.mem_filter.2 ⟨k,g⟩)
  ·rename_i g;refine pV fun x d e=> ?_;obtain⟨b,a⟩:=List.mem_filter.1 d;have:=lT c b;rw [e,h]at this
   cases this;exact g a
theorem Pl.JZ:∀(a rs:List Pl.Rt) (q:Int×Int),eY rs->eY a->Pl.getR (oO rs a) q=match Pl.getR a q with|none=>Pl.getR rs q|some r=>some r
 | [],rs,q,_,_=>rfl
 |x::a,rs,q,h,b=>by
  have c:=b;unfold eY at b;rw [List.pairwise_cons]at b;show Pl.getR (oO (Pl.insR rs x) a) q=_;rw [JZ a _ q (Gw h) b.2,OV h];by_cases g:x.p=q
  ·have e:Pl.getR a q=none:=pV fun r d e=>by
    have:=b.1 r d;rw [e,g,kZ]at this;cases this
   rw [e];simp [Pl.getR,g]
  ·simp only [Pl.getR,ag g]
theorem Pl.Jt{rs:List Pl.Rt}(a:eY rs)(q:Int×Int):bu (rs.map Pl.Rt.p) q=(Pl.getR rs q).isSome:=by
 rw [zX a]
 cases bu (rs.map Pl.Rt.p) q<;>simp
theorem Pl.YK{a:List Pl.Rt}(c:eY a)(r:Pl.Rt):Eu a r=true↔Pl.getR a r.p=some r:=by
 unfold Eu;rw [zX c]
 cases h:bu (a.map Pl.Rt.p) r.p
 ·simp
 ·have b:=xO h;have d:=jQ h;rw [qo a _ (by simpa using d)]at b;generalize Pl.rt a (Pl.posP (a.map Pl.Rt.p) r.p)=x at*;obtain⟨e,g,i,f⟩:=x;obtain⟨rp,rh,rc,rl⟩:=r;simp only at b;subst b;simp [FU,and_assoc]
theorem Pl.XU{a b:List Pl.Rt}(c:eY b):eY (qN a b):=uP _ c
theorem Pl.Vt{a b:List Pl.Rt}(ha:eY a)(d:eY b):Dt a (qN a b) (lu a b)=b:=by
 unfold Dt;refine FI (DN _ _ (yC ha)) d fun q=> ?_;rw [JZ _ _ q (yC ha) (XU d),oZ _ _ ha,Pl.getR_filter ha];unfold qN;rw [Pl.getR_filter d]
 cases g:Pl.getR b q with
 |none=>
  simp only
  cases e:Pl.getR a q with
  |none=>rfl
  |some r=>
   simp only;rw [ag];simp only [decide_not,Rz,Ja,Decidable.not_not];obtain⟨j,f⟩:=lC e;unfold lu;refine List.mem_map.2 ⟨r,List.mem_filter.2 ⟨j,?_⟩,rfl⟩;rw [Jt d,f,g];rfl
 |some r=>
  obtain⟨j,f⟩:=lC g;simp only
  cases k:Eu a r
  ·simp
  ·have e:=(YK ha r).1 k;rw [f]at e;rw [e];simp only [Bool.not_true,aab,if_false];rw [af];simp only [decide_not,Rz,Ja];intro hm;unfold lu at hm;obtain⟨x,i,h⟩:=List.mem_map.1 hm;obtain⟨_,c⟩:=List.mem_filter.1 i;rw [h,f,Jt d,g]at c
   cases c
theorem Pl.Vu{a b:List Pl.Rt}(ha:gB a=0)(c:gB b=0):Lc a (qN a b) (lu a b)=0/\La a (qN a b) (lu a b)=b:=by
 have e:=Vt ((yz a).1 ha).2.2 ((yz b).1 c).2.2;unfold Lc La;rw [af ha,af ha,e,c];exact⟨rfl,af rfl⟩
theorem Pl.abI{a b:List Pl.Rt}(h:gB a=0)(k:gB b=0):um a b=0/\Hl a b=qN a b/\Hm a b=lu a b:=by
 have e:um a b=0:=by unfold um;rw [af h];exact k
 refine⟨e,?_,?_⟩
 ·unfold Hl;rw [af e]
 ·unfold Hm;rw [af e]
theorem Pl.Zj{a b:List Pl.Rt}(h:gB a=0):∀p∈lu a b,dJ p:=by
 intro p hp;unfold lu at hp;obtain⟨r,c,rfl⟩:=List.mem_map.1 hp;have c:=((yz a).1 h).2.1 r (List.mem_filter.1 c).1;have d:=gm ((ja r).1 c).1;exact gp ⟨by omega,by omega,by omega,by omega⟩
theorem IY(B:Nat)(s:Pl.Nt)(x:Pl.Ac)(a:Nat)(w:xk)(h:aT w B s)(I:x.a=a)(ha:a<12)(hf:Pl.fault (s.K a)=0)(ht:gB (s.T a)=0)(hT:Ff w):
  OE oP 118 #[.pointer (some ⟨B,0,none⟩),.agg #[.int .i64 x.kind,.int .i64 x.a,.int .i64 x.b,.int .i64 x.n,.int .i64 x.m,.int .i64 x.p.1,.int .i64 x.p.2,.string x.key,.string x.val]] w fun e w'=>
   e= .returned (.agg #[.int .i64 0,.slice none 0 0,.int .i64 0,.slice none 0 0])/\aT w' B {s with T:=cZ s.T a (wz (s.K a) a)}/\bG B w w':=by
 have HN:=ae h;have bw:=h.lt;have EU:=ae hT;have HF:=ae hf;have j:=ae ht;clear h hT hf ht;obtain⟨kind,xa,b,n,m,⟨p1,p2⟩,key,val⟩:=x;simp only at I⊢;subst I;have bt:(a:Int)<12:=by omega
 have lD:xx (∀e∈s.K a,e.ok):=ae (Pl.Good.ok ((bK _).1 HF.out));have Iw:xx (je (s.K a) (a:Int)=0):=ae (aaS HF.out ha);have UN:xx (uF (s.K a) (a:Int)=wz (s.K a) a):=ae (by unfold uF;rw [Iw.out,af rfl,OM]);have C:xx (gB (wz (s.K a) a)=0):=ae (FC (s.K a) ha);obtain⟨Y,HY⟩:=ai (wz (s.K a) a);obtain⟨X,HX⟩:=ai (s.T a);rw [HY.out]at UN C⊢;rw [HX.out]at j;obtain⟨b0,b1,bz,bb⟩:=two (w:=w) (.cells #[.int .i64 kind,.int .i64 (a:Int),.int .i64 b,.int .i64 n,.int .i64 m,.int .i64 p1,.int .i64 p2,.string key,.string val] 51) (.cells #[.int .i64 0,.slice none 0 0,.int .i64 0,.slice none 0 0] 40)
 obtain⟨W2,ak⟩:=aV ((w.alloc (.cells #[.int .i64 kind,.int .i64 (a:Int),.int .i64 b,.int .i64 n,.int .i64 m,.int .i64 p1,.int .i64 p2,.string key,.string val] 51)).alloc (.cells #[.int .i64 0,.slice none 0 0,.int .i64 0,.slice none 0 0] 40));rw [<-ak.out]at b0 b1 bz bb;obtain⟨q0,q1,q2,q3,q4,q5,q6,q7,q8⟩:=kz b0;have nH:=ae b1;have sU:=ae bb;have Q1:=ae q1;have ay:w.heap.size<W2.heap.size:=by omega
 have OT:B<W2.heap.size:=by omega
 clear q0 q2 q3 q4 q5 q6 q7 q8 b0 b1 bb;go_enter Tryz.func118,Tryz.ntmps118;go_wp2_with fail;rw [<-ak.out];go_quiet (fail);clear q1;go_wp2_with fail;rename_i K hK;obtain⟨W3,ad⟩:=aV (W2.drewN nq);rw [<-ad.out];have pG:xx (qL W2.heap.size W2 W3):=ae (by rw [ad.out];exact aO (rU _ _) _);have k:xx (qL w.heap.size w W3):=ae (sU.out.trans (pG.out.mono (by omega)));have bs:=pG.out.size;obtain⟨VP,VK,VT,R,h2,h3,h4,h5⟩:=HN.out.below k.out;obtain⟨ka,kc,ev,O,N,aD⟩:=(h3 a ha).shape lD.out;have t:=R.lq a ha;rw [ev]at t;obtain⟨L,g⟩:=h4 a ha;rw [HX.out]at g;obtain⟨xa,xc,S,H,_⟩:=g.1.rows;have q:=R.table a ha;rw [S]at q;have aR:=ae g;have aL:=ae H;have a6:=ae q;have WY:=ae (R.soft (a*4+3));have i:=R.lt
 refine QT (B:=B) (xb:=w.heap.size) (a:=a) rfl rfl rfl i (by omega) ((pG.out.cell (p:=⟨w.heap.size,1,none⟩) ay).trans Q1.out) t O (EU.out.below k.out) ?_ _ (by kernel_rfl);rw [UN.out,Iw.out];intro xs W GI M hc c;obtain⟨x0,x1,x2,x3,x4,x5,x6,x7,x8,x9,br,bq,bp,pM,bo,bm,bl,bk,bj,bh,bg,rfl⟩:=Uh xs GI;have hc:x1= .int .i64 0:=hc;subst hc;obtain⟨gs,M⟩:∃L,dG W W3.heap.size x0 L Y:=M;obtain⟨ya,yc,rfl,o,_⟩:=M.1.rows;have aw:xx (qL w.heap.size w W):=ae (k.out.trans (c.mono k.out.size));have U:=ae (aR.out.below c);have z:=ae (aL.out.below c);have A:=(c.cell (p:=⟨B,a*4+3,none⟩) i).trans a6.out;have V:=(c.frozen (p:=⟨B,a*4+3,none⟩) i).trans WY.out;have y:B<W.heap.size:=BG i c.size;have aM:=ae ((c.block _ (by omega)).trans ((pG.out.block _ (by omega)).trans nH.out))
 have yw:=c.size;obtain⟨dc,ds,dg⟩:=abI j.out C.out;obtain⟨lx,Xz⟩:=ai (L.length);obtain⟨ly,bc⟩:=ai (gs.length);rw [Xz.out]at z A;rw [bc.out]at o⊢;have F:=ae (aaA xa lx xc L X ya ly yc gs Y W z.out U.out.reads o M.reads);rw [dc,ds,dg]at F;have ar:=ae (Zj (a:=X) (b:=Y) j.out);have D:=ae (Vu j.out C.out);obtain⟨SL,a7⟩:=ai (qN X Y);obtain⟨GL,av⟩:=ai (lu X Y);rw [a7.out,av.out]at F D;rw [av.out]at ar;clear dc ds dg GI M o c R h2 h3 h4 h5 ev O N aD t g S H q;simp only [dC,spl];refine hK _ W ?_;go_wp2_with fail;refine F.out.mono ?_;rintro e w5 ⟨vs,vg,ks,rfl,r,Q,d⟩;obtain⟨sa,sc,rfl,J,_⟩:=r.1.rows;obtain⟨ga,gc,rfl,P,_,_⟩:=aU.shape Q ar.out;have jP:xx (qL w.heap.size w w5):=ae (aw.out.trans (d.mono aw.out.size))
 have E:=ae (WR xa lx xc L X sa ks.length sc ks SL ga GL.length gc GL w5 (z.out.below d) (U.out.reads.below d) J r.reads P);rw [D.out.1,D.out.2]at E;have Z:=(d.cell (p:=⟨B,a*4+3,none⟩) y).trans A;have aa:=(d.frozen (p:=⟨B,a*4+3,none⟩) y).trans V;have u:B<w5.heap.size:=BG y d.size;have Ky:=ae ((d.block _ (by omega)).trans aM.out);have oq:=d.size;obtain⟨lk,an⟩:=ai (ks.length);obtain⟨lg,aq⟩:=ai (GL.length);rw [an.out,aq.out]at E;rw [an.out,aq.out];clear r Q J P d A V;go_wp2_with fail;refine E.out.mono ?_;rintro e G ⟨v6,ps,rfl,I7,f⟩;obtain⟨ta,tc,rfl⟩:=az I7.1;have vW:xx (qL w.heap.size w G):=ae (jP.out.trans (f.mono jP.out.size));have bx:=(f.cell (p:=⟨B,a*4+3,none⟩) u).trans Z;have bA:=(f.frozen (p:=⟨B,a*4+3,none⟩) u).trans aa
 have JX:B<G.heap.size:=BG u f.size;have Z8:=ae ((f.block _ (by omega)).trans Ky.out);have E8:=f.size;have a8:=ae (HN.out.below vW.out);have CO:=ae (I7.mono (show B+1<=w5.heap.size by omega));obtain⟨n6,ba⟩:=ai (ps.length);rw [ba.out]at CO⊢;have bd:B≠w.heap.size+1:=by omega
 have l:w.heap.size+1≠B:=by omega
 have hle:w.heap.size<=w.heap.size+1:=by omega
 obtain⟨⟨y0,y1,y2,y3⟩,yf,yl⟩:=aS Z8.out;clear I7 f Z aa;go_wp2_with fail;obtain⟨WS,ET⟩:=aV (G.setCell ⟨B,a*4+3,none⟩ (.slice ta n6 tc));have vU:xx (aI B G WS):=ae (by rw [ET.out];exact(aI.refl B G).setCell _ _);have yP:=ae ((vU.out.block _ yl l).trans Z8.out);rw [<-ET.out];obtain⟨Wf,uC⟩:=aV (jy WS (w.heap.size+1) (.int .i64 0) (.slice none 0 0) (.int .i64 0) (.slice none 0 0));have gX:aI (w.heap.size+1) WS Wf:=by rw [uC.out];exact jF (aI.refl (w.heap.size+1) WS) _ _ _ _
 have aE:Wf.heap[w.heap.size+1]? =some (.cells #[.int .i64 0,.slice none 0 0,.int .i64 0,.slice none 0 0] 40):=by
  rw [uC.out];exact lL yP.out _ _ _ _
 obtain⟨⟨z0,z1,z2,z3⟩,_,_⟩:=aS aE;rw [show(((WS.setCell ⟨w.heap.size+1,0,none⟩ (.int .i64 0)).setCell ⟨w.heap.size+1,1,none⟩ (.slice none 0 0)).setCell ⟨w.heap.size+1,2,none⟩ (.int .i64 0)).setCell ⟨w.heap.size+1,3,none⟩ (.slice none 0 0)=Wf from uC.out.symm];refine xn (v:= .agg #[.int .i64 0,.slice none 0 0,.int .i64 0,.slice none 0 0]) (by simp [results,Tryz.results118,go_sem,z0,z1,z2,z3]) rfl ⟨rfl,?_,?_⟩
 ·refine aT.ql ?_ gX yP.out l;rw [ET.out];exact a8.out.setTable a ha (.slice ta n6 tc) ps Y CO.out
 ·exact bG.of (aI.over ((aI.of vW.out:aI B w G).trans vU.out) gX hle)
theorem VA{Q:Exit->Act->xk->Prop}{a0:Act}{g:xk}{B xb a q m:Nat}{n:Option Addr}{es:List aK}{key val:ByteArray}
  (y:a0.tmps.size=41)
  (Z:a0.tmps[0]?.getD xh= .pointer (some ⟨B,0,none⟩))
  (Y:a0.tmps[3]?.getD xh= .pointer (some ⟨xb,0,none⟩))
  (hB:B<g.heap.size)
  (x:xb<g.heap.size)
  (X1:g.cell? ⟨xb,1,none⟩=some (.int .i64 a))
  (X7:g.cell? ⟨xb,7,none⟩=some (.string key))
  (X8:g.cell? ⟨xb,8,none⟩=some (.string val))
  (KN:g.cell? ⟨B,a*4+2,none⟩=some (.slice n q m))
  (ha:(a:Int)<12)
  (HK:bI g n q m es)
  (r:n=none->m=0)
  (hk:key.size<=Eb)
  (hv:val.size<=Eb)
  (hQ:∀xs W,xs.length=20->Own W g.heap.size (xs.getD 0 xh) (jH es a key val)->(xs.getD 1 xh)= .int .i64 (eQ es a key val)->qL g.heap.size g W->Q .normal {a0 with tmps:=setFrom a0.tmps 5 xs} W):
  ∀ops,dX aau 1=some ops->(aaq 1 ops true).wp oP Q a0 g:=by
 intro ops aH;have eo:=Rq (aH.symm.trans (rfl:dX aau 1=some _));subst eo;clear aH;have d:5+20<=a0.tmps.size:=by omega
 refine X6 (by kernel_rfl) ?_
 refine cO (kC a0 5 20 20 (fun k=>some (([3,4,5,6,7,8,9,10,11,12,13,14,15,16,17,2,18,19,0,1]:List Nat).getD k 0)) (SV.V [SV.LP g.heap.size (jH es a key val),SV.eq (.int .i64 (eQ es a key val)),SV.two (SV.LP g.heap.size (jH es a key val)) (eQ es a key val),SV.eq (.pointer (some ⟨B,0,none⟩)),SV.eq (.pointer (some ⟨xb,1,none⟩)),SV.eq (.int .i64 a),SV.eq (.pointer (some ⟨B,0,none⟩)),SV.eq (.pointer (some ⟨B,0,none⟩)),SV.eq (.pointer (some ⟨B,a*4,none⟩)),SV.eq (.pointer (some ⟨B,a*4+2,none⟩)),SV.eq (.slice n q m),SV.eq (.pointer (some ⟨xb,1,none⟩)),SV.eq (.int .i64 a),SV.eq (.pointer (some ⟨xb,7,none⟩)),SV.eq (.string key),SV.eq (.pointer (some ⟨xb,8,none⟩)),SV.eq (.string val),SV.two (SV.LP g.heap.size (jH es a key val)) (eQ es a key val),SV.LP g.heap.size (jH es a key val),SV.eq (.int .i64 (eQ es a key val))]) (fun W=>qL g.heap.size g W)) ?_ ?_ _ _ _ _ (by decide+kernel) ?_ (bn _ _ _)
 ·rintro i listed f W S jS b;rw [aao]at S;obtain⟨aa,o,A,c⟩:=S;have sN:i<20:=(Array.getElem?_eq_some_iff.1 A).1;have o0:=(b.out (k:=0) (by omega)).trans Z;have u:=(b.out (k:=3) (by omega)).trans Y;have R:=(b.cw.cell (p:=⟨xb,1,none⟩) x).trans X1;have X:=(b.cw.cell (p:=⟨xb,7,none⟩) x).trans X7;have U:=(b.cw.cell (p:=⟨xb,8,none⟩) x).trans X8;have kn:=(b.cw.cell (p:=⟨B,a*4+2,none⟩) hB).trans KN;have C:i=0\/i=1\/i=2\/i=3\/i=4\/i=5\/i=6\/i=7\/i=8\/i=9\/i=10\/i=11\/i=12\/i=13\/i=14\/i=15\/i=16\/i=17\/i=18\/i=19:=by omega
  rcases C with rfl|rfl|rfl|rfl|rfl|rfl|rfl|rfl|rfl|rfl|rfl|rfl|rfl|rfl|rfl|rfl|rfl|rfl|rfl|rfl
  all_goals
   simp at A;subst A
  ·refine au rfl rfl ?_;simp [oC,go_sem,o0];exact b.put (i:=0) (j:=3) rfl (by omega) (fun _ _ h=>h) rfl b.cw
  ·refine au rfl rfl ?_;simp [oC,go_sem,u];exact b.put (i:=1) (j:=4) rfl (by omega) (fun _ _ h=>h) rfl b.cw
  ·refine au rfl rfl ?_;have e9:f.tmps[9]?.getD xh= .pointer (some ⟨xb,1,none⟩):=b.at (k:=1) (j:=4) d rfl (by omega) (c ⟨1,.data⟩ (by simp) rfl);simp [oC,go_sem,e9,R];exact b.put (i:=2) (j:=5) rfl (by omega) (fun _ _ h=>h) rfl b.cw
  ·refine au rfl rfl ?_;have e8:f.tmps[8]?.getD xh= .pointer (some ⟨B,0,none⟩):=b.at (k:=0) (j:=3) d rfl (by omega) (c ⟨0,.data⟩ (by simp) rfl);simp [oC,go_sem,e8];exact b.put (i:=3) (j:=6) rfl (by omega) (fun _ _ h=>h) rfl b.cw
  ·refine au rfl rfl ?_;have O:f.tmps[11]?.getD xh= .pointer (some ⟨B,0,none⟩):=b.at (k:=3) (j:=6) d rfl (by omega) (c ⟨3,.data⟩ (by simp) rfl);simp [oC,go_sem,O];exact b.put (i:=4) (j:=7) rfl (by omega) (fun _ _ h=>h) rfl b.cw
  ·refine au rfl rfl ?_;have N:f.tmps[12]?.getD xh= .pointer (some ⟨B,0,none⟩):=b.at (k:=4) (j:=7) d rfl (by omega) (c ⟨4,.data⟩ (by simp) rfl);have P:f.tmps[10]?.getD xh= .int .i64 a:=b.at (k:=2) (j:=5) d rfl (by omega) (c ⟨2,.data⟩ (by simp) rfl);simp [oC,go_sem,N,P,ha];exact b.put (i:=5) (j:=8) rfl (by omega) (fun _ _ h=>h) rfl b.cw
  ·refine au rfl rfl ?_;have M:f.tmps[13]?.getD xh= .pointer (some ⟨B,a*4,none⟩):=b.at (k:=5) (j:=8) d rfl (by omega) (c ⟨5,.data⟩ (by simp) rfl);simp [oC,go_sem,M];exact b.put (i:=6) (j:=9) rfl (by omega) (fun _ _ h=>h) rfl b.cw
  ·refine au rfl rfl ?_;have L:f.tmps[14]?.getD xh= .pointer (some ⟨B,a*4+2,none⟩):=b.at (k:=6) (j:=9) d rfl (by omega) (c ⟨6,.data⟩ (by simp) rfl);simp [oC,go_sem,L,kn];exact b.put (i:=7) (j:=10) rfl (by omega) (fun _ _ h=>h) rfl b.cw
  ·refine au rfl rfl ?_;simp [oC,go_sem,u];exact b.put (i:=8) (j:=11) rfl (by omega) (fun _ _ h=>h) rfl b.cw
  ·refine au rfl rfl ?_;have J:f.tmps[16]?.getD xh= .pointer (some ⟨xb,1,none⟩):=b.at (k:=8) (j:=11) d rfl (by omega) (c ⟨8,.data⟩ (by simp) rfl);simp [oC,go_sem,J,R];exact b.put (i:=9) (j:=12) rfl (by omega) (fun _ _ h=>h) rfl b.cw
  ·refine au rfl rfl ?_;simp [oC,go_sem,u];exact b.put (i:=10) (j:=13) rfl (by omega) (fun _ _ h=>h) rfl b.cw
  ·refine au rfl rfl ?_;have H:f.tmps[18]?.getD xh= .pointer (some ⟨xb,7,none⟩):=b.at (k:=10) (j:=13) d rfl (by omega) (c ⟨10,.data⟩ (by simp) rfl);simp [oC,go_sem,H,X];exact b.put (i:=11) (j:=14) rfl (by omega) (fun _ _ h=>h) rfl b.cw
  ·refine au rfl rfl ?_;simp [oC,go_sem,u];exact b.put (i:=12) (j:=15) rfl (by omega) (fun _ _ h=>h) rfl b.cw
  ·refine au rfl rfl ?_;have F:f.tmps[20]?.getD xh= .pointer (some ⟨xb,8,none⟩):=b.at (k:=12) (j:=15) d rfl (by omega) (c ⟨12,.data⟩ (by simp) rfl);simp [oC,go_sem,F,U];exact b.put (i:=13) (j:=16) rfl (by omega) (fun _ _ h=>h) rfl b.cw
  ·refine au rfl rfl ?_;have K:f.tmps[15]?.getD xh= .slice n q m:=b.at (k:=7) (j:=10) d rfl (by omega) (c ⟨7,.data⟩ (by simp) rfl);have I:f.tmps[17]?.getD xh= .int .i64 a:=b.at (k:=9) (j:=12) d rfl (by omega) (c ⟨9,.data⟩ (by simp) rfl);have G:f.tmps[19]?.getD xh= .string key:=b.at (k:=11) (j:=14) d rfl (by omega) (c ⟨11,.data⟩ (by simp) rfl);have E:f.tmps[21]?.getD xh= .string val:=b.at (k:=13) (j:=16) d rfl (by omega) (c ⟨13,.data⟩ (by simp) rfl);simp [oC,go_sem,K,I,G,E];refine(UK n q m es a key val W (HK.below b.cw) r hk hv).mono ?_;rintro e W' ⟨v,rfl,z,s⟩;exact b.put (i:=14) (j:=17) rfl (by omega) (SV.grow s) ⟨_,rfl,z.mono b.cw.size⟩ (b.cw.trans (s.mono b.cw.size))
  ·refine au rfl rfl ?_;obtain⟨l,hl,hp⟩:=b.at (k:=14) (j:=17) d rfl (by omega) (c ⟨14,.data⟩ (by simp) rfl);have hl:f.tmps[22]?.getD xh=_:=hl;simp [oC,go_sem,hl];exact b.put (i:=15) (j:=2) rfl (by omega) (fun _ _ h=>h) ⟨l,rfl,hp⟩ b.cw
  ·refine au rfl rfl ?_;obtain⟨l,hl,hp⟩:=b.at (k:=15) (j:=2) d rfl (by omega) (c ⟨15,.data⟩ (by simp) rfl);have hl:f.tmps[7]?.getD xh=_:=hl;simp [oC,go_sem,hl];exact b.put (i:=16) (j:=18) rfl (by omega) (fun _ _ h=>h) hp b.cw
  ·refine au rfl rfl ?_;obtain⟨l,hl,hp⟩:=b.at (k:=15) (j:=2) d rfl (by omega) (c ⟨15,.data⟩ (by simp) rfl);have hl:f.tmps[7]?.getD xh=_:=hl;simp [oC,go_sem,hl];exact b.put (i:=17) (j:=19) rfl (by omega) (fun _ _ h=>h) rfl b.cw
  ·refine au rfl rfl ?_;have h0:=b.at (k:=16) (j:=18) d rfl (by omega) (c ⟨16,.data⟩ (by simp) rfl);simp [oC,go_sem];exact b.put (i:=18) (j:=0) rfl (by omega) (fun _ _ h=>h) h0 b.cw
  ·refine au rfl rfl ?_;have D:f.tmps[24]?.getD xh= .int .i64 (eQ es a key val):=b.at (k:=17) (j:=19) d rfl (by omega) (c ⟨17,.data⟩ (by simp) rfl);simp [oC,go_sem,D];exact b.put (i:=19) (j:=1) rfl (by omega) (fun _ _ h=>h) rfl b.cw
 ·rintro listed f W hr b;have t:=dm (by decide+kernel) b.ls hr;obtain⟨xs,w,rfl,T⟩:=b.fr;exact hQ xs W w (T 18 0 rfl (t 18 (by decide))) (T 19 1 rfl (t 19 (by decide))) b.cw
 ·exact kC.start d (rU _ _).drew
def Pl.vX(s:Pl.Nt)(x:Pl.Ac):Int:=eQ (s.K x.a.toNat) x.a x.key x.val
def Pl.rW(s:Pl.Nt)(x:Pl.Ac):List ByteArray:=if vX s x=0 then [x.key]else []
def Pl.pY(s:Pl.Nt)(x:Pl.Ac):Pl.Nt:=if vX s x=0 then{s with K:=cZ s.K x.a.toNat (jH (s.K x.a.toNat) x.a x.key x.val)}else s
theorem Lp(B:Nat)(s:Pl.Nt)(x:Pl.Ac)(w:xk)(h:aT w B s)(ha:0<=x.a/\x.a<=11)(i:∀e∈s.K x.a.toNat,e.ok)(hk:x.key.size<=Eb)(hv:x.val.size<=Eb):
  OE oP 117 #[.pointer (some ⟨B,0,none⟩),.agg #[.int .i64 x.kind,.int .i64 x.a,.int .i64 x.b,.int .i64 x.n,.int .i64 x.m,.int .i64 x.p.1,.int .i64 x.p.2,.string x.key,.string x.val]] w fun e w'=>
   ∃vk,e= .returned (.agg #[.int .i64 (vX s x),.slice none 0 0,.int .i64 0,vk])/\bF w' w.heap.size vk (rW s x)/\aT w' B (pY s x)/\bG B w w':=by
 have HN:=ae h;have bk:=h.lt;clear h;obtain⟨g,r⟩:=ai (vX s x);obtain⟨ks,z⟩:=ai (rW s x);obtain⟨sn,L⟩:=ai (pY s x);have Xf:xx (g=0->ks= [x.key]):=ae fun e=>by rw [<-z.out];unfold rW;rw [r.out,af e]
 have H:xx (g≠0->ks= []):=ae fun e=>by rw [<-z.out];unfold rW;rw [r.out,ag e]
 have J:xx (g=0->sn={s with K:=cZ s.K x.a.toNat (jH (s.K x.a.toNat) x.a x.key x.val)}):=ae fun e=>by rw [<-L.out];unfold pY;rw [r.out,af e]
 have F:xx (g≠0->sn=s):=ae fun e=>by rw [<-L.out];unfold pY;rw [r.out,ag e]
 have N:xx (eQ (s.K x.a.toNat) x.a x.key x.val=g):=ae r.out;rw [r.out,z.out,L.out];clear r z L;obtain⟨kind,a,b,n,m,⟨p1,p2⟩,key,val⟩:=x;simp only at ha i hk hv Xf J N⊢;obtain⟨a,rfl⟩:∃k:Nat,a=k:=⟨a.toNat,by omega⟩
 rw [OM]at i J N;have dD:a<12:=by omega
 have av:(a:Int)<12:=by omega
 obtain⟨O,HO⟩:=ai (jH (s.K a) a key val);rw [HO.out]at J;have xM:=ae (fun(c:Int) (W:xk)=>fJ c W);obtain⟨b0,b1,bz,bb⟩:=two (w:=w) (.cells #[.int .i64 kind,.int .i64 (a:Int),.int .i64 b,.int .i64 n,.int .i64 m,.int .i64 p1,.int .i64 p2,.string key,.string val] 51) (.cells #[.int .i64 0,.slice none 0 0,.int .i64 0,.slice none 0 0] 40);go_enter Tryz.func117,Tryz.ntmps117;go_wp2_with fail;rename_i K hK;obtain⟨W2,aw⟩:=aV ((w.alloc (.cells #[.int .i64 kind,.int .i64 (a:Int),.int .i64 b,.int .i64 n,.int .i64 m,.int .i64 p1,.int .i64 p2,.string key,.string val] 51)).alloc (.cells #[.int .i64 0,.slice none 0 0,.int .i64 0,.slice none 0 0] 40));rw [<-aw.out]at b0 b1 bz bb⊢;have yT:=ae (HN.out.below bb);obtain⟨VP,VK,VT,P,h2,h3,h4,h5⟩:=yT.out;obtain⟨ka,kc,ev,D,l,ad⟩:=(h3 a dD).shape i;have j:=P.lq a dD;rw [ev]at j;have u:=P.lt
 obtain⟨q0,Y,q2,q3,q4,q5,q6,X,q8⟩:=kz b0;refine VA (B:=B) (xb:=w.heap.size) (a:=a) (key:=key) (val:=val) rfl rfl rfl u (by omega) Y X q8 j av D l hk hv ?_ _ (by kernel_rfl);rw [N.out,HO.out];intro xs W A C hc d;obtain⟨x0,x1,x2,x3,x4,x5,x6,x7,x8,x9,bg,bd,bc,pM,ba,a8,a7,a6,aR,aM,rfl⟩:=Ui xs A;have hc:x1= .int .i64 g:=hc;subst hc;have C:Own W W2.heap.size x0 O:=C;obtain⟨sa,sc,rfl⟩:=az C;have G:=ae C;have eH:=ae d;have aD:=ae (yT.out.below d);have Z:=ae ((d.block _ (by omega)).trans b1);have HB:=ae (bb.trans (d.mono (by omega)));have bh:=d.size;have g1:=(d.cell (p:=⟨w.heap.size,1,none⟩) (show w.heap.size<W2.heap.size by omega)).trans Y;have g7:=(d.cell (p:=⟨w.heap.size,7,none⟩) (show w.heap.size<W2.heap.size by omega)).trans X;obtain⟨nO,UO⟩:=ai (O.length)
 have ar:=(d.cell (p:=⟨B,a*4+2,none⟩) u).trans j;have aq:=(d.frozen (p:=⟨B,a*4+2,none⟩) u).trans (P.soft (a*4+2));rw [UO.out];rw [UO.out]at G;clear ad C d A b0 b1 q0 Y q2 q3 q4 q5 q6 X q8 P h2 h3 h4 h5 ev D l j i hk hv;simp only [dC,spl];refine hK _ W ?_;have bl:B<W.heap.size:=by omega
 have bj:w.heap.size<W.heap.size:=by omega
 have aL:B≠w.heap.size+1:=by omega
 have o:w.heap.size+1≠B:=by omega
 have bm:w.heap.size≠B:=by omega
 obtain⟨⟨V,U,T,S⟩,yf,R⟩:=aS Z.out;have hle:w.heap.size<=w.heap.size+1:=by omega
 by_cases f:g=0
 ·have z:=ae (Xf.out f);have ay:=ae (J.out f);clear Xf H J F N;subst f;go_wp2_with fail;go_region
  go_wp2_with fail;obtain⟨y,I⟩:=aV (W.setCell ⟨B,a*4+2,none⟩ (.slice sa nO sc));have yP:xx (y.heap[w.heap.size+1]? =some (.cells #[.int .i64 0,.slice none 0 0,.int .i64 0,.slice none 0 0] 40)):=ae (by rw [I.out];exact(((aI.refl B W).setCell _ _).block _ R o).trans Z.out);have aa:y.heap.size=W.heap.size:=by rw [I.out];simp
  rw [<-I.out];obtain⟨Q,M⟩:=aV (((jy y (w.heap.size+1) (.int .i64 0) (.slice none 0 0) (.int .i64 0) (.slice (some ⟨W.heap.size,0,none⟩) 1 1)).alloc (.cells #[.string key] 9)).drew);have gX:aI (w.heap.size+1) y Q:=by rw [M.out];exact((jF (aI.refl (w.heap.size+1) y) _ _ _ _).alloc _).drawn 1
  have ak:Q.heap[w.heap.size+1]? =some (.cells #[.int .i64 0,.slice none 0 0,.int .i64 0,.slice (some ⟨W.heap.size,0,none⟩) 1 1] 40):=by
   rw [M.out];exact BF (lL yP.out _ _ _ _) _
  have an:Q.heap[W.heap.size]? =some (.cells #[.string key] 9):=by
   have e:=bW (jy y (w.heap.size+1) (.int .i64 0) (.slice none 0 0) (.int .i64 0) (.slice (some ⟨W.heap.size,0,none⟩) 1 1)) (.cells #[.string key] 9);rw [Vd,aa]at e;rw [M.out];exact e
  obtain⟨⟨z0,z1,z2,z3⟩,_,_⟩:=aS ak;rw [show(((((y.setCell ⟨w.heap.size+1,0,none⟩ (.int .i64 0)).setCell ⟨w.heap.size+1,1,none⟩ (.slice none 0 0)).setCell ⟨w.heap.size+1,2,none⟩ (.int .i64 0)).setCell ⟨w.heap.size+1,3,none⟩ (.slice (some ⟨W.heap.size,0,none⟩) 1 1)).alloc (.cells #[.string key] 9)).drew=Q from M.out.symm];refine xn (v:= .agg #[.int .i64 0,.slice none 0 0,.int .i64 0,.slice (some ⟨W.heap.size,0,none⟩) 1 1]) (by simp [results,Tryz.results117,go_sem,z0,z1,z2,z3]) rfl ⟨_,rfl,?_,?_,?_⟩
  ·rw [z.out];exact N9 (by omega) an
  ·rw [ay.out];refine aT.ql ?_ gX yP.out o;rw [I.out];exact aD.out.wG a dD (.slice sa nO sc) O (G.out.mono (by omega))
  ·refine bG.of (aI.over ?_ gX hle);rw [I.out];exact(aI.of HB.out:aI B w W).setCell _ _
 ·have bo:(g != 0)=true:=by simpa using f
  clear ar aq g1 g7 V U T S yf R;go_wp2_with fail;refine(xM.out g _).mono ?_;rintro e w3 ⟨rfl,t⟩;have E:=(t.block _ (by omega)).trans Z.out;have aE:=ae (HB.out.trans (t.mono (by have:=HB.out.size;omega)));obtain⟨⟨V,U,T,S⟩,yf,R⟩:=aS E;clear t E;go_wp2_with fail;have q:=(((aE.out.setCell (p:=⟨w.heap.size+1,0,none⟩) hle (.int .i64 g)).setCell (p:=⟨w.heap.size+1,1,none⟩) hle (.slice none 0 0)).setCell (p:=⟨w.heap.size+1,2,none⟩) hle (.int .i64 0)).setCell (p:=⟨w.heap.size+1,3,none⟩) hle (.slice none 0 0);refine xn (v:= .agg #[.int .i64 g,.slice none 0 0,.int .i64 0,.slice none 0 0]) (by simp [results,Tryz.results117,go_sem,V,U,T,S]) rfl ⟨_,rfl,?_,?_,bG.of (aI.of q)⟩
  ·rw [H.out f];exact bF.nil _ _
  ·rw [F.out f];exact HN.out.below q
def Pl.insP:List (Int×Int)->Int×Int->List (Int×Int)
 | [],p=> [p]
 |q::r,p=>if dw p q then p::q::r else q::Pl.insP r p
def Pl.zt(s:Pl.Nt)(x:Pl.Ac):Int:=if fM [x.p]=0 then fM (Pl.insP (s.P x.a.toNat) x.p)else fM [x.p]
def Pl.Ez(s:Pl.Nt)(x:Pl.Ac):Pl.Nt:=if zt s x=0 then{s with P:=cZ s.P x.a.toNat (Pl.insP (s.P x.a.toNat) x.p)}else s
def Pl.nT(r:Pl.Rt)(m:Int):Nat:=(Pl.nm r.aH (m.toNat%r.aH.length)).toNat
def Pl.walkK(s:Pl.Nt)(n m:Int):Nat->Nat->List Int->Int->Int×List Int×Int
 |0,_,_,_=>(10,[],0)
 |k+1,a,ps,c=>
  if jZ (s.T a) n=0 then
   if(jY (s.T a) n).here=true then(0,ps,c)
   else if k=0 then(10,[],0)
   else if s.L a (nT (jY (s.T a) n) m)=0 then(6,[],0)
   else Pl.walkK s n m k (nT (jY (s.T a) n) m) (ps++ [(nT (jY (s.T a) n) m:Int)]) (c+s.L a (nT (jY (s.T a) n) m))
  else(jZ (s.T a) n,[],0)
def Pl.qc(s:Pl.Nt)(x:Pl.Ac):Int×List Int×Int:=if x.m<0 then(2,[],0)else Pl.walkK s x.n x.m 13 x.a.toNat [x.a] 0
structure Pl.Rp where
 code:Int
 path:List Int
 cost:Int
 keys:List ByteArray
def Pl.Rp.no(c:Int):Pl.Rp:=⟨c,[],0,[]⟩
def Pl.oJ(s:Pl.Nt)(x:Pl.Ac):Pl.Rp:=
 if¬(1<=x.kind/\x.kind<=10)then Pl.Rp.no 3
 else if¬(0<=x.a/\x.a<=11)then Pl.Rp.no 2
 else if x.kind=1 then Pl.Rp.no (rE x)
 else if x.kind=2 then Pl.Rp.no (rJ s.L x)
 else if x.kind=3 then Pl.Rp.no (oG x)
 else if x.kind=4 then Pl.Rp.no (zt s x)
 else if x.kind=5 then Pl.Rp.no (Eh s x)
 else if x.kind=6 then⟨(Pl.putsS (s.K x.a.toNat) x.a.toNat (kX s x.a.toNat) 2).1,[],0,nR s x.a.toNat (kX s x.a.toNat)⟩
 else if x.kind=7 then⟨tC s x,[],0,tu s x⟩
 else if x.kind=8 then⟨vX s x,[],0,rW s x⟩
 else if x.kind=9 then Pl.Rp.no 0
 else⟨(qc s x).1,(qc s x).2.1,(qc s x).2.2,[]⟩
def Pl.mg(s:Pl.Nt)(x:Pl.Ac):Pl.Nt:=
 if¬(1<=x.kind/\x.kind<=10)then s
 else if¬(0<=x.a/\x.a<=11)then s
 else if x.kind=1 then{s with L:=tX s.L x}
 else if x.kind=2 then{s with L:=uo s.L x}
 else if x.kind=3 then{s with D:=sQ s.D x}
 else if x.kind=4 then Ez s x
 else if x.kind=5 then Pl.takeN s x
 else if x.kind=6 then tJ s x.a.toNat (kX s x.a.toNat)
 else if x.kind=7 then qZ s x
 else if x.kind=8 then pY s x
 else if x.kind=9 then{s with T:=cZ s.T x.a.toNat (wz (s.K x.a.toNat) x.a.toNat)}
 else s
def Pl.Nt.new:Pl.Nt:=⟨fun _=>false,fun _=> [],fun _=> [],fun _=> [],fun _ _=>0⟩
def Pl.runN(s:Pl.Nt)(xs:List Pl.Ac):Pl.Nt:=xs.foldl mg s
def Pl.tH(s:Pl.Nt):List Pl.Ac->List Pl.Rp
 | []=> []
 |x::r=>oJ s x::tH (mg s x) r
theorem Pl.wI(s:Pl.Nt):∀xs,(tH s xs).length=xs.length
 | []=>rfl
 |x::r=>by show(tH (mg s x) r).length+1=r.length+1;rw [wI _ r]
theorem Pl.JF(s:Pl.Nt)(xs:List Pl.Ac)(x:Pl.Ac):Pl.runN s (xs++ [x])=mg (Pl.runN s xs) x:=by simp [Pl.runN]
theorem Pl.NI(s:Pl.Nt):∀xs a,tH s (xs++a)=tH s xs++tH (Pl.runN s xs) a
 | [],_=>rfl
 |x::r,a=>by
  show oJ s x::tH (mg s x) (r++a)=oJ s x::(tH (mg s x) r++tH (Pl.runN (mg s x) r) a);rw [NI (mg s x) r a]
theorem Pl.JE(s:Pl.Nt)(xs:List Pl.Ac)(x:Pl.Ac):tH s (xs++ [x])=tH s xs++ [oJ (Pl.runN s xs) x]:=NI s xs [x]
structure Pl.fZ(s:Pl.Nt):Prop where
 K:∀i,Pl.fault (s.K i)=0
 T:∀i,gB (s.T i)=0
 P:∀i,fM (s.P i)=0
 L:∀i j,0<=s.L i j/\s.L i j<=1000
 S:∀i j,s.L i j=s.L j i
 Z:∀i,s.L i i=0
theorem Pl.fZ.new:fZ Pl.Nt.new:=⟨fun _=>by show Pl.fault []=0;decide,fun _=>by show gB []=0;decide,fun _=>by show fM []=0;decide,fun _ _=>by simp [Pl.Nt.new],fun _ _=>rfl,fun _=>rfl⟩
theorem Pl.O3(n:Nat):(Pl.dec (n:Int)).data.toList=Lib.decDigits n:=by
 unfold Pl.dec;rw [Lib.itoa_nonneg]
theorem Pl.UI(ps:List (Int×Int)):∀(n i:Nat),i+n=ps.length->(∀j,i<=j->j<ps.length->lJ (Pl.pr ps j).1 (Pl.pr ps j).2=true/\(0<j->(Pl.pr ps (j-1)).1<(Pl.pr ps j).1))->Pl.adjN ps n i=0
 |0,_,_,_=>rfl
 |n+1,i,h,a=>by
  obtain⟨c,b⟩:=a i (qh _) (by omega);rw [Pl.adjN,af c,ag (by rintro⟨g1,g2⟩;have:=b g1;omega)];exact UI ps n (i+1) (by omega) (fun j d hl=>a j (by omega) hl)
theorem Pl.WG{ps:List (Int×Int)}{k c:Int}(h:qU ps=0)(a:∀p∈ps,p.1<k)(e:0<=k/\k<=11)(hc:1<=c/\c<=1000):qU (ps++ [(k,c)])=0:=by
 have b:=Md ps ps.length 0 (by omega) h;refine UI _ _ 0 (by omega) (fun j _ d=> ?_);simp at d;rcases GX j ps.length with hl|hl
 ·rw [tK ps _ j hl,tK ps _ (j-1) (by omega)];exact b j (by omega) hl
 ·obtain rfl:j=ps.length:=by omega
  rw [Vr];refine⟨by unfold lJ;simp;omega,fun hp=> ?_⟩;rw [tK ps _ _ (by omega)];exact a _ (uJ ps _ (by omega))
theorem Pl.Ua(ps:List (Int×Int)):∀(n i:Nat),i+n=ps.length->(∀j,i<=j->j<ps.length->iH (Pl.pr ps j)=0/\(0<j->oz (Pl.pr ps (j-1)) (Pl.pr ps j)=false))->Pl.pfxN ps n i=0
 |0,_,_,_=>rfl
 |n+1,i,h,a=>by
  obtain⟨c,b⟩:=a i (qh _) (by omega);rw [Pl.pfxN,af c,ag (by rintro⟨g1,g2⟩;rw [b g1]at g2;cases g2)];exact Ua ps n (i+1) (by omega) (fun j d hl=>a j (by omega) hl)
theorem Pl.aa6{ps:List (Int×Int)}(d:ps.length<=6)(b:∀p∈ps,iH p=0)(c:ps.Pairwise (fun p q=>dw p q=true)):fM ps=0:=by
 rw [xY d];refine Ua ps ps.length 0 (by omega) fun j _ a=>⟨b _ (uJ ps j a),fun h0=> ?_⟩
 have e:=List.pairwise_iff_getElem.1 c (j-1) j (by omega) a (by omega);rw [<-jI ps (j-1) (by omega),<-jI ps j a,qw]at e;have a1:=gm (b _ (uJ ps (j-1) (by omega)));have a2:=gm (b _ (uJ ps j a));unfold oz;simp only [Ja];omega
theorem Pl.Yf{ps b:List (Int×Int)}(h:fM ps=0)(a:b.Sublist ps):fM b=0:=by
 obtain⟨e,d,c⟩:=pO h;exact aa6 (SN a.length_le e) (fun p hp=>d p (a.subset hp)) (c.sublist a)
theorem Pl.abJ{α:Type}(ps:List α)(k:Nat):(ps.take k++ps.drop (k+1)).Sublist ps:=by
 have h:(ps.take k++ps.drop (k+1)).Sublist (ps.take k++ps.drop k):=by
  refine aas ?_ _;rw [<-List.drop_drop];exact List.drop_sublist _ _
 rwa [List.take_append_drop]at h
theorem Pl.FY{es:List aK}{of:Int}{its:List (ByteArray×ByteArray)}(h:Pl.fault es=0):∀j,Pl.fault (Pl.putsS es of its j).2.1=0
 |0=>h
 |j+1=>by
  have a:=FY h j (its:=its) (of:=of);unfold Pl.putsS;simp only;split
  ·exact a
  ·split
   ·exact a
   ·split
    ·exact a
    ·rename_i b;exact(bK _).2 (xX (by simpa using b))
theorem Pl.KD{α:Type}{f:Nat->α}{i:Nat}{v:α}{P:α->Prop}(h:∀j,P (f j))(a:P v)(j:Nat):P (cZ f i v j):=by
 unfold cZ;by_cases e:j=i
 ·rw [af e];exact a
 ·rw [ag e];exact h j
theorem Pl.fZ.line{s:Pl.Nt}(h:fZ s){a b:Nat}{c:Int}(d:a≠b)(hc:0<=c/\c<=1000):fZ {s with L:=Pl.line s.L a b c}:=by
 refine⟨h.K,h.T,h.P,fun i j=> ?_,fun i j=> ?_,fun i=> ?_⟩
 ·show 0<=Pl.line s.L a b c i j/\Pl.line s.L a b c i j<=1000;unfold Pl.line;split
  ·exact hc
  ·exact h.L i j
 ·show Pl.line s.L a b c i j=Pl.line s.L a b c j i;unfold Pl.line;by_cases e:(i=a/\j=b)\/(i=b/\j=a)
  ·rw [af e,af (by omega)]
  ·rw [ag e,ag (by omega)];exact h.S i j
 ·show Pl.line s.L a b c i i=0;unfold Pl.line;rw [ag (by omega)];exact h.Z i
theorem Pl.fZ.CY{s:Pl.Nt}(h:fZ s)(i:Nat){es:List aK}(he:Pl.fault es=0):fZ {s with K:=cZ s.K i es}:=⟨KD (P:=fun es=>Pl.fault es=0) h.K he,h.T,h.P,h.L,h.S,h.Z⟩
theorem Pl.fZ.KJ{s:Pl.Nt}(h:fZ s)(i:Nat){ps:List (Int×Int)}(he:fM ps=0):fZ {s with P:=cZ s.P i ps}:=⟨h.K,h.T,KD (P:=fun es=>fM es=0) h.P he,h.L,h.S,h.Z⟩
theorem Pl.fZ.Qv{s:Pl.Nt}(h:fZ s)(i:Nat){ts:List Pl.Rt}(he:gB ts=0):fZ {s with T:=cZ s.T i ts}:=⟨h.K,KD (P:=fun es=>gB es=0) h.T he,h.P,h.L,h.S,h.Z⟩
theorem Pl.fZ.act{s:Pl.Nt}(h:fZ s)(x:Pl.Ac):fZ (mg s x):=by
 unfold mg;by_cases r:1<=x.kind/\x.kind<=10
 ·rw [ag (by simpa using r)];by_cases q:0<=x.a/\x.a<=11
  ·rw [ag (by simpa using q)];by_cases o:x.kind=1
   ·rw [af o];unfold tX;by_cases hc:rE x=0
    ·rw [af hc];unfold rE at hc;split at hc
     ·cases hc
     ·split at hc
      ·cases hc
      ·exact h.line (by omega) (by omega)
    ·rw [ag hc];exact h
   rw [ag o];by_cases m:x.kind=2
   ·rw [af m];unfold uo;by_cases hc:rJ s.L x=0
    ·rw [af hc];unfold rJ at hc;split at hc
     ·cases hc
     ·split at hc
      ·cases hc
      ·exact h.line (by omega) (by omega)
    ·rw [ag hc];exact h
   rw [ag m];by_cases l:x.kind=3
   ·rw [af l];exact⟨h.K,h.T,h.P,h.L,h.S,h.Z⟩
   rw [ag l];by_cases k:x.kind=4
   ·rw [af k];unfold Ez;by_cases hc:zt s x=0
    ·rw [af hc];unfold zt at hc;split at hc
     ·exact h.KJ _ hc
     ·rename_i t;exact absurd hc t
    ·rw [ag hc];exact h
   rw [ag k];by_cases j:x.kind=5
   ·rw [af j];unfold Pl.takeN;split
    ·exact h
    ·exact h.KJ _ (Yf (h.P _) (abJ _ _))
   rw [ag j];by_cases i:x.kind=6
   ·rw [af i];unfold tJ;split
    ·exact h.CY _ (FY (h.K _) _)
    ·exact h
   rw [ag i];by_cases g:x.kind=7
   ·rw [af g];unfold qZ;split
    ·unfold oN;split
     ·rename_i hc;refine h.CY _ ?_;have p:kP (lM (s.K x.a.toNat) x.n)=0:=by
       by_cases e:kP (lM (s.K x.a.toNat) x.n)=0
       ·exact e
       ·unfold nN at hc;rw [ag e]at hc;exact absurd hc e
      have hm:dY (s.K x.b.toNat) (mf (lM (s.K x.a.toNat) x.n))=0:=by
       unfold nN at hc;rwa [af p]at hc
      unfold iJ;rw [af hm];have u:=(bK _).1 (h.K x.b.toNat);have c:=(bK _).1 (xm p).1;exact(bK _).2 (Gm _ _ _ u c.2.1)
     ·exact h
    ·exact h
   rw [ag g];by_cases f:x.kind=8
   ·rw [af f];unfold pY;split
    ·rename_i hc;exact h.CY _ ((bK _).2 (xX hc))
    ·exact h
   rw [ag f];by_cases d:x.kind=9
   ·rw [af d];exact h.Qv _ (FC _ (by omega))
   rw [ag d];exact h
  ·rw [af (by simpa using q)];exact h
 ·rw [af (by simpa using r)];exact h
theorem Pl.fZ.run{s:Pl.Nt}(h:fZ s)(xs:List Pl.Ac):fZ (Pl.runN s xs):=by
 induction xs generalizing s with
 |nil=>exact h
 |cons x r a=>exact a (h.act x)
theorem Pl.JQ{rs:List Pl.Rt}{x:Int}(h:gB rs=0)(h0:jZ rs x=0):dW (jY rs x)=true:=by
 by_cases a:0<=x/\x<=255
 ·cases hl:Pl.lookN (rs.map Pl.Rt.p) x 9 with
  |none=>have:=(DK h a hl).1;rw [this]at h0;cases h0
  |some i=>
   rw [(DJ h a hl).2];have b:=Oo hl;simp only [aai]at b;exact(iD h).2.1 i b
 ·have:=(zS h a).1;rw [this]at h0;cases h0
theorem Pl.Y4{l:List Int}(h:fP l=true){i:Nat}(a:i<l.length):0<=Pl.nm l i/\Pl.nm l i<=11:=by
 have:=nS h i a;unfold mQ at this;simp only [aaf,ik]at this;exact this.1
theorem Pl.FX{r:Pl.Rt}(h:dW r=true)(hh:r.here=false)(m:Int):0<r.aH.length/\r.aH.length<=12/\(nT r m)<12/\Pl.nm r.aH (m.toNat%r.aH.length)=(nT r m:Int)/\m.toNat%r.aH.length<r.aH.length:=by
 have b:=rq h;unfold dW at h;rw [hh]at h;simp only [aaf]at h;obtain⟨⟨_,a⟩,c⟩:=h;have hl:0<r.aH.length:=List.length_pos_iff.2 (by simpa using a);have hm:=Nat.mod_lt m.toNat hl;have:=Y4 c hm;unfold nT;exact⟨hl,b,by omega,by omega,hm⟩
def acB:GM->Nat
 | .slice _ n _=>n
 |_=>0
theorem N8{w:xk}{base g:Nat}{k:Int}(b:base<=g)(a:w.heap[g]? =some (.cells #[.int .i64 k] 3)):dI w base (.slice (some ⟨g,0,none⟩) 1 1) [k]:=
 ⟨by simp [fA],.inr ⟨g,1,#[.int .i64 k],rfl,b,a,by simp,by unfold Eb;omega,by simp,by simp [fA]⟩⟩
theorem abb(xs:List GM)(h:xs.length=25):∃w v u t s r q p o n l k j x i g f e d c b m z y a,xs= [w,v,u,t,s,r,q,p,o,n,l,k,j,x,i,g,f,e,d,c,b,m,z,y,a]:=by
 obtain⟨w,I,rfl,h0⟩:=aA h;obtain⟨v,H,rfl,E⟩:=aA h0;obtain⟨u,G,rfl,D⟩:=aA E;obtain⟨t,F,rfl,C⟩:=aA D;obtain⟨s,A,rfl,B⟩:=aA C;obtain⟨r,q,p,o,n,l,k,j,x,i,g,f,e,d,c,b,m,z,y,a,rfl⟩:=Ui A B;exact⟨w,v,u,t,s,r,q,p,o,n,l,k,j,x,i,g,f,e,d,c,b,m,z,y,a,rfl⟩
theorem Oc(B:Nat)(s:Pl.Nt)(x:Pl.Ac)(a:Nat)(w:xk)(h:aT w B s)(aq:x.a=a)(ha:a<12)(hg:fZ s)(hm:x.m<=9223372036854775807):
  OE oP 119 #[.pointer (some ⟨B,0,none⟩),.agg #[.int .i64 x.kind,.int .i64 x.a,.int .i64 x.b,.int .i64 x.n,.int .i64 x.m,.int .i64 x.p.1,.int .i64 x.p.2,.string x.key,.string x.val]] w fun e w'=>
   ∃vp,e= .returned (.agg #[.int .i64 (qc s x).1,vp,.int .i64 (qc s x).2.2,.slice none 0 0])/\dI w' w.heap.size vp (qc s x).2.1/\aT w' B s/\bG B w w':=by
 have HN:=ae h;have ct:=h.lt;have HG:=ae hg;clear h hg;obtain⟨kind,xa,b,n,m,⟨p1,p2⟩,key,val⟩:=x;simp only at aq hm⊢;subst aq;have cr:(a:Int)<12:=by omega
 obtain⟨R,HR⟩:=ai (qc s ⟨kind,(a:Int),b,n,m,(p1,p2),key,val⟩);have Y:xx (R=if m<0 then(2,[],0)else Pl.walkK s n m 13 a [(a:Int)] 0):=ae (by rw [<-HR.out];unfold qc;rfl);rw [HR.out];clear HR;have xM:=ae (fun(c:Int) (W:xk)=>fJ c W);obtain⟨b0,b1,bz,bb⟩:=two (w:=w) (.cells #[.int .i64 kind,.int .i64 (a:Int),.int .i64 b,.int .i64 n,.int .i64 m,.int .i64 p1,.int .i64 p2,.string key,.string val] 51) (.cells #[.int .i64 0,.slice none 0 0,.int .i64 0,.slice none 0 0] 40);obtain⟨W2,an⟩:=aV ((w.alloc (.cells #[.int .i64 kind,.int .i64 (a:Int),.int .i64 b,.int .i64 n,.int .i64 m,.int .i64 p1,.int .i64 p2,.string key,.string val] 51)).alloc (.cells #[.int .i64 0,.slice none 0 0,.int .i64 0,.slice none 0 0] 40));rw [<-an.out]at b0 b1 bz bb;obtain⟨q0,q1,q2,q3,q4,q5,q6,q7,q8⟩:=kz b0;have nH:=ae b1;have sU:=ae bb;have Q3:=ae q3;have Q4:=ae q4
 have aa:w.heap.size<W2.heap.size:=by omega
 have OT:B<W2.heap.size:=by omega
 have hle:w.heap.size<=w.heap.size+1:=by omega
 have b6:B≠w.heap.size+1:=by omega
 have av:w.heap.size+1≠B:=by omega
 have Ed:xx (∀(c:Int) (D:xk),qL w.heap.size w D->D.heap[w.heap.size+1]? =some (.cells #[.int .i64 0,.slice none 0 0,.int .i64 0,.slice none 0 0] 40)->R=(c,[],0)->
   ∃vp,Ending.returned (.agg #[.int .i64 c,.slice none 0 0,.int .i64 0,.slice none 0 0])= .returned (.agg #[.int .i64 R.1,vp,.int .i64 R.2.2,.slice none 0 0])/\dI (jy D (w.heap.size+1) (.int .i64 c) (.slice none 0 0) (.int .i64 0) (.slice none 0 0)) w.heap.size vp R.2.1/\aT (jy D (w.heap.size+1) (.int .i64 c) (.slice none 0 0) (.int .i64 0) (.slice none 0 0)) B s/\bG B w (jy D (w.heap.size+1) (.int .i64 c) (.slice none 0 0) (.int .i64 0) (.slice none 0 0))):=ae fun c D hb hx e=>by
  have S:qL w.heap.size w (jy D (w.heap.size+1) (.int .i64 c) (.slice none 0 0) (.int .i64 0) (.slice none 0 0)):=(((hb.setCell (p:=⟨w.heap.size+1,0,none⟩) hle _).setCell (p:=⟨w.heap.size+1,1,none⟩) hle _).setCell (p:=⟨w.heap.size+1,2,none⟩) hle _).setCell (p:=⟨w.heap.size+1,3,none⟩) hle _;exact⟨_,by rw [e],by rw [e];exact dI.nil _ _,HN.out.below S,bG.of (aI.of S)⟩
 by_cases u:m<0
 ·have bo:decide (m<0)=true:=by simpa using u
  rw [af u]at Y;clear u q0 q1 q2 q3 q5 q6 q7 q8 b0 b1 bb;go_enter Tryz.func119,Tryz.ntmps119;go_wp2_with (rw [<-an.out]);refine(xM.out 2 _).mono ?_;rintro e w3 ⟨rfl,i⟩;have d:=(i.block _ (aG nH.out)).trans nH.out;have z:=ae (sU.out.trans (i.mono (by omega)));have PV:=ae (Ed.out 2 w3 z.out d Y.out);obtain⟨⟨Q,P,O,N⟩,yf,yl⟩:=aS d;clear i d;go_wp2_with fail;exact xn (v:= .agg #[.int .i64 2,.slice none 0 0,.int .i64 0,.slice none 0 0]) (by simp [results,Tryz.results119,go_sem,Q,P,O,N]) rfl PV.out
 ·have bo:decide (m<0)=false:=by simpa using u
  rw [ag u]at Y;have bX:=ae u;clear u q0 q2 q3 q5 q6 q7 q8 b0 b1 bb;go_enter Tryz.func119,Tryz.ntmps119;go_wp2_with (rw [<-an.out]);obtain⟨D,J⟩:=aV (W2.alloc (.cells #[.int .i64 (a:Int)] 3));have pG:xx (qL (w.heap.size+2) W2 D):=ae (by rw [J.out];exact(rU _ _).alloc (by omega) _);have vC:xx (dI D (w.heap.size+2) (.slice (some ⟨w.heap.size+2,0,none⟩) 1 1) [(a:Int)]):=ae (N8 (qh _) (by rw [J.out,<-bz];exact bW _ _));clear q1 q4;go_loopw [5,6,7] (fun va vp vc wr=>∃(k f:Nat) (v:GM) (ps:List Int) (c:Int),v=vp/\va= .int .i64 f/\vc= .int .i64 c/\f<12/\k<=12/\xx (ps.length+k=13)/\xx (0<=c/\c<=1000*(12-(k:Int)))/\xx (Pl.walkK s n m 13 a [(a:Int)] 0=Pl.walkK s n m (k+1) f ps c)/\xx (dI wr (w.heap.size+2) v ps)/\xx (qL (w.heap.size+2) W2 wr)) (fun _ vp _ _=>13-acB vp)
  case atStart=>exact⟨12,a,_,[(a:Int)],0,rfl,rfl,rfl,ha,by omega,ae rfl,ae (by omega),ae rfl,ae (by rw [<-J.out];exact vC.out),ae (by rw [<-J.out];exact pG.out)⟩
  case round=>
   obtain⟨k,f,v,ps,c,hv,rfl,rfl,hf,hk,iO,Kz,WX,HO,V⟩:=hrel;subst hv;have cn:=V.out.size;have eH:xx (qL w.heap.size w wr):=ae (sU.out.trans (V.out.mono (by omega)));have Jg:=ae (HN.out.below eH.out);have a8:=ae ((V.out.block (w.heap.size+1) (by omega)).trans nH.out);have X3:=(V.out.cell (p:=⟨w.heap.size,3,none⟩) (show w.heap.size<w.heap.size+2 by omega)).trans Q3.out;have X4:=ae ((V.out.cell (p:=⟨w.heap.size,4,none⟩) (show w.heap.size<w.heap.size+2 by omega)).trans Q4.out);obtain⟨VP,VK,VT,H,h2,h3,h4,h5⟩:=Jg.out;obtain⟨hs,ad⟩:=h4 f hf;obtain⟨ta,tc,aM,Z,_⟩:=ad.1.rows;have F:=H.table f hf;rw [aM]at F;have lF:xx (∀j,j<12->wr.cell? ⟨B,48+f*12+j,none⟩=some (.int .i64 (s.L f j))):=ae fun j hj=>H.line f j hf hj;have aL:=H.lt;have br:(f:Int)<12:=by omega
   have bL:w.heap.size<wr.heap.size:=by omega
   obtain⟨lt,pq⟩:=ai (hs.length);rw [pq.out]at Z F;have bS:=ae (HG.out.T f);have bc:=ae (fun e=>JQ bS.out (x:=n) e);obtain⟨lc,Ji⟩:=ai (jZ (s.T f) n);obtain⟨r,CQ⟩:=ai (jY (s.T f) n);have l:xx (Pl.walkK s n m (k+1) f ps c=if lc=0 then(if r.here=true then(0,ps,c)else if k=0 then(10,[],0)else if s.L f (nT r m)=0 then(6,[],0)else Pl.walkK s n m k (nT r m) (ps++ [(nT r m:Int)]) (c+s.L f (nT r m)))else(lc,[],0)):=ae (by rw [<-Ji.out,<-CQ.out];rfl);rw [Ji.out,CQ.out]at bc;have rQ:=ae ad.reads;have bO:=ae Z;have bR:=ae F;have UM:=ae X3;obtain⟨pa,pc,rfl⟩:=az HO.out;obtain⟨E,vT⟩:=ai (ps.length);rw [vT.out]at HO iO⊢;clear H h2 h3 h4 h5 ad aM Z F X3;go_wp2_with fail;rename_i K hK
   refine Yv (B:=B) (xb:=w.heap.size) (a:=f) (n:=n) rfl rfl rfl rfl aL bL UM.out bR.out br bO.out rQ.out ?_ _ (by kernel_rfl);rw [Ji.out,CQ.out];intro xs W X g aa q e0 e1 hX d aD y;obtain⟨x0,x1,x2,x3,x4,x5,x6,x7,x8,x9,bj,bh,cj,pM,cf,cd,cc,cb,ca,b9,b8,zF,Au,EX,b7,rfl⟩:=abb xs aa;have e0:x0= .pointer (some ⟨X,0,none⟩):=e0;have e1:x1= .int .i64 lc:=e1;subst e0;subst e1;have k4:x4= .pointer (some ⟨w.heap.size,4,none⟩):=q 4 (by omega) (by omega);have k5:x5= .int .i64 m:=q 5 (by omega) (by omega);have k6:x6= .bool false:=q 6 (by omega) (by omega);have k7:x7=xh:=q 7 (by omega) (by omega);have k8:x8= .pointer (some ⟨w.heap.size,1,none⟩):=q 8 (by omega) (by omega);have k9:x9= .int .i64 a:=q 9 (by omega) (by omega);have bl:bj= .int .i64 a:=q 10 (by omega) (by omega)
   have bk:bh= .slice (some ⟨w.heap.size+2,0,none⟩) 1 1:=q 11 (by omega) (by omega);subst k4 k5 k6 k7 k8 k9 bl bk;clear q;have yL:=ae d;have b2:=ae aD;have aR:=ae y;have U:xx (qL w.heap.size w W):=ae (eH.out.trans (y.mono (by omega)));have bA:xx (qL (w.heap.size+2) W2 W):=ae (V.out.trans (y.mono (by omega)));have I:=ae ((y.block _ (aG a8.out)).trans a8.out);have ba:=ae (HO.out.below y);have ck:=y.size;clear d aD y aa;simp only [dC,spl];refine hK _ W ?_;by_cases G:lc=0
   ·subst G;rw [af rfl]at l;have Jf:=ae (bc.out rfl);obtain⟨⟨z0,z1,z2,z3,z4⟩,zf,zl⟩:=ZG yL.out;obtain⟨g1,g2,g3,g4,g5⟩:=b2.out;rw [g2]at z2;clear g1 g2 g3
    cases hh:r.here with
    |true=>
     rw [hh,af rfl]at l;rw [hh]at z2;have t:xx (R=(0,ps,c)):=ae (by rw [Y.out,WX.out,l.out]);obtain⟨⟨Q,P,O,N⟩,yf,yl⟩:=aS I.out;go_wp2_with fail;obtain⟨Wf,uC⟩:=aV (jy W (w.heap.size+1) (.int .i64 0) (.slice pa E pc) (.int .i64 c) (.slice none 0 0));have gX:aI (w.heap.size+1) W Wf:=by rw [uC.out];exact jF (aI.refl (w.heap.size+1) W) _ _ _ _
     have bq:Wf.heap[w.heap.size+1]? =some (.cells #[.int .i64 0,.slice pa E pc,.int .i64 c,.slice none 0 0] 40):=by
      rw [uC.out];exact lL I.out _ _ _ _
     obtain⟨⟨v0,v1,v2,v3⟩,_,_⟩:=aS bq;rw [show(((W.setCell ⟨w.heap.size+1,0,none⟩ (.int .i64 0)).setCell ⟨w.heap.size+1,1,none⟩ (.slice pa E pc)).setCell ⟨w.heap.size+1,2,none⟩ (.int .i64 c)).setCell ⟨w.heap.size+1,3,none⟩ (.slice none 0 0)=Wf from uC.out.symm];refine xn (v:= .agg #[.int .i64 0,.slice pa E pc,.int .i64 c,.slice none 0 0]) (by simp [results,Tryz.results119,go_sem,v0,v1,v2,v3]) rfl ⟨_,by rw [t.out],?_,?_,?_⟩
     ·rw [t.out];exact(dI.but ba.out gX (.inl (by omega))).mono (by omega)
     ·exact aT.ql (HN.out.below U.out) gX I.out av
     ·exact bG.of (aI.over (aI.of U.out) gX hle)
    |false=>
     rw [hh,ag Bool.false_ne_true]at l;rw [hh]at z2;by_cases C:k=0
     ·rw [af C]at l;have t:xx (R=(10,[],0)):=ae (by rw [Y.out,WX.out,l.out]);have hq:(12:Int)<(E:Int):=by have:=iO.out;omega
      clear C;go_wp2_with fail;refine(xM.out 10 _).mono ?_;rintro e w3 ⟨rfl,i⟩;have d:=(i.block _ (aG I.out)).trans I.out;have z:=ae (U.out.trans (i.mono U.out.size));have PV:=ae (Ed.out 10 w3 z.out d t.out);obtain⟨⟨Q,P,O,N⟩,yf,yl⟩:=aS d;clear i d;go_wp2_with fail;exact xn (v:= .agg #[.int .i64 10,.slice none 0 0,.int .i64 0,.slice none 0 0]) (by simp [results,Tryz.results119,go_sem,Q,P,O,N]) rfl PV.out
     ·rw [ag C]at l;have hq:¬(12:Int)<(E:Int):=by have:=iO.out;omega
      obtain⟨q1,q2,q3,q4,q5⟩:=FX Jf.out hh m;obtain⟨ga,gc,eg,ak,_⟩:=dI.ints g4;simp only [BD]at eg;obtain⟨bx,bw,bt⟩:=eg;rw [bx,bw,bt]at z4;obtain⟨o,Xg⟩:=ai (nT r m);obtain⟨ix,Ql⟩:=ai (m.toNat%r.aH.length);obtain⟨nh,M⟩:=ai (r.aH.length);rw [Xg.out,Ql.out]at q4;rw [Xg.out]at q3;rw [Ql.out,M.out]at q5;rw [M.out]at q1 q2 z4 ak;rw [Xg.out]at l;obtain⟨bg,og,rfl,cq,ar⟩:=ak.at q5;have cg:=ar ix (by rw [M.out];exact q5);rw [q4]at cg;have Rk:m.tmod (nh:Int)=(ix:Int):=by
       have e:m=(m.toNat:Int):=by have:=bX.out;omega
       rw [e,<-Ql.out,M.out];exact(Int.ofNat_tmod m.toNat nh).symm
      have bm:((nh:Int)==0)=false:=by simp;omega
      have bp:(ix:Int)<(nh:Int):=by omega
      have bd:=((V.out.trans (aR.out.mono (by omega))).cell (p:=⟨w.heap.size,4,none⟩) (show w.heap.size<w.heap.size+2 by omega)).trans Q4.out;have aw:=(aR.out.cell (p:=⟨B,48+f*12+o,none⟩) aL).trans (lF.out o q3);have bs:B<W.heap.size:=by omega
      have cl:w.heap.size<W.heap.size:=by omega
      have CG:=ae C;clear ar ak g4 g5 z0 z1 z3 C;go_wp2_with fail;go_quiet (fail);obtain⟨W5,kD⟩:=aV (W.drewN nq);rw [<-kD.out];have jP:xx (qL W.heap.size W W5):=ae (by rw [kD.out];exact aO (rU _ _) _);have bE:=(jP.out.cell (p:=⟨B,48+f*12+o,none⟩) bs).trans aw;have a6:xx (qL w.heap.size w W5):=ae (U.out.trans (jP.out.mono U.out.size));have Ky:=ae ((jP.out.block _ (aG I.out)).trans I.out);have bB:=ae (ba.out.below jP.out);have vP:=ae (HG.out.L f o);obtain⟨ln,bN⟩:=ai (s.L f o);rw [bN.out]at l bE vP;have cu:(o:Int)<12:=by omega
      have oq:=jP.out.size;clear aw cg z2 z4 bd zf Rk bm bp;by_cases A:ln=0
      ·rw [af A]at l;have t:xx (R=(6,[],0)):=ae (by rw [Y.out,WX.out,l.out]);have ay:(ln==0)=true:=by simpa using A
       clear A;go_wp2_with fail;refine(xM.out 6 _).mono ?_;rintro e w3 ⟨rfl,i⟩;have d:=(i.block _ (aG Ky.out)).trans Ky.out;have z:=ae (a6.out.trans (i.mono a6.out.size));have PV:=ae (Ed.out 6 w3 z.out d t.out);obtain⟨⟨Q,P,O,N⟩,yf,yl⟩:=aS d;clear i d;go_wp2_with fail;exact xn (v:= .agg #[.int .i64 6,.slice none 0 0,.int .i64 0,.slice none 0 0]) (by simp [results,Tryz.results119,go_sem,Q,P,O,N]) rfl PV.out
      ·rw [ag A]at l;have ay:(ln==0)=false:=by simpa using A
       obtain⟨k,rfl⟩:∃j,k=j+1:=⟨k-1,by have:=CG.out;omega⟩
       have cm:IntKind.i64.wrap (c+ln)=c+ln:=by rw [OI];have:=Kz.out;have:=vP.out;omega
       have cp:E<=12:=by omega
       clear A hq;go_wp2_with (at_builtin;refine nX OG rfl (.tmp 68) (.tmp 70) rfl (w.heap.size+2) (.slice pa E pc) ps (o:Int) rfl bB.out (by omega) rfl (by have:=vT.out;omega) ?_;intro v7 w7 kK aE;obtain⟨a7,c7,rfl⟩:=kK.slice;have rV:=ae kK;have IJ:=ae aE;obtain⟨n7,CP⟩:=ai ((ps++ [(o:Int)]).length);rw [CP.out]at rV⊢;clear kK aE);go_roundw
       case rel=>
        refine⟨k,o,_,ps++ [(o:Int)],c+ln,rfl,rfl,rfl,by omega,by omega,ae ?_,ae ?_,ae ?_,rV,ae ?_⟩
        ·have H:=iO.out;have h2:=vT.out;simp;omega
        ·have H:=Kz.out;have h2:=vP.out;push_cast at H;omega
        ·rw [WX.out,l.out]
        ·exact(bA.out.trans (jP.out.mono (by omega))).trans IJ.out
       case measure=>
        have H:=CP.out;have h2:=vT.out;simp at H;show 13-n7<13-E;omega
   ·have ay:(lc != 0)=true:=by simpa using G
    rw [ag G]at l;have t:xx (R=(lc,[],0)):=ae (by rw [Y.out,WX.out,l.out]);clear G;go_wp2_with fail;refine(xM.out lc _).mono ?_;rintro e w3 ⟨rfl,i⟩;have d:=(i.block _ (aG I.out)).trans I.out;have z:=ae (U.out.trans (i.mono U.out.size));have PV:=ae (Ed.out lc w3 z.out d t.out);obtain⟨⟨Q,P,O,N⟩,yf,yl⟩:=aS d;clear i d;go_wp2_with fail;exact xn (v:= .agg #[.int .i64 lc,.slice none 0 0,.int .i64 0,.slice none 0 0]) (by simp [results,Tryz.results119,go_sem,Q,P,O,N]) rfl PV.out
theorem TD(cap:Nat)(w:xk):
  OE oP 186 #[.slice none 0 cap] w fun e w'=>e= .returned (.slice none 0 0)/\qL w.heap.size w w':=by
 have a:∀W,(binOp .eql 29 (.slice none 0 cap) (.slice none 0 0)).run oP W= .ok (.bool true) W:=fun W=>by
  simp only [binOp];simp [aal W 29 49 none 0 cap Rw]
 go_enter Tryz.func186,Tryz.ntmps186;go_wp2;go_ret;exact⟨rfl,rU _ _⟩
theorem Pn{w:xk}{ops:Array Oper}{rest:List Oper}{o:Oper}{a:Act}{Q:Exit->Act->xk->Prop}(t:o.guard=none)(s x:Operand)
  (G:o.op= .call {callee:= .builtin .append,args:=#[s,x],argTypes:=#[29,29]})
  (base:Nat)(v:GM)(z:Addr)(len cap:Nat)(ps:List (Int×Int))(D:a.eval s=v)(f:bJ w base v [])(d:base<=w.heap.size)(C:a.eval x= .slice (some z) len cap)(K:di w (some z) len cap ps)(L:len<=1000000)
  (h:∀l w',bJ w' base l ps->qL base w w'->wpList oP ops Q rest (a.put o.dst l) w'):wpList oP ops Q (o::rest) a w:=by
 obtain⟨i0,r,p,n,m⟩:=partsOf kG;obtain⟨hl,hc,hm,F,i⟩:=K;refine aan (w:=w) t s x 29 G base 49 i0 _ 2 16 Rw r p n m rfl (by decide) v 0 [] D f z len cap (cellsP ps) C (by rw [gy,hl]) ?_ (Aa _) (by unfold Eb;omega) (by omega) d ?_
 ·intro j u g;rcases i with rfl|⟨b,off,y,_,E⟩
  ·simp [cellsP]at g
  ·cases y;rw [bD];have I:j<ps.length*2:=by have:=(List.getElem?_eq_some_iff.1 g).1;rwa [gy]at this
   obtain⟨c0,c1⟩:=uV ps (j/2) (by omega);obtain⟨B,A⟩:=E (j/2) (by omega);rcases Nat.mod_two_eq_zero_or_one j with e|e
   ·rw [show j=j/2*2 by omega]at g⊢;rw [c0]at g
    cases g;rw [<-B]
   ·rw [show j=j/2*2+1 by omega]at g⊢;rw [c1]at g
    cases g;rw [<-A,Nat.add_assoc]
 ·intro l w' c J _;rw [List.nil_append]at c;have q:=Qd f;exact h l w' (Ll c rfl) ((rU _ _).grown J d (fun k H=>(q k H).1))
theorem P7(a:Addr)(len cap:Nat)(ps:List (Int×Int))(w:xk)(h:di w (some a) len cap ps)(m:len<=1000000):
  OE oP 186 #[.slice (some a) len cap] w fun e w'=>∃v,e= .returned v/\bJ w' w.heap.size v ps/\qL w.heap.size w w':=by
 have j:=ae h;have b:qL w.heap.size w (w.alloc (.cells #[] 49)):=(rU _ _).alloc (qh _) _;have k:=ae b;have g:xx (bJ (w.alloc (.cells #[] 49)) w.heap.size (.slice (some ⟨w.heap.size,0,none⟩) 0 0) []):=
  ae ⟨rfl,.inr ⟨w.heap.size,0,#[],rfl,qh _,by show(w.heap.push _)[w.heap.size]? =_;simp,qh _,by decide,rfl,rfl⟩⟩
 have i:=ae (j.out.below b);have d:∀W,(binOp .eql 29 (.slice (some a) len cap) (.slice none 0 0)).run oP W= .ok (.bool false) W:=fun W=>by
  simp only [binOp];simp [aal W 29 49 (some a) len cap Rw]
 clear h b;go_enter Tryz.func186,Tryz.ntmps186;go_wp2_with (at_builtin;(refine Pn rfl (.tmp 5) (.tmp 6) rfl w.heap.size (.slice (some ⟨w.heap.size,0,none⟩) 0 0) a len cap ps rfl g.out (by simp) rfl i.out (by omega) ?_);intro v5 l f c);go_ret;exact⟨_,rfl,f,k.out.trans c⟩
theorem TE(a:Option Addr)(len cap:Nat)(ps:List (Int×Int))(w:xk)(h:di w a len cap ps)(c:len<=1000000)(b:a=none->len=0):
  OE oP 186 #[.slice a len cap] w fun e w'=>∃v,e= .returned v/\bJ w' w.heap.size v ps/\qL w.heap.size w w':=by
 cases a with
 |some g=>exact P7 g len cap ps w h c
 |none=>
  obtain rfl:=b rfl;have hp:ps= []:=List.length_eq_zero_iff.1 h.1;subst hp;exact(TD cap w).mono fun e w' ⟨f,d⟩=>⟨_,f,aU.nil _ _ _,d⟩
theorem Pl.Ye(p q:Int×Int):dw p q=decide (Dq p q<0):=by
 have h:=KZ p q;rw [Bool.eq_iff_iff]at h⊢;simp only [ik,Rz]at h⊢;constructor
 ·intro e;have:¬0<=Dq p q:=fun g=>by rw [h.1 g]at e;cases e
  omega
 ·intro e
  cases hh:dw p q
  ·have:=h.2 hh;omega
  ·rfl
theorem Zy(ps:List (Int×Int))(g k n c i j:Nat)(w:xk)(hl:ps.length=n)(_hc:n<=c)(_hm:c<=Eb)(h:g<w.heap.size)(l:k<w.heap.size)(a:eP w g 0 ps)(t:w.cell? ⟨k,0,none⟩=some (.slice (some ⟨g,0,none⟩) n c))(B:i<n)(A:j<n):
  OE oP 188 #[.int .i64 i,.int .i64 j,.pointer (some ⟨k,0,none⟩)] w fun e w'=>e= .returned (.bool (dw (Pl.pr ps i) (Pl.pr ps j)))/\qL w.heap.size w w':=by
 unfold Eb at _hm;obtain⟨c0,c1⟩:=a i (by omega);obtain⟨d0,d1⟩:=a j (by omega);obtain⟨⟨p1,p2⟩,y⟩:=ai (Pl.pr ps i);obtain⟨⟨f,d⟩,x⟩:=ai (Pl.pr ps j);rw [y.out]at c0 c1⊢;rw [x.out]at d0 d1⊢;simp only [Pe]at c0 c1 d0 d1;have s:(i:Int)<(n:Int):=by omega
 have r:(j:Int)<(n:Int):=by omega
 obtain⟨p,q⟩:=ai (Dq (p1,p2) (f,d));have v:xx (dw (p1,p2) (f,d)=decide (p<0)):=ae (by rw [<-q.out,Ye]);have u:xx (∀W,OE oP 100 #[.agg #[.int .i64 p1,.int .i64 p2],.agg #[.int .i64 f,.int .i64 d]] W fun e w'=>e= .returned (.int .i64 p)/\qL W.heap.size W w'):=by
  refine ae fun W=> ?_;have:=iM (p1,p2) (f,d) W;rwa [q.out]at this
 rw [v.out];clear a;go_enter Tryz.func188,Tryz.ntmps188;go_wp2_with fail;have i0:=aC l t;have i1:=aC h c0;have i2:=aC h c1;have i3:=aC h d0;have i4:=aC h d1;have m:=dO w;refine aN (by kernel_rfl) (by kernel_rfl) ?_;repeat (go_big_quiet_step ((go_at_call 100;exact dP (u.out _))))
 refine wpQuiet_nil ?_;intro z b;have o:=eU b;clear b i0 i1 i2 i3 i4 m;go_wp2_with fail;go_ret;exact⟨rfl,o⟩
theorem H6:∀(ps:List (Int×Int)) (i:Nat) (p:Int×Int),cellsP (ps.set i p)=((cellsP ps).set (i*2) (.int .i64 p.1)).set (i*2+1) (.int .i64 p.2)
 | [],i,p=>rfl
 |q::r,0,p=>rfl
 |q::r,i+1,p=>by
  show cellsP (q::(r.set i p))=_;rw [show(i+1)*2=i*2+1+1 by omega];show Ee .i64 q.1::Ee .i64 q.2::cellsP (r.set i p)=_;rw [H6 r i p];rfl
theorem bJ.set{w:xk}{base g n cap:Nat}{ps:List (Int×Int)}(h:bJ w base (.slice (some ⟨g,0,none⟩) n cap) ps)(i:Nat)(p:Int×Int):bJ (w.setCells g (i*2) [.int .i64 p.1,.int .i64 p.2]) base (.slice (some ⟨g,0,none⟩) n cap) (ps.set i p):=by
 obtain⟨h0,⟨e,_⟩|⟨j,a,cur,e,f,hh,d,hm,c,b⟩⟩:=h
 ·cases e
 ·simp only [BD,Iy,aag,and_true]at e;obtain⟨rfl,rfl,rfl⟩:=e;refine⟨by rw [gy],.inr ⟨g,cap,(cur.setIfInBounds (i*2) (.int .i64 p.1)).setIfInBounds (i*2+1) (.int .i64 p.2),by simp,f,?_,by simpa using d,hm,by simpa using c,?_⟩⟩
  ·have:=aG hh;show((w.setCell ⟨g,i*2,none⟩ (.int .i64 p.1)).setCell ⟨g,i*2+1,none⟩ (.int .i64 p.2)).heap[g]? =_;simp [World.setCell,PW,hh]
  ·rw [UQ,UQ,aam,aam,IA,b,H6]
theorem bJ.vG{w:xk}{base g n cap:Nat}{ps:List (Int×Int)}(h:bJ w base (.slice (some ⟨g,0,none⟩) n cap) ps):ps.length=n/\n<=cap/\cap<=Eb/\g<w.heap.size/\eP w g 0 ps/\∀o,w.frozen? ⟨g,o,none⟩=false:=by
 obtain⟨h0,⟨e,_⟩|⟨l,b,cur,e,k,hh,d,hm,j,c⟩⟩:=h
 ·cases e
 ·simp only [BD,Iy,aag,and_true]at e;obtain⟨rfl,rfl,rfl⟩:=e;refine⟨rfl,d,hm,aG hh,fun i f=> ?_,fun o=>by simp [VB,hh]⟩;obtain⟨c0,c1⟩:=uV ps i f;have key:∀o v,(cellsP ps)[o]? =some v->w.cell? ⟨g,o,none⟩=some v:=fun o v a=>by
   rw [<-c,MJ]at a;split at a
   ·rw [Jk]at a;simp [Tf,hh,a]
   ·cases a
  rw [Pe];exact⟨key _ _ c0,key _ _ c1⟩
end Go.Proofs.YtjjelkdajdeikaaGreatDoor
