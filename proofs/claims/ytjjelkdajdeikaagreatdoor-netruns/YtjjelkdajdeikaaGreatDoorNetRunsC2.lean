/-
  Facts put together.
-/
import Derived.Test.YtjjelkdajdeikaaGreatDoorNetRunsC1
import Derived.Lib.Slices
import Derived.Lib.Walk
import Derived.Lib.Bytealg
import Derived.Deep.MidRow
open Go renaming World→oC,Value→rU,bodyPost_ret→xh,maxLen→xx,Calls→Jj,wpList_append_own→MJ,wpList_append_fits_any→OE,lt_of_block→Qd,TypeId→Qe,info_parts→Tn,Operand→Wq,wpList_append_own_none→Zf,wpList_append_fits→aaq,wpList_make_own→aaB
open Nat renaming le_refl→oP,lt_or_ge→GM,le_trans→GX,eq_zero_or_pos→OG,zero_le→OO,lt_of_lt_of_le→aad,strongRecOn→aao,zero_add→aaw
open Go.Proofs.Tryz renaming prog→qh,underlying28→xn,underlying38→Z5,underlying37→aab
open Go.RowKit.Below renaming refl→qL,heap_alloc→Tf
open Go.RowKit renaming Below→xk,Hid→Eb,intOf→OI,ownsRow_setCell_below→Rw
open Go.World renaming ownsRow_nil→Ah,cell?→IA,frozen?→OM,size_alloc→O6,setCell→VB
open Go.Lib renaming toList_data→BD,indexByte→Ee
open List renaming take_of_length_le→BG,getElem?_eq_getElem→Iy,length_drop→LM,nil_append→Qi,getElem?_take→Rz,take_succ_eq_append_getElem→SQ,mem_append→Tq,getD_eq_getElem?_getD→UQ,mem_singleton→X6,map_append→aah,replicate→aap,mem_cons→aar,map_cons→aas,map_nil→aau
open Int renaming toNat_natCast→Jk,le_refl→Uz,zero_add→aax,lt_or_le→aay
open Go.World.ownsRow renaming alloc→Pe,lt→Ru,kept→aav
open Bool renaming and_eq_true→PW,or_eq_true→aaj
open Array renaming getElem?_toList→Rq,getElem?_eq_getElem→UX,getElem?_modify→WZ,ext→aaf,size_ofFn→aag
open Go.Value renaming string→SN,nilFunc→aal,slice→aat
open Go.Extern.BytealgIndexByte renaming indexByte→Xc
open Option renaming getD_some→Xh,map_some→aac
open Go.IntKind renaming signed→aae,bits→aai
open And renaming intro→aak
open Go.Region renaming ready→aam,binds→aan
open Ne renaming symm→aaC
open Go.Value.slice renaming injEq→aaD
set_option maxHeartbeats 8000000
namespace Go.Proofs.YtjjelkdajdeikaaGreatDoor
open Pl
open Go.RowKit
set_option maxRecDepth 20000
def gI(e:aK):List rU:= [.string e.key,.int .i64 e.gz,.int .i64 e.org,.string e.val]
def cellsL:List aK->List rU
 | []=> []
 |e::r=>gI e++cellsL r
theorem kS:∀es:List aK,(cellsL es).length=es.length*4
 | []=>rfl
 |e::r=>by simp [cellsL,gI,kS r];omega
theorem jr:∀(a b:List aK),cellsL (a++b)=cellsL a++cellsL b
 | [],_=>rfl
 |e::r,b=>by simp [cellsL,jr r b]
theorem jc:∀es:List aK,∀u∈cellsL es,u.oneCell'=true
 | [],u,h=>by simp [cellsL]at h
 |e::r,u,h=>by
  simp only [cellsL,Tq]at h;rcases h with h|h
  ·simp [gI]at h;rcases h with rfl|rfl|rfl|rfl<;>rfl
  ·exact jc r u h
theorem QB{w:oC}{b off:Nat}{e:aK}{r:List aK}:
  dN w b off (e::r)↔(w.cell? ⟨b,off,none⟩=some (.string e.key)/\w.cell? ⟨b,off+1,none⟩=some (.int .i64 e.gz)/\w.cell? ⟨b,off+2,none⟩=some (.int .i64 e.org)/\w.cell? ⟨b,off+3,none⟩=some (.string e.val))/\dN w b (off+4) r:=by
 constructor
 ·intro h;refine⟨?_,fun i a=> ?_⟩
  ·have:=h 0 (by simp);simpa [zu]using this
  ·have:=h (i+1) (by simpa using a);rw [iK,show off+(i+1)*4=off+4+i*4 by omega]at this;exact this
 ·rintro⟨h0,c⟩ i a
  cases i with
  |zero=>simpa [zu]using h0
  |succ i=>
   rw [iK,show off+(i+1)*4=off+4+i*4 by omega];exact c i (by simpa using a)
theorem kY{w:oC}{b:Nat}:∀(es:List aK) (off:Nat),dN w b off es↔∀j u,(cellsL es)[j]? =some u->w.cell? ⟨b,off+j,none⟩=some u
 | [],off=>by
  constructor
  ·intro _ j u h;simp [cellsL]at h
  ·intro _ i c;simp at c
 |e::r,off=>by
  rw [QB,kY r (off+4)];constructor
  ·rintro⟨⟨h0,k,g,f⟩,d⟩ j u a;match j,a with
   |0,a=>simp [cellsL,gI]at a;subst a;exact h0
   |1,a=>simp [cellsL,gI]at a;subst a;exact k
   |2,a=>simp [cellsL,gI]at a;subst a;exact g
   |3,a=>simp [cellsL,gI]at a;subst a;exact f
   |j+4,a=>
    have:=d j u (by simpa [cellsL,gI]using a);rwa [show off+(j+4)=off+4+j by omega]
  ·intro h;refine⟨⟨?_,?_,?_,?_⟩,fun j u a=> ?_⟩
   ·exact h 0 _ (by simp [cellsL,gI])
   ·exact h 1 _ (by simp [cellsL,gI])
   ·exact h 2 _ (by simp [cellsL,gI])
   ·exact h 3 _ (by simp [cellsL,gI])
   ·have:=h (j+4) u (by simpa [cellsL,gI]using a);rwa [show off+4+j=off+(j+4) by omega]
theorem dN.take{w:oC}{b off:Nat}{es:List aK}(h:dN w b off es)(n:Nat):dN w b off (es.take n):=by
 intro i a;simp only [List.length_take]at a;have:=h i (by omega);have e:eF (es.take n) i=eF es i:=by
  rw [oD _ _ (by simp;omega),oD _ _ (by omega)];simp
 rwa [e]
theorem dN.drop{w:oC}{b off:Nat}{es:List aK}(h:dN w b off es)(n:Nat):dN w b (off+n*4) (es.drop n):=by
 intro i a;simp only [LM]at a;have:=h (n+i) (by omega);have e:eF (es.drop n) i=eF es (n+i):=by
  rw [oD _ _ (by simp;omega),oD _ _ (by omega)];simp
 rw [e,show off+n*4+i*4=off+(n+i)*4 by omega];exact this
def Own(w:oC)(base:Nat)(v:rU)(es:List aK):Prop:=w.ownsRow base 55 4 v es.length (cellsL es)
theorem DR:(Tryz.prog.info? 55).map (fun i=>(i.zero,i.size,i.bytes))=some (some (.agg #[.string ⟨#[]⟩,.int .i64 0,.int .i64 0,.string ⟨#[]⟩]),4,48):=by kernel_rfl
theorem Own.shape{w:oC}{base:Nat}{v:rU}{es:List aK}(h:Own w base v es)(b:∀e∈es,e.ok):
  ∃a cap,v= .slice a es.length cap/\bI w a es.length cap es/\(a=none->cap=0)/\(∀x,a=some x->base<=x.block):=by
 obtain⟨_,h|⟨g,cap,cur,rfl,l,hh,d,hm,m,k⟩⟩:=h
 ·obtain⟨rfl,d⟩:=h;have i:es= []:=List.length_eq_zero_iff.1 d;subst i;exact⟨none,0,rfl,⟨rfl,oP _,by simp,b,.inl rfl⟩,fun _=>rfl,by simp⟩
 ·refine⟨some ⟨g,0,none⟩,cap,rfl,⟨rfl,d,hm,b,?_⟩,by simp,by rintro x ⟨⟩;exact l⟩;rcases es with _|⟨e,r⟩
  ·exact .inl rfl
  ·right;refine⟨g,0,rfl,?_,?_⟩
   ·exact Qd hh
   ·rw [kY];intro j u c;rw [<-k]at c;have f:cur[j]? =some u:=by
     rw [Rz]at c;split at c
     ·rw [<-Rq];exact c
     ·cases c
    simp [IA,hh,f]
theorem Own.below{w w':oC}{base:Nat}{v:rU}{es:List aK}(h:Own w base v es)(k:xk w.heap.size w w'):Own w' base v es:=by
 obtain⟨h0,a⟩:=h;refine⟨h0,?_⟩;rcases a with a|⟨g,cap,cur,rfl,c,hh,b⟩
 ·exact .inl a
 ·exact .inr ⟨g,cap,cur,rfl,c,(k.block g (Qd hh)).trans hh,b⟩
theorem Own.mono{w:oC}{base a:Nat}{v:rU}{es:List aK}(h:Own w base v es)(k:a<=base):Own w a v es:=by
 obtain⟨h0,b⟩:=h;refine⟨h0,?_⟩;rcases b with b|⟨g,cap,cur,rfl,d,c⟩
 ·exact .inl b
 ·exact .inr ⟨g,cap,cur,rfl,by omega,c⟩
theorem Own.drewN{w:oC}{base:Nat}{v:rU}{es:List aK}(h:Own w base v es)(n:Nat):Own (w.drewN n) base v es:=h
theorem Own.nil(w:oC)(base:Nat):Own w base (.slice none 0 0) []:=Ah _ _ _ _
theorem O9{w w3:oC}{c0 c1 c2 a:rU}{T:Qe}(b:xk (w.heap.size+1) (w.alloc (.cells #[c0,c1,c2,a] T)) w3):
  w3.cell? ⟨w.heap.size,0,none⟩=some c0/\w3.cell? ⟨w.heap.size,1,none⟩=some c1/\w3.cell? ⟨w.heap.size,2,none⟩=some c2/\w3.cell? ⟨w.heap.size,3,none⟩=some a:=by
 refine⟨?_,?_,?_,?_⟩
 all_goals
  rw [b.cell (by simp)];simp
theorem adv(w:oC){T:Qe}{e:aK}{j:Nat}{u:rU}(h:(gI e)[j]? =some u):
  (w.alloc (.cells #[.string e.key,.int .i64 e.gz,.int .i64 e.org,.string e.val] T)).cell? ⟨w.heap.size,0+j,none⟩=some u:=by
 match j,h with
 |0,h=>simp [gI]at h;subst h;simp
 |1,h=>simp [gI]at h;subst h;simp
 |2,h=>simp [gI]at h;subst h;simp
 |3,h=>simp [gI]at h;subst h;simp
 |j+4,h=>simp [gI]at h
theorem Lh{w:oC}{base n:Nat}{v:rU}{xs:List rU}{a:List aK}(h:w.ownsRow base 55 4 v n xs)(e:xs=cellsL a):Own w base v a:=by
 subst e;have b:n=a.length:=by
  have:=h.1;rw [kS]at this;omega
 subst b;exact h
theorem wY(w:oC)(o:Obj):(w.alloc o).heap[w.heap.size]? =some o:=by
 show(w.heap.push o)[w.heap.size]? =_;simp
theorem dm{md:Region.Mode}{ops:Array Oper}{listed:Array Bool}(d:(List.range ops.size).all (fun i=>(ops[i]?.map (fun o=>o.after.all (fun e=> !aan md e||decide (e.on<i)))).getD true)=true)(k:listed.size=ops.size)(h:aam md ops listed= []):
  ∀i,i<ops.size->listed.getD i false=true:=by
 have j:∀(i:Nat) (o:Oper),ops[i]? =some o->∀e∈o.after,aan md e=true->e.on<i:=by
  intro i o f e he a;have b:i<ops.size:=(Array.getElem?_eq_some_iff.1 f).1;have:=List.all_eq_true.1 d i (List.mem_range.2 b);rw [f]at this;simp only [aac,Xh]at this;have:=Array.all_eq_true_iff_forall_mem.1 this e he;rw [a]at this;exact of_decide_eq_true (by simpa using this)
 intro i;induction i using aao with
 |_ i g=>
  intro b
  cases hl:listed.getD i false with
  |true=>rfl
  |false=>
   exfalso;have hm:i∈aam md ops listed:=by
    rw [mem_ready];refine⟨?_,ops[i],UX b,fun e he a=> ?_⟩
    ·have:i<listed.size:=by omega
     simp [this]at hl⊢;exact hl
    ·have c:=j i ops[i] (UX b) e he a;exact g e.on c (by omega)
   rw [h]at hm
   cases hm
structure SV where
 p:rU->oC->Prop
 st:∀u w w',xk w.heap.size w w'->p u w->p u w'
def SV.any:SV:=⟨fun _ _=>True,fun _ _ _ _ h=>h⟩
def SV.eq(v:rU):SV:=⟨fun u _=>u=v,fun _ _ _ _ h=>h⟩
def SV.two(s:SV)(c:Int):SV:=⟨fun u W=>∃l,u= .tuple #[l,.int .i64 c]/\s.p l W,fun _ _ _ hb ⟨l,e,h⟩=>⟨l,e,s.st _ _ _ hb h⟩⟩
def SV.V(L:List SV)(j:Nat)(u:rU)(W:oC):Prop:=(L.getD j SV.any).p u W
theorem SV.grow{L:List SV}{w w':oC}(a:xk w.heap.size w w'):∀q u,SV.V L q u w->SV.V L q u w':=fun _ _ h=>(L.getD _ SV.any).st _ _ _ a h
def SV.LP(base:Nat)(es:List aK):SV:=⟨fun u W=>Own W base u es,fun _ _ _ hb h=>h.below hb⟩
def EE(B:Nat)(kind:Int):rU:=
 if kind=1 then .func (.func 110) #[.pointer (some ⟨B,0,none⟩)] #[]
 else if kind=2 then .func (.func 111) #[.pointer (some ⟨B,0,none⟩)] #[]
 else if kind=3 then .func (.func 112) #[.pointer (some ⟨B,0,none⟩)] #[]
 else if kind=4 then .func (.func 113) #[.pointer (some ⟨B,0,none⟩)] #[]
 else if kind=5 then .func (.func 114) #[.pointer (some ⟨B,0,none⟩)] #[]
 else if kind=6 then .func (.func 115) #[.pointer (some ⟨B,0,none⟩)] #[]
 else if kind=7 then .func (.func 116) #[.pointer (some ⟨B,0,none⟩)] #[]
 else if kind=8 then .func (.func 117) #[.pointer (some ⟨B,0,none⟩)] #[]
 else if kind=9 then .func (.func 118) #[.pointer (some ⟨B,0,none⟩)] #[]
 else if kind=10 then .func (.func 119) #[.pointer (some ⟨B,0,none⟩)] #[]
 else aal
theorem OZ(B:Nat)(kind:Int)(w:oC):
  Jj qh 70 #[.pointer (some ⟨B,0,none⟩),.int .i64 kind] w fun e w'=>e= .returned (EE B kind)/\w'=w:=by
 have b:∀(fn:Fn) (first cap:Array rU) (w:oC),(Instr.makeFunc fn first cap).run qh w= .ok (.func fn first cap) w:=fun _ _ _ _=>rfl;by_cases h:1<=kind/\kind<=10
 ·have c:kind=1\/kind=2\/kind=3\/kind=4\/kind=5\/kind=6\/kind=7\/kind=8\/kind=9\/kind=10:=by omega
  rcases c with rfl|rfl|rfl|rfl|rfl|rfl|rfl|rfl|rfl|rfl
  all_goals
   go_enter Tryz.func70,Tryz.ntmps70;go_wp2_with fail;go_ret;exact⟨rfl,rfl⟩
 ·have d:Eb (EE B kind=aal):=ae (by
   unfold EE;rw [ag (by omega),ag (by omega),ag (by omega),ag (by omega),ag (by omega),ag (by omega),ag (by omega),ag (by omega),ag (by omega),ag (by omega)])
  rw [d.out];have o:(kind==1)=false:=by simp;omega
  have n:(kind==2)=false:=by simp;omega
  have m:(kind==3)=false:=by simp;omega
  have l:(kind==4)=false:=by simp;omega
  have k:(kind==5)=false:=by simp;omega
  have j:(kind==6)=false:=by simp;omega
  have i:(kind==7)=false:=by simp;omega
  have g:(kind==8)=false:=by simp;omega
  have f:(kind==9)=false:=by simp;omega
  have a:(kind==10)=false:=by simp;omega
  clear h;go_enter Tryz.func70,Tryz.ntmps70;go_wp2_with fail;go_ret;exact⟨rfl,rfl⟩
namespace Pl
inductive Way(L:Nat->Nat->Int)(D:Nat->Bool)(f k:Nat):Nat->Int->Prop
 |base:k<12->k≠f->0<L f k->Way L D f k k (L f k)
 |step {a b:Nat} {c:Int}:Way L D f k a c->D a=false->b<12->b≠f->0<L a b->Way L D f k b (c+L a b)
theorem Way.pos{L D f k v c}(h:Way L D f k v c):0<c:=by
 induction h with
 |base _ _ h=>exact h
 |step _ _ _ _ h a=>omega
theorem Way.lt{L D f k v c}(h:Way L D f k v c):v<12:=by cases h<;>assumption
theorem Way.ne{L D f k v c}(h:Way L D f k v c):v≠f:=by cases h<;>assumption
theorem Way.klt{L D f k v c}(h:Way L D f k v c):k<12/\k≠f:=by
 induction h with
 |base d b _=>exact⟨d,b⟩
 |step _ _ _ _ _ a=>exact a
def Cj(P:Int->Prop)(m:Int):Prop:=(m= -1/\∀c,¬P c)\/(0<=m/\P m/\∀c,P c->m<=c)
theorem Cj.unique{P m n}(h:Cj P m)(g:Cj P n):m=n:=by
 rcases h with⟨rfl,h⟩|⟨h0,a,b⟩<;>rcases g with⟨rfl,g⟩|⟨g0,g1,g2⟩
 ·rfl
 ·exact absurd g1 (h _)
 ·exact absurd a (g _)
 ·have:=b _ g1;have:=g2 _ a;omega
def cZ{α:Type}(f:Nat->α)(i:Nat)(v:α):Nat->α:=fun j=>if j=i then v else f j
theorem gU{α:Type}(f:Nat->α)(i:Nat)(v:α):cZ f i v i=v:=by simp [cZ]
theorem jE{α:Type}(f:Nat->α){i j:Nat}(v:α)(h:j≠i):cZ f i v j=f j:=by simp [cZ,h]
structure DS where
 cost:Nat->Int
 aH:Nat->Nat->Bool
 done:Nat->Bool
def rH(f:Nat):DS:=⟨fun j=>if j=f then 0 else-1,fun _ _=>false,fun _=>false⟩
def II(j:Nat)(c:Int)(s:DS):DS:=
 if s.cost j= -1\/c<s.cost j then⟨cZ s.cost j c,cZ s.aH j (fun _=>false),s.done⟩else s
def Zq(f n j:Nat)(h:Nat->Nat->Bool):Nat->Nat->Bool:=if n=f then cZ h j (cZ (h j) j true)else h
def MX(n j i:Nat)(h:Nat->Nat->Bool):Nat->Nat->Bool:=cZ h j (fun k=>h j k||(decide (k<i)&&h n k))
def jk(f n j:Nat)(c:Int)(s:DS):DS:=
 if(II j c s).cost j<c then II j c s
 else⟨(II j c s).cost,MX n j 12 (Zq f n j (II j c s).aH),(II j c s).done⟩
def dRow(L:Nat->Nat->Int)(f n:Nat)(s:DS):Nat->DS
 |0=>s
 |i+1=>if 0<L n i then jk f n i ((dRow L f n s i).cost n+L n i) (dRow L f n s i)else dRow L f n s i
def qy(s:DS):Nat->Int
 |0=> -1
 |i+1=>if s.cost i= -1\/s.done i=true then qy s i else if qy s i= -1\/s.cost i<s.cost (qy s i).toNat then i else qy s i
def kJ(s:DS)(n:Nat):DS:=⟨s.cost,s.aH,cZ s.done n true⟩
def xq(L:Nat->Nat->Int)(D:Nat->Bool)(f:Nat)(s:DS)(n:Nat):DS:=
 if D n=true/\n≠f then kJ s n else dRow L f n (kJ s n) 12
def dB(L:Nat->Nat->Int)(D:Nat->Bool)(f:Nat):Nat->DS
 |0=>rH f
 |k+1=>if qy (dB L D f k) 12= -1 then dB L D f k else xq L D f (dB L D f k) (qy (dB L D f k) 12).toNat
theorem mM(s:DS)(i:Nat):
  (qy s i= -1/\∀v,v<i->s.cost v= -1\/s.done v=true)\/
  (∃n:Nat,qy s i=n/\n<i/\s.cost n≠-1/\s.done n=false/\∀v,v<i->s.cost v≠-1->s.done v=false->s.cost n<=s.cost v):=by
 induction i with
 |zero=>left;exact⟨rfl,by omega⟩
 |succ i j=>
  unfold qy;by_cases h:s.cost i= -1\/s.done i=true
  ·rw [af h];rcases j with⟨b,c⟩|⟨n,b,c,g,f,e⟩
   ·left;refine⟨b,fun v d=> ?_⟩;by_cases a:v=i
    ·subst a;exact h
    ·exact c v (by omega)
   ·right;refine⟨n,b,by omega,g,f,fun v d g1 g2=> ?_⟩;by_cases a:v=i
    ·subst a;rcases h with h|h
     ·exact absurd h g1
     ·rw [h]at g2;cases g2
    ·exact e v (by omega) g1 g2
  ·rw [ag h];have hc:s.cost i≠-1:=fun x=>h (.inl x);have k:s.done i=false:=by
    cases hh:s.done i with
    |false=>rfl
    |true=>exact absurd (.inr hh) h
   right;rcases j with⟨b,c⟩|⟨n,b,c,g,f,e⟩
   ·rw [af (.inl b)];refine⟨i,rfl,by omega,hc,k,fun v d g1 g2=> ?_⟩;by_cases a:v=i
    ·subst a;exact Uz _
    ·rcases c v (by omega)with x|x
     ·exact absurd x g1
     ·rw [x]at g2;cases g2
   ·rw [b,Jk];by_cases hl:s.cost i<s.cost n
    ·rw [af (.inr hl)];refine⟨i,rfl,by omega,hc,k,fun v d g1 g2=> ?_⟩;by_cases a:v=i
     ·subst a;exact Uz _
     ·have:=e v (by omega) g1 g2;omega
    ·rw [ag (by omega)];refine⟨n,rfl,by omega,g,f,fun v d g1 g2=> ?_⟩;by_cases a:v=i
     ·subst a;omega
     ·exact e v (by omega) g1 g2
structure ig(L:Nat->Nat->Int)(D:Nat->Bool)(f n i:Nat)(s:DS):Prop where
 c0:s.cost f=0
 h0:∀k,s.aH f k=false
 cw:∀v,v≠f->s.cost v≠-1->∃k,Way L D f k v (s.cost v)
 hw:∀v k,s.aH v k=true->Way L D f k v (s.cost v)
 rl:∀u v,s.done u=true->(u=n->v<i)->(u=f\/D u=false)->v<12->v≠f->0<L u v->
  s.cost v≠-1/\s.cost v<=s.cost u+L u v/\(s.cost v=s.cost u+L u v->(u=f->s.aH v v=true)/\∀k,s.aH u k=true->s.aH v k=true)
 dc:∀u,s.done u=true->s.cost u≠-1
 od:∀u v,s.done u=true->s.done v=false->s.cost v≠-1->s.cost u<=s.cost v
 mx:n<12->∀u,s.done u=true->s.cost u<=s.cost n
theorem ig.pos{L D f n i s}(h:ig L D f n i s)(v:Nat)(hc:s.cost v≠-1):0<=s.cost v:=by
 by_cases a:v=f
 ·subst a;rw [h.c0];omega
 ·obtain⟨k,b⟩:=h.cw v a hc;have:=b.pos;omega
theorem ig.init(L D f):ig L D f 12 0 (rH f) where
 c0:=by simp [rH]
 h0:=by simp [rH]
 cw:=by intro v a hc;simp [rH,a]at hc
 hw:=by simp [rH]
 rl:=by simp [rH]
 dc:=by simp [rH]
 od:=by simp [rH]
 mx:=by simp [rH]
theorem Zr(j c s):(II j c s).done=s.done:=by unfold II;split<;>rfl
theorem Hq(f n j c s):(jk f n j c s).done=s.done:=by unfold jk;split<;>simp [Zr]
theorem DV(L f n s i):(dRow L f n s i).done=s.done:=by
 induction i with
 |zero=>rfl
 |succ i a=>unfold dRow;split<;>simp [Hq,a]
theorem qG{f n j:Nat}{c:Int}{s:DS}(b:s.cost j≠-1)(a:s.cost j<c):jk f n j c s=s:=by
 have:II j c s=s:=by unfold II;rw [ag (by omega)]
 unfold jk;rw [this,af a]
theorem zy{f n j v:Nat}{c:Int}{s:DS}(h:v≠j):(jk f n j c s).cost v=s.cost v:=by
 unfold jk II;split<;>split<;>simp_all [cZ]
theorem Jb{f n j v:Nat}{c:Int}{s:DS}(h:v≠j):(jk f n j c s).aH v=s.aH v:=by
 unfold jk II Zq MX;split<;>split<;>(try split)<;>simp_all [cZ]
theorem Zp{f n j:Nat}{c:Int}{s:DS}(g:n≠j):
  (jk f n j c s).cost j=(if s.cost j= -1\/c<s.cost j then c else s.cost j)/\
  ∀k,(jk f n j c s).aH j k=(if s.cost j= -1\/c<s.cost j then(decide (n=f/\k=j)||(decide (k<12)&&s.aH n k))
   else if s.cost j=c then(s.aH j k||decide (n=f/\k=j)||(decide (k<12)&&s.aH n k))else s.aH j k):=by
 by_cases h:s.cost j= -1\/c<s.cost j
 ·have e:II j c s=⟨cZ s.cost j c,cZ s.aH j (fun _=>false),s.done⟩:=by unfold II;rw [af h]
  have i:¬((II j c s).cost j<c):=by rw [e];simp [cZ]
  unfold jk;rw [ag i,e];simp only [af h];refine⟨by simp [cZ],fun k=> ?_⟩;simp only [MX,gU];by_cases a:n=f
  ·simp only [Zq,af a,gU,jE _ _ g];by_cases d:k=j
   ·subst d;simp [cZ,a]
   ·simp [cZ,d]
  ·simp only [Zq,ag a,gU,jE _ _ g];simp [a]
 ·have e:II j c s=s:=by unfold II;rw [ag h]
  simp only [ag h];by_cases b:s.cost j<c
  ·rw [qG (by omega) b];refine⟨rfl,fun k=> ?_⟩;rw [ag (by omega)]
  ·have heq:s.cost j=c:=by omega
   unfold jk;rw [e,ag b];refine⟨rfl,fun k=> ?_⟩;rw [af heq];simp only [MX,gU];by_cases a:n=f
   ·simp only [Zq,af a,gU,jE _ _ g];by_cases d:k=j
    ·subst d;simp [cZ,a]
    ·simp [cZ,d]
   ·simp only [Zq,ag a];simp [a]
theorem RV{b:Bool}(h:b≠true):b=false:=by cases b<;>simp_all
theorem ig.step{L M:Nat->Nat->Int}{D:Nat->Bool}{f n i:Nat}{s:DS}(T:∀a b,a≠b->M a b=L a b)(U:∀a,L a a=0)
  (h:ig L D f n i s)(O:n<12)(P:i<12)(Q:s.done n=true)(H:n=f\/D n=false):
  ig L D f n (i+1) (if 0<M n i then jk f n i (s.cost n+M n i) s else s):=by
 have idle:(0<L n i->i≠f->s.cost i≠-1/\s.cost i<s.cost n+L n i)->ig L D f n (i+1) s:=by
  intro g;refine{h with rl:= ?_}
  ··intro u v r y J I C B;by_cases hu:u=n/\v=i
    ·obtain⟨rfl,rfl⟩:=hu;obtain⟨g1,g2⟩:=g B C;exact⟨g1,by omega,fun x=>by omega⟩
    ·exact h.rl u v r (fun x=>by have:=y x;omega) J I C B
 by_cases hm:0<M n i
 case neg=>
  rw [ag hm];refine idle fun g=> ?_;by_cases l:n=i
  ·subst l;rw [U]at g;omega
  ·rw [T n i l]at hm;omega
 rw [af hm];have Z:=h.pos n (h.dc n Q);by_cases l:n=i
 ·subst l;rw [qG (h.dc n Q) (by omega)];exact idle fun g=>by rw [U]at g;omega
 rw [T n i l]at hm⊢;by_cases ae:s.done i=true
 ·have r:=h.mx O i ae;have y:=h.dc i ae;rw [qG y (by omega)];exact idle fun _ _=>⟨y,by omega⟩
 have ae:=RV ae;by_cases m:i=f
 ·subst m;have:=h.c0;rw [qG (by omega) (by omega)];exact idle fun _ x=>absurd rfl x
 obtain⟨K,w⟩:=Zp (f:=f) (c:=s.cost n+L n i) (s:=s) l;have p:∀v,v≠i->(jk f n i (s.cost n+L n i) s).cost v=s.cost v:=fun v q=>zy q;have F:∀v,v≠i->(jk f n i (s.cost n+L n i) s).aH v=s.aH v:=fun v q=>Jb q;have E:(jk f n i (s.cost n+L n i) s).done=s.done:=Hq ..;have wn:∀k,s.aH n k=true->Way L D f k i (s.cost n+L n i):=fun k j=>by
  have hw:=h.hw n k j;rcases H with rfl|H
  ·exact absurd rfl hw.ne
  ·exact hw.step H P m hm
 have wf:n=f->Way L D f i i (s.cost n+L n i):=fun A=>by
  subst A;rw [h.c0,aax];exact .base P m hm
 have V:∃k,Way L D f k i (s.cost n+L n i):=by
  by_cases A:n=f
  ·exact⟨i,wf A⟩
  ·obtain⟨k,j⟩:=h.cw n A (h.dc n Q);exact⟨k,j.step (H.resolve_left A) P m hm⟩
 have N:=h.pos i;have e3:s.cost i= -1\/s.cost n+L n i<s.cost i\/(0<=s.cost i/\s.cost i<=s.cost n+L n i):=by
  by_cases hc:s.cost i= -1
  ·exact .inl hc
  ·have:=N hc;omega
 generalize jk f n i (s.cost n+L n i) s=t at*;refine⟨?_,?_,?_,?_,?_,?_,?_,?_⟩
 ·rw [p f (aaC m)];exact h.c0
 ·intro k;rw [F f (aaC m)];exact h.h0 k
 ·intro v q hc;by_cases o:v=i
  ·subst o;rw [K]at hc⊢;split
   ·exact V
   ·rename_i d;rw [ag d]at hc;exact h.cw v q hc
  ·rw [p v o]at hc⊢;exact h.cw v q hc
 ·intro v k j;by_cases o:v=i
  ·subst o;rw [w]at j;rw [K];by_cases d:s.cost v= -1\/s.cost n+L n v<s.cost v
   ·rw [af d]at j⊢;simp only [aaj,PW,ik]at j;rcases j with⟨g1,rfl⟩|⟨_,g⟩
    ·exact wf g1
    ·exact wn k g
   ·rw [ag d]at j⊢;by_cases G:s.cost v=s.cost n+L n v
    ·rw [af G]at j;simp only [aaj,PW,ik]at j;rcases j with(g|⟨g1,rfl⟩)|⟨_,g⟩
     ·exact h.hw v k g
     ·rw [G];exact wf g1
     ·rw [G];exact wn k g
    ·rw [ag G]at j;exact h.hw v k j
  ·rw [F v o]at j;rw [p v o];exact h.hw v k j
 ·intro u v r y J I C B;rw [E]at r;have e:u≠i:=fun x=>by rw [x,ae]at r;cases r
  rw [p u e,F u e];by_cases o:v=i
  ·subst o;rw [K];by_cases z:u=n
   ·subst z;by_cases d:s.cost v= -1\/s.cost u+L u v<s.cost v
    ·rw [af d];refine⟨by omega,by omega,fun _=>⟨fun g=> ?_,fun k g=> ?_⟩⟩
     ·rw [w,af d];simp [g]
     ·rw [w,af d];have:=(h.hw u k g).klt.1;simp [g,this]
    ·rw [ag d];refine⟨by omega,by omega,fun x=>⟨fun g=> ?_,fun k g=> ?_⟩⟩
     ·rw [w,ag d,af x];simp [g]
     ·rw [w,ag d,af x];have:=(h.hw u k g).klt.1;simp [g,this]
   ·obtain⟨Y,X,W⟩:=h.rl u v r (fun x=>absurd x z) J I C B;by_cases d:s.cost v= -1\/s.cost n+L n v<s.cost v
    ·rw [af d];exact⟨by omega,by omega,fun x=>by omega⟩
    ·rw [ag d];refine⟨Y,X,fun x=> ?_⟩;obtain⟨S,R⟩:=W x;refine⟨fun g=> ?_,fun k g=> ?_⟩
     ·rw [w,ag d];split
      ·simp [S g]
      ·exact S g
     ·rw [w,ag d];split
      ·simp [R k g]
      ·exact R k g
  ·rw [p v o,F v o];exact h.rl u v r (fun x=>by have:=y x;omega) J I C B
 ·intro u hu;rw [E]at hu;have e:u≠i:=fun x=>by rw [x,ae]at hu;cases hu
  rw [p u e];exact h.dc u hu
 ·intro u v hu q hc;rw [E]at hu q;have e:u≠i:=fun x=>by rw [x,ae]at hu;cases hu
  rw [p u e];by_cases o:v=i
  ·subst o;rw [K]at hc⊢;have:=h.mx O u hu;split
   ·omega
   ·rename_i d;rw [ag d]at hc;exact h.od u v hu q hc
  ·rw [p v o]at hc⊢;exact h.od u v hu q hc
 ·intro _ u hu;rw [E]at hu;have e:u≠i:=fun x=>by rw [x,ae]at hu;cases hu
  rw [p u e,p n l];exact h.mx O u hu
theorem ig.row{L M:Nat->Nat->Int}{D:Nat->Bool}{f n:Nat}{s:DS}(j:∀a b,a≠b->M a b=L a b)(k:∀a,L a a=0)
  (h:ig L D f n 0 s)(e:n<12)(g:s.done n=true)(d:n=f\/D n=false)(i:Nat)(l:i<=12):ig L D f n i (dRow M f n s i):=by
 induction i with
 |zero=>exact h
 |succ i c=>exact ig.step j k (c (by omega)) e (by omega) (by rw [DV];exact g) d
theorem ig.at{L:Nat->Nat->Int}{D:Nat->Bool}{f n:Nat}{s:DS}(h:ig L D f 12 0 s)(q:f<12)(p:n<12)(hc:s.cost n≠-1)(j:s.done n=false)
  (hm:∀v,v<12->s.cost v≠-1->s.done v=false->s.cost n<=s.cost v):ig L D f n 0 (kJ s n) where
 c0:=h.c0
 h0:=h.h0
 cw:=h.cw
 hw:=h.hw
 rl:=by
  intro u v a b c o m l;by_cases hu:u=n
  ·have:=b hu;omega
  ·simp only [kJ,jE _ _ hu]at a;exact h.rl u v a (fun x=>by subst x;exact absurd (h.dc 12 a) (fun g=>by
    have:=h.cw 12 (by omega) g;obtain⟨k,d⟩:=this;have:=d.lt;omega)) c o m l
 dc:=by
  intro u a;by_cases hu:u=n
  ·subst hu;exact hc
  ·simp only [kJ,jE _ _ hu]at a;exact h.dc u a
 od:=by
  intro u v a b c;have i:v≠n:=fun x=>by simp [kJ,x,cZ]at b
  simp only [kJ,jE _ _ i]at b;have e:v<12:=by
   by_cases x:v=f
   ·omega
   ·obtain⟨k,d⟩:=h.cw v x c;exact d.lt
  by_cases hu:u=n
  ·subst hu;exact hm v e c b
  ·simp only [kJ,jE _ _ hu]at a;exact h.od u v a b c
 mx:=by
  intro _ u a;by_cases hu:u=n
  ·subst hu;exact Uz _
  ·simp only [kJ,jE _ _ hu]at a;exact h.od u n a j hc
theorem ig.proc{L M:Nat->Nat->Int}{D:Nat->Bool}{f n:Nat}{s:DS}(m:∀a b,a≠b->M a b=L a b)(o:∀a,L a a=0)
  (h:ig L D f 12 0 s)(k:f<12)(e:n<12)(hc:s.cost n≠-1)(l:s.done n=false)
  (hm:∀v,v<12->s.cost v≠-1->s.done v=false->s.cost n<=s.cost v):ig L D f 12 0 (xq M D f s n):=by
 have d:=h.at k e hc l hm;unfold xq;by_cases c:D n=true/\n≠f
 ·rw [af c];exact{d with
   rl:=fun u v g1 _ g3 g4 g5 g6=>d.rl u v g1 (fun y=>by
    subst y;rcases g3 with g|g
    ·exact absurd g c.2
    ·rw [c.1]at g;cases g) g3 g4 g5 g6
   mx:=fun x=>absurd x (by omega)}
 ·rw [ag c];have j:n=f\/D n=false:=by
   by_cases g:n=f
   ·exact .inl g
   ·exact .inr (RV fun y=>c ⟨y,g⟩)
  have i:=d.row m o e (by simp [kJ,cZ]) j 12 (by omega);exact{i with
   rl:=fun u v g1 _ g3 g4 g5 g6=>i.rl u v g1 (fun _=>g4) g3 g4 g5 g6
   mx:=fun x=>absurd x (by omega)}
theorem ig.iter{L M:Nat->Nat->Int}{D:Nat->Bool}{f:Nat}(g:∀a b,a≠b->M a b=L a b)(h:∀a,L a a=0)(e:f<12)(k:Nat):
  ig L D f 12 0 (dB M D f k):=by
 induction k with
 |zero=>exact ig.init L D f
 |succ k d=>
  unfold dB;rcases mM (dB M D f k) 12 with⟨c,_⟩|⟨n,c,m,l,j,i⟩
  ·rw [af c];exact d
  ·rw [c,ag (by omega),Jk];exact d.proc g h e m l j i
def Aq(d:Nat->Bool):Nat->Nat
 |0=>0
 |i+1=>Aq d i+if d i=true then 1 else 0
theorem Zw(d:Nat->Bool)(i:Nat):Aq d i<=i:=by
 induction i with
 |zero=>exact oP _
 |succ i a=>unfold Aq;split<;>omega
theorem Zv{d e:Nat->Bool}(h:∀v,d v=true->e v=true)(i:Nat):Aq d i<=Aq e i:=by
 induction i with
 |zero=>exact oP _
 |succ i b=>
  unfold Aq;by_cases a:d i=true
  ·rw [af a,af (h i a)];omega
  ·rw [ag a];omega
theorem RQ{d e:Nat->Bool}(h:∀v,d v=true->e v=true){u i:Nat}(hu:u<i)(g:d u=false)(f:e u=true):Aq d i<Aq e i:=by
 induction i with
 |zero=>omega
 |succ i b=>
  unfold Aq;by_cases c:u=i
  ·subst c;rw [g,f,ag (by decide),af rfl];have:=Zv h u;omega
  ·have:=b (by omega);by_cases a:d i=true
   ·rw [af a,af (h i a)];omega
   ·rw [ag a];omega
theorem abK(i:Nat):Aq (fun _=>true) i=i:=by
 induction i with
 |zero=>rfl
 |succ i a=>simp [Aq,a]
theorem Hr{d:Nat->Bool}{u i:Nat}(hu:u<i)(a:d u=false):Aq d i<i:=by
 have:=RQ (d:=d) (e:=fun _=>true) (fun _ _=>rfl) hu a rfl;rw [abK]at this;exact this
theorem UD{d:Nat->Bool}{u i:Nat}(hu:u<i)(b:d u=false):Aq d i<Aq (cZ d u true) i:=
 RQ (fun v a=>by by_cases h:v=u<;>simp [cZ,h,a]) hu b (by simp [cZ])
theorem uU(L D f s n):(xq L D f s n).done=cZ s.done n true:=by
 unfold xq;split<;>simp [kJ,DV]
theorem Wp(L D f)(k:Nat):qy (dB L D f k) 12= -1\/k<=Aq (dB L D f k).done 12:=by
 induction k with
 |zero=>right;omega
 |succ k b=>
  rcases mM (dB L D f k) 12 with⟨a,_⟩|⟨n,a,e,i,c,h⟩
  ·left;unfold dB;rw [af a];exact a
  ·right;have g:=b.resolve_left (by omega);unfold dB;rw [a,ag (by omega),Jk,uU];have:=UD (d:=(dB L D f k).done) e c;omega
theorem O4{L D f k}(h:qy (dB L D f k) 12≠-1):k<12:=by
 have d:=(Wp L D f k).resolve_left h;rcases mM (dB L D f k) 12 with⟨a,_⟩|⟨n,a,c,g,b,e⟩
 ·exact absurd a h
 ·have:=Hr c b;omega
theorem Wn(L D f):qy (dB L D f 12) 12= -1:=by
 by_cases h:qy (dB L D f 12) 12= -1
 ·exact h
 ·have:=O4 h;omega
theorem RN{L D f k}(h:qy (dB L D f k) 12= -1)(j:Nat):dB L D f (k+j)=dB L D f k:=by
 induction j with
 |zero=>rfl
 |succ j a=>show(if qy (dB L D f (k+j)) 12= -1 then dB L D f (k+j)else _)=_;rw [a,af h]
theorem RJ{L D f k}(h:qy (dB L D f k) 12= -1)(a:k<=12):dB L D f k=dB L D f 12:=by
 have:=RN h (12-k);rw [<-this];congr 1;omega
theorem found{L M:Nat->Nat->Int}{D:Nat->Bool}{f:Nat}(q:∀a b,a≠b->M a b=L a b)(r:∀a,L a a=0)(o:f<12){k v:Nat}{c:Int}
  (h:Way L D f k v c):(dB M D f 12).cost v≠-1/\(dB M D f 12).cost v<=c/\((dB M D f 12).cost v=c->(dB M D f 12).aH v k=true):=by
 have I:=ig.iter (D:=D) q r o 12;have E:=Wn M D f;rcases mM (dB M D f 12) 12 with⟨_,N⟩|⟨n,d,_⟩
 case inr=>omega
 generalize dB M D f 12=s at*;have fd:s.done f=true:=(N f o).resolve_left (by rw [I.c0];omega);induction h with
 |base d m l=>
  obtain⟨j,i,g⟩:=I.rl f k fd (by omega) (.inl rfl) d m l;rw [I.c0,aax]at i g;exact⟨j,i,fun x=>(g x).1 rfl⟩
 | @step a b c d m l u t p=>
  obtain⟨i1,i2,i3⟩:=p;have w:s.done a=true:=(N a d.lt).resolve_left i1;have al:=d.lt;obtain⟨j,i,g⟩:=I.rl a b w (by omega) (.inr m) l u t;refine⟨j,by omega,fun x=> ?_⟩;have e:s.cost a=c:=by omega
  exact(g (by omega)).2 k (i3 e)
theorem J5{L M:Nat->Nat->Int}{D:Nat->Bool}{f:Nat}(g:∀a b,a≠b->M a b=L a b)(i:∀a,L a a=0)(e:f<12){v:Nat}(j:v≠f):
  Cj (fun c=>∃k,Way L D f k v c) ((dB M D f 12).cost v):=by
 have I:=ig.iter (D:=D) g i e 12;by_cases h:(dB M D f 12).cost v= -1
 ·exact .inl ⟨h,fun c ⟨k,d⟩=>(found g i e d).1 h⟩
 ·exact .inr ⟨I.pos v h,I.cw v j h,fun c ⟨k,d⟩=>(found g i e d).2.1⟩
theorem G9{L M:Nat->Nat->Int}{D:Nat->Bool}{f:Nat}(d:∀a b,a≠b->M a b=L a b)(e:∀a,L a a=0)(c:f<12)(v k:Nat):
  (dB M D f 12).aH v k=true↔Way L D f k v ((dB M D f 12).cost v):=by
 have I:=ig.iter (D:=D) d e c 12;exact⟨I.hw v k,fun h=>(found d e c h).2.2 rfl⟩
def mW(L:Nat->Nat->Int)(D:Nat->Bool)(f a b:Nat)(gY:Nat->Int):Nat->Int:=
 if a=f\/b=f\/gY a<0\/D a=true\/L a b=0 then gY
 else if gY b<0\/gY a+L a b<gY b then cZ gY b (gY a+L a b)else gY
def xC(L:Nat->Nat->Int)(D:Nat->Bool)(f a:Nat)(gY:Nat->Int):Nat->Nat->Int
 |0=>gY
 |j+1=>mW L D f a j (xC L D f a gY j)
def kV(L:Nat->Nat->Int)(D:Nat->Bool)(f:Nat)(gY:Nat->Int):Nat->Nat->Int
 |0=>gY
 |i+1=>xC L D f i (kV L D f gY i) 12
def rO(L:Nat->Nat->Int)(f:Nat)(first:Int):Nat->Int:=fun i=>if i≠f/\0<L f i/\(first<0\/first=i)then L f i else-1
def jl(L:Nat->Nat->Int)(D:Nat->Bool)(f:Nat)(first:Int):Nat->Nat->Int
 |0=>rO L f first
 |r+1=>kV L D f (jl L D f first r) 12
def BW(L:Nat->Nat->Int)(D:Nat->Bool)(f:Nat)(first:Int)(v:Nat)(c:Int):Prop:=∃k:Nat,(first<0\/first=k)/\Way L D f k v c
def Snd(L:Nat->Nat->Int)(D:Nat->Bool)(f:Nat)(first:Int)(gY:Nat->Int):Prop:=∀v,v<12->gY v= -1\/BW L D f first v (gY v)
def WU(x y:Nat->Int):Prop:=∀v,0<=x v->0<=y v/\y v<=x v
theorem WU.refl(x):WU x x:=fun _ h=>⟨h,Uz _⟩
theorem WU.trans{x y z}(h:WU x y)(g:WU y z):WU x z:=fun v a=>by have:=h v a;have:=g v this.1;omega
theorem BW.pos{L D f first v c}(h:BW L D f first v c):0<c:=by obtain⟨k,_,a⟩:=h;exact a.pos
theorem Pj{L:Nat->Nat->Int}{D f a b first gY}(o:∀a b,0<=L a b)(ha:a<12)(n:b<12)(h:Snd L D f first gY):
  Snd L D f first (mW L D f a b gY)/\WU gY (mW L D f a b gY)/\
  (a≠f->b≠f->0<=gY a->D a=false->0<L a b->0<=mW L D f a b gY b/\mW L D f a b gY b<=gY a+L a b):=by
 unfold mW;split
 ·rename_i c;refine⟨h,WU.refl _,fun r q w p u=> ?_⟩;rcases c with x|x|x|x|x
  ·exact absurd x r
  ·exact absurd x q
  ·omega
  ·rw [p]at x;cases x
  ·omega
 ·rename_i c;have t:a≠f:=fun g=>c (.inl g);have j:b≠f:=fun g=>c (.inr (.inl g));have s:0<=gY a:=by omega
  have i:D a=false:=RV fun g=>c (.inr (.inr (.inr (.inl g))));have e:0<L a b:=by have:=o a b;omega
  split
  ·rename_i l;refine⟨fun v d=> ?_,fun v d=> ?_,fun _ _ _ _ _=> ?_⟩
   ·by_cases g:v=b
    ·subst g;right;rw [gU];obtain⟨k,m,hw⟩:=(h a ha).resolve_left (by omega);exact⟨k,m,hw.step i n j e⟩
    ·rw [jE _ _ g];exact h v d
   ·by_cases g:v=b
    ·subst g;rw [gU];omega
    ·rw [jE _ _ g];omega
   ·rw [gU];omega
  ·rename_i l;exact⟨h,WU.refl _,fun _ _ _ _ _=>by omega⟩
theorem WC{L:Nat->Nat->Int}{D f a first gY}(l:∀a b,0<=L a b)(ha:a<12)(h:Snd L D f first gY)(j:Nat)(m:j<=12):
  Snd L D f first (xC L D f a gY j)/\WU gY (xC L D f a gY j)/\
  (∀b,b<j->a≠f->b≠f->0<=gY a->D a=false->0<L a b->0<=xC L D f a gY j b/\xC L D f a gY j b<=gY a+L a b):=by
 induction j with
 |zero=>exact⟨h,WU.refl _,fun b k=>by omega⟩
 |succ j i=>
  obtain⟨i1,i2,i3⟩:=i (by omega);obtain⟨g,d,e⟩:=Pj (a:=a) (b:=j) l ha (by omega) i1;unfold xC;refine⟨g,i2.trans d,fun b k g1 g2 g3 g4 g5=> ?_⟩;by_cases c:b=j
  ·subst c;have:=i2 a g3;have:=e g1 g2 this.1 g4 g5;omega
  ·have:=i3 b (by omega) g1 g2 g3 g4 g5;have:=d b this.1;omega
theorem Ph{L:Nat->Nat->Int}{D f first gY}(l:∀a b,0<=L a b)(h:Snd L D f first gY)(i:Nat)(m:i<=12):
  Snd L D f first (kV L D f gY i)/\WU gY (kV L D f gY i)/\
  (∀a b,a<i->b<12->a≠f->b≠f->0<=gY a->D a=false->0<L a b->0<=kV L D f gY i b/\kV L D f gY i b<=gY a+L a b):=by
 induction i with
 |zero=>exact⟨h,WU.refl _,fun a b c=>by omega⟩
 |succ i k=>
  obtain⟨i1,i2,i3⟩:=k (by omega);obtain⟨j,e,g⟩:=WC (a:=i) l (by omega) i1 12 (oP _);unfold kV;refine⟨j,i2.trans e,fun a b ha c g1 g2 g3 g4 g5=> ?_⟩;by_cases d:a=i
  ·subst d;have:=i2 a g3;have:=g b c g1 g2 this.1 g4 g5;omega
  ·have:=i3 a b (by omega) c g1 g2 g3 g4 g5;have:=e b this.1;omega
theorem least(P:Int->Prop)(h:∀c,P c->0<=c):∃m,Cj P m:=by
 by_cases e:∃c,P c
 ·obtain⟨c,hc⟩:=e;have key:∀n:Nat,∀c:Int,P c->c=n->∃m,Cj P m:=by
   intro n;induction n using aao with
   |_ n f=>
    intro c hc i;by_cases b:∃d,P d/\d<c
    ·obtain⟨d,a,hl⟩:=b;have:=h d a;exact f d.toNat (by omega) d a (by omega)
    ·exact⟨c,.inr ⟨h c hc,hc,fun d a=>by
      by_cases g:d<c
      ·exact absurd ⟨d,a,g⟩ b
      ·omega⟩⟩
  have:=h c hc;exact key c.toNat c hc (by omega)
 ·exact⟨-1,.inl ⟨rfl,fun c hc=>e ⟨c,hc⟩⟩⟩
theorem Kr{L:Nat->Nat->Int}{D:Nat->Bool}{f:Nat}(first:Int)(H:∀a b,0<=L a b)(v:Nat)(j:v<12):
  Cj (BW L D f first v) (jl L D f first 12 v):=by
 obtain⟨g,n⟩:=Classical.axiomOfChoice (r:=fun v m=>Cj (BW L D f first v) m) fun v=>least (BW L D f first v) fun c hc=>by have:=hc.pos;omega
 have key:∀r,Snd L D f first (jl L D f first r)/\
   (∀v:Nat,v<12->v≠f->0<L f v->(first<0\/first=(v:Int))->0<=jl L D f first r v/\jl L D f first r v<=L f v)/\
   (∀v,v<12->0<=g v->Aq (fun u=>decide (0<=g u/\g u<g v)) 12<r->jl L D f first r v=g v):=by
  intro r;induction r with
  |zero=>
   refine⟨fun v j=> ?_,fun v j q p s=> ?_,fun v _ _ h=>by omega⟩
   ·unfold jl rO;by_cases l:v≠f/\0<L f v/\(first<0\/first=(v:Int))
    ·rw [af l];exact .inr ⟨v,l.2.2,.base j l.1 l.2.1⟩
    ·rw [ag l];exact .inl rfl
   ·unfold jl rO;rw [af ⟨q,p,s⟩];omega
  |succ r F=>
   obtain⟨i1,i2,i3⟩:=F;obtain⟨w,t,B⟩:=Ph H i1 12 (oP _);unfold jl;refine⟨w,fun v j q p s=> ?_,fun v j q p=> ?_⟩
   ·have:=i2 v j q p s;have:=t v this.1;omega
   ·obtain⟨_,hw,hm⟩:0<=g v/\BW L D f first v (g v)/\∀c,BW L D f first v c->g v<=c:=by
     rcases n v with⟨x,_⟩|x
     ·omega
     ·exact x
    have low:∀x,0<=x->x<=g v->(kV L D f (jl L D f first r) 12 v=x)->x=g v:=fun x J I A=>by
     have:=(w v j).resolve_left (by omega);rw [A]at this;have:=hm _ this;omega
    obtain⟨k,z,hw⟩:=hw;generalize G:g v=K at*
    cases hw with
    |base g1 g2 g3=>
     have a1:=i2 v j g2 g3 z;have a2:=t v a1.1;exact low _ a2.1 (by omega) rfl
    | @step a _ c g1 g2 g3 g4 g5=>
     have o:BW L D f first a c:=⟨k,z,g1⟩
     rcases n a with⟨_,x⟩|⟨d0,d1,d2⟩
     ·exact absurd o (x c)
     ·have d3:=d2 c o;have d4:=RQ (d:=fun u=>decide (0<=g u/\g u<g a)) (e:=fun u=>decide (0<=g u/\g u<c+L a v)) (u:=a) (i:=12)
       (fun u hu=>by simp only [ik]at hu⊢;omega) g1.lt (by simp) (by simp only [ik];omega)
      have a1:=i3 a g1.lt d0 (by omega);have a2:=B a v g1.lt j g1.ne g4 (by omega) g2 g5;exact low _ a2.1 (by omega) rfl
 obtain⟨E,_,C⟩:=key 12;rcases n v with⟨x,l⟩|⟨d0,d1,d2⟩
 ·rcases E v j with y|y
  ·exact .inl ⟨y,l⟩
  ·exact absurd y (l _)
 ·rw [C v j d0 (Hr j (by simp))];exact .inr ⟨d0,d1,d2⟩
theorem Vg{L M:Nat->Nat->Int}{D:Nat->Bool}{f:Nat}(i:∀a b,a≠b->M a b=L a b)(j:∀a,L a a=0)(h0:∀a b,0<=L a b)(h:f<12){v:Nat}(g:v<12)(d:v≠f):
  (dB M D f 12).cost v=jl L D f (-1) 12 v:=by
 refine(J5 i j h d).unique ?_;have:=Kr (D:=D) (f:=f) (-1) h0 v g;have e:BW L D f (-1) v=fun c=>∃k,Way L D f k v c:=by
  funext c;unfold BW;simp
 rw [e]at this;exact this
theorem Vf{L M:Nat->Nat->Int}{D:Nat->Bool}{f:Nat}(i:∀a b,a≠b->M a b=L a b)(l:∀a,L a a=0)(h0:∀a b,0<=L a b)(g:f<12){v:Nat}(n:v<12)(k:Nat):
  (dB M D f 12).aH v k=decide (v≠f/\0<=(dB M D f 12).cost v/\jl L D f k 12 v=(dB M D f 12).cost v):=by
 rw [Bool.eq_iff_iff,ik,G9 i l g];have d:=Kr (D:=D) (f:=f) k h0 v n;have o:BW L D f k v=Way L D f k v:=by
  funext c;unfold BW
  refine propext ⟨fun⟨j,p,e⟩=> ?_,fun h=>⟨k,.inr rfl,h⟩⟩;have:(k:Int)=j:=by omega
  have:k=j:=by omega
  rw [this];exact e
 rw [o]at d;constructor
 ·intro h;have hp:=h.pos;refine⟨h.ne,by omega,?_⟩;rcases d with⟨_,x⟩|⟨b0,b1,m⟩
  ·exact absurd h (x _)
  ·have:=m _ h;have:=(found i l g b1).2.1;omega
 ·rintro⟨_,p,e⟩;rcases d with⟨x,_⟩|⟨b0,b1,m⟩
  ·omega
  ·rw [e]at b1;exact b1
theorem J4{L M:Nat->Nat->Int}{D:Nat->Bool}{f:Nat}(d:∀a b,a≠b->M a b=L a b)(e:∀a,L a a=0)(c:f<12):(dB M D f 12).cost f=0:=
 (ig.iter (D:=D) d e c 12).c0
def cutL(c:UInt8):List UInt8->List UInt8×Option (List UInt8)
 | []=>([],none)
 |b::r=>if b=c then([],some r)else(b::(cutL c r).1,(cutL c r).2)
def behind(x:Option (List UInt8)):List UInt8:=x.getD []
theorem yD{c:UInt8}:∀{l:List UInt8},c∉l->cutL c l=(l,none)
 | [],_=>rfl
 |b::r,h=>by
  simp only [aar,not_or]at h;rw [cutL,ag (fun e=>h.1 e.symm),yD h.2]
theorem DW{c:UInt8}:∀{l:List UInt8} {i:Nat} (_:i<l.length),l[i]? =some c->c∉l.take i->cutL c l=(l.take i,some (l.drop (i+1)))
 | [],i,h,_,_=>by simp at h
 |b::r,0,_,h,_=>by simp at h;simp [cutL,h]
 |b::r,i+1,a,h,k=>by
  simp only [List.take_succ_cons,aar,not_or]at k;have:=DW (c:=c) (l:=r) (i:=i) (by simpa using a) (by simpa using h) k.2;rw [cutL,ag (fun e=>k.1 e.symm),this];simp
theorem uq(c:UInt8):∀l:List UInt8,(cutL c l).1.length<=l.length/\(∀r,(cutL c l).2=some r->(cutL c l).1.length+r.length+1=l.length)
 | []=>⟨by simp [cutL],by simp [cutL]⟩
 |b::r=>by
  obtain⟨f,d⟩:=uq c r;by_cases e:b=c
  ·simp [cutL,e]
  ·rw [cutL,ag e];refine⟨by simpa using f,fun x a=> ?_⟩;have:=d x a;simp;omega
def dg(c:UInt8):Bool:=decide (48<=(c.toNat:Int)/\(c.toNat:Int)<=57)
def LU(l:List UInt8):Bool:=l.all dg
def val(l:List UInt8):Int:=l.foldl (fun n c=>10*n+((c.toNat:Int)-48)) 0
theorem Nl(l:List UInt8)(c:UInt8):val (l++ [c])=10*val l+((c.toNat:Int)-48):=by simp [val]
theorem O1(l:List UInt8)(c:UInt8):LU (l++ [c])=(LU l&&dg c):=by simp [LU]
theorem zG:∀(n:Nat) (l:List UInt8),l.length=n->LU l=true->0<=val l/\val l<10^n
 |0,l,h,_=>by rw [List.length_eq_zero_iff.1 h];simp [val]
 |n+1,l,h,k=>by
  obtain⟨a,c,rfl⟩:∃a c,l=a++ [c]:=⟨l.dropLast,l.getLast (by intro e;simp [e]at h),(List.dropLast_concat_getLast _).symm⟩
  rw [O1,PW]at k;obtain⟨d,b⟩:=zG n a (by simpa using h) k.1;have hc:=of_decide_eq_true k.2;rw [Nl];have e:(10:Int)^(n+1)=10*10^n:=by rw [Int.pow_succ];omega
  rw [e];omega
def mJ(l:List UInt8):Option Int:=
 if 1<=l.length/\l.length<=6/\¬(l.head?=some 48/\1<l.length)/\LU l=true/\val l<=100000 then some (val l)else none
theorem yh{l:List UInt8}(h:l.length<1\/6<l.length):mJ l=none:=by unfold mJ;rw [ag (by omega)]
theorem JM{l:List UInt8}(h:l.head?=some 48)(k:1<l.length):mJ l=none:=by unfold mJ;rw [ag (by simp [h,k])]
theorem Gj{l:List UInt8}(h:LU l=false):mJ l=none:=by unfold mJ;rw [ag (by simp [h])]
theorem Gi{l:List UInt8}(h:¬val l<=100000):mJ l=none:=by unfold mJ;rw [ag (by simp [h])]
theorem JO{l:List UInt8}(e:1<=l.length)(d:l.length<=6)(c:¬(l.head?=some 48/\1<l.length))(b:LU l=true)(a:val l<=100000):mJ l=some (val l):=by
 unfold mJ;rw [af ⟨e,d,c,b,a⟩]
theorem mG{l:List UInt8}{n:Int}(h:mJ l=some n):0<=n/\n<=100000:=by
 unfold mJ at h;split at h
 ·rename_i hh;obtain⟨_,_,_,b,a⟩:=hh
  cases h;exact⟨(zG _ l rfl b).1,a⟩
 ·cases h
theorem Wj{l:List UInt8}{k:Nat}(h:k<l.length)(a:dg l[k]=false):LU l=false:=by
 unfold LU;rw [Bool.eq_false_iff];intro hh;rw [List.all_eq_true]at hh;rw [hh _ (List.getElem_mem h)]at a;cases a
def pairL(m:UInt8)(l:List UInt8):Option (Int×Int):=
 match mJ (cutL m l).1,mJ (behind (cutL m l).2)with
 |some a,some b=>some (a,b)
 |_,_=>none
theorem NZ{m:UInt8}{l:List UInt8}(a:mJ (behind (cutL m l).2)=none):pairL m l=none:=by unfold pairL;rw [a];split<;>simp_all
theorem Yl{m:UInt8}{l:List UInt8}{p:Int×Int}(h:pairL m l=some p):0<=p.1/\p.1<=100000/\0<=p.2/\p.2<=100000:=by
 unfold pairL at h;split at h
 ·rename_i a b ha c
  cases h;exact⟨(mG ha).1,(mG ha).2,(mG c).1,(mG c).2⟩
 ·cases h
def partsN:Nat->List UInt8->List (List UInt8)
 |0,_=> []
 |n+1,l=>match (cutL 44 l).2 with
  |none=> [(cutL 44 l).1]
  |some r=>(cutL 44 l).1::partsN n r
def parts(l:List UInt8):List (List UInt8):=partsN (l.length+1) l
theorem JI:∀(n m:Nat) (l:List UInt8),l.length<n->l.length<m->partsN n l=partsN m l
 |0,_,_,h,_=>by omega
 |_,0,_,_,h=>by omega
 |n+1,m+1,l,h,k=>by
  rw [partsN,partsN];split
  ·rfl
  ·rename_i r a;have:=(uq 44 l).2 r a;rw [JI n m r (by omega) (by omega)]
theorem zO{l:List UInt8}(h:(cutL 44 l).2=none):parts l= [(cutL 44 l).1]:=by
 unfold parts;rw [partsN,h]
theorem zN{l r:List UInt8}(h:(cutL 44 l).2=some r):parts l=(cutL 44 l).1::parts r:=by
 unfold parts;rw [partsN,h];have:=(uq 44 l).2 r h;simp only;rw [JI l.length (r.length+1) r (by omega) (by omega)]
def pairsP(m:UInt8):List (List UInt8)->Option (List (Int×Int))
 | []=>some []
 |p::r=>match pairL m p,pairsP m r with
  |some x,some y=>some (x::y)
  |_,_=>none
def iP(m:UInt8)(l:List UInt8):Option (List (Int×Int)):=if l= []then some []else pairsP m (parts l)
def andThen(a:List (Int×Int))(x:Option (List (Int×Int))):Option (List (Int×Int)):=x.map (a++·)
theorem rD{m:UInt8}{p:List UInt8}{r:List (List UInt8)}(h:pairL m p=none):pairsP m (p::r)=none:=by rw [pairsP,h]
theorem rC{m:UInt8}{p:List UInt8}{r:List (List UInt8)}{x:Int×Int}{a:List (Int×Int)}(h:pairL m p=some x):andThen a (pairsP m (p::r))=andThen (a++ [x]) (pairsP m r):=by
 rw [pairsP,h]
 cases pairsP m r<;>simp [andThen]
theorem xZ{m:UInt8}:∀{ps:List (List UInt8)} {a:List (Int×Int)},pairsP m ps=some a->∀p∈a,0<=p.1/\p.1<=100000/\0<=p.2/\p.2<=100000
 | [],a,h=>by cases h;simp
 |p::r,a,h=>by
  rw [pairsP]at h;split at h
  ·rename_i x y d c
   cases h;intro q b;rcases List.mem_cons.1 b with rfl|b
   ·exact Yl d
   ·exact xZ c q b
  ·cases h
theorem gp{p:Int×Int}(h:0<=p.1/\p.1<=100000/\0<=p.2/\p.2<=100000):dJ p:=by
 obtain⟨d,c,b,a⟩:=h;constructor
 all_goals
  simp [Lit.wf,IntKind.min,IntKind.max,aae,aai];omega
end Pl
theorem Pl.JU(c:UInt8):∀l:List UInt8,(Ee l c= -1/\Pl.cutL c l=(l,none))\/∃i:Nat,i<l.length/\Ee l c=i/\Pl.cutL c l=(l.take i,some (l.drop (i+1)))
 | []=> .inl ⟨rfl,rfl⟩
 |b::r=>by
  by_cases e:b=c
  ·right;exact⟨0,by simp,by simp [Ee,e],by simp [Pl.cutL,e]⟩
  ·rcases JU c r with⟨d,a⟩|⟨i,f,d,a⟩
   ·left;exact⟨by simp [Ee,e,d],by simp [Pl.cutL,e,a]⟩
   ·right;refine⟨i+1,by simpa using f,?_,by simp [Pl.cutL,e,a]⟩;rw [Ee];simp only [beq_iff_eq,e,if_false,d];rw [ag (by omega)];rfl
theorem kH(s:ByteArray)(i j:Nat):(s.extract i j).data.toList=(s.data.toList.drop i).take (j-i):=by
 rw [ByteArray.data_extract,Array.toList_extract]
theorem bT(s:ByteArray):s.data.toList.length=s.size:=by simp
set_option maxRecDepth 100000 in
theorem Gv(s:ByteArray)(c:Int)(w:oC):
  Jj qh 202 #[.string s,.int .u8 c] w fun e w'=>e= .returned (.int .i64 (Ee s.data.toList c.toNat.toUInt8))/\w'=w:=by
 go_enter Tryz.func202,Tryz.ntmps202;go_wp2;rw [run_callFunc_extern Tryz.func222 (by kernel_rfl) (by kernel_rfl) (by kernel_rfl) (e:=Xc) (by kernel_rfl),Lib.run_indexByteString];simp only [Result.andThen];rw [Oper.upon_value];go_wp2;go_ret;exact⟨rfl,rfl⟩
theorem Gu(s:ByteArray)(c:UInt8)(w:oC):
  Jj qh 178 #[.string s,.string ⟨#[c]⟩] w fun e w'=>e= .returned (.int .i64 (Ee s.data.toList c))/\w'=w:=by
 go_enter Tryz.func178,Tryz.ntmps178;go_wp2_with (go_at_call 202;refine(Gv _ _ _).mono ?_;rintro e w' ⟨rfl,rfl⟩)
 ·have h:([c]==s.toList)=true:=by assumption
  go_ret;refine⟨?_,rfl⟩;have e:s.data.toList= [c]:=by rw [<-BD];exact(beq_iff_eq.1 h).symm
  rw [e];simp [Ee]
 ·go_ret;exact⟨rfl,rfl⟩
theorem YJ(s:ByteArray)(c:UInt8)(w:oC)(h:s.size<=xx):
  Jj qh 144 #[.string s,.string ⟨#[c]⟩] w fun e w'=>∃a b:ByteArray,e= .returned (.tuple #[.string a,.string b,.bool (Pl.cutL c s.data.toList).2.isSome])/\
   a.data.toList=(Pl.cutL c s.data.toList).1/\b.data.toList=Pl.behind (Pl.cutL c s.data.toList).2/\∃n,w'=w.drewN n:=by
 unfold xx at h;rcases JU c s.data.toList with⟨g,f⟩|⟨i,j,g,f⟩
 ·have H1:=ae g;have d:=ae f;clear g f;go_enter Tryz.func144,Tryz.ntmps144;go_wp2_with (go_at_call 178;refine(Gu _ _ _).mono ?_;rw [H1.out];rintro e w' ⟨rfl,rfl⟩);go_ret3;exact⟨s,⟨#[]⟩,by rw [d.out];rfl,by rw [d.out],by rw [d.out];rfl,0,rfl⟩
 ·have H1:=ae g;have d:=ae f;clear g f;rw [bT]at j;go_enter Tryz.func144,Tryz.ntmps144;go_wp2_with (go_at_call 178;refine(Gu _ _ _).mono ?_;rw [H1.out];rintro e w' ⟨rfl,rfl⟩);go_quiet (fail);go_wp2;go_ret3;refine⟨_,_,by rw [d.out];rfl,?_,?_,_,rfl⟩
  ·rw [d.out,kH];simp
  ·rw [d.out,kH,BG (by simp)];rfl
theorem MS(s:ByteArray)(c:UInt8)(w:oC)(f:s.size<=xx):
  Jj qh 97 #[.string s,.string ⟨#[c]⟩] w fun e w'=>∃a b:ByteArray,e= .returned (.tuple #[.string a,.string b,.bool (Pl.cutL c s.data.toList).2.isSome])/\
   a.data.toList=(Pl.cutL c s.data.toList).1/\b.data.toList=Pl.behind (Pl.cutL c s.data.toList).2/\∃n,w'=w.drewN n:=by
 obtain⟨x,d⟩:=ai (Pl.cutL c s.data.toList);rw [d.out];go_enter Tryz.func97,Tryz.ntmps97;go_wp2_with (go_at_call 144;refine(YJ _ _ _ f).mono ?_;rw [d.out];rintro e w' ⟨a,b,rfl,ha,g,n,rfl⟩);go_ret3;exact⟨a,b,rfl,ha,g,n,rfl⟩
def Pl.rG(c:UInt8)(l:List UInt8):Bool:=l.head?==some c
def Pl.qf(c:UInt8)(l:List UInt8):List UInt8:=if rG c l then l.tail else l
theorem zD(s:ByteArray)(c:UInt8)(w:oC)(d:s.size<=xx):
  Jj qh 180 #[.string s,.string ⟨#[c]⟩] w fun e w'=>∃a:ByteArray,e= .returned (.tuple #[.string a,.bool (rG c s.data.toList)])/\
   a.data.toList=qf c s.data.toList/\w'=w:=by
 unfold xx at d;by_cases h:rG c s.data.toList=true
 ·have b:1<=s.size:=by
   rw [<-bT];unfold rG at h
   cases hl:s.data.toList<;>simp [hl]at h⊢
  have f:((s.extract 0 1).toList== [c])=true:=by
   rw [BD,kH];unfold rG at h
   cases hl:s.data.toList<;>simp [hl]at h⊢
   exact h
  have H:=ae h;clear h;go_enter Tryz.func180,Tryz.ntmps180;go_wp2;go_ret2;refine⟨_,by rw [H.out];rfl,?_,rfl⟩;rw [kH];unfold qf;rw [H.out,BG (by simp)];simp
 ·have H:Eb (rG c s.data.toList=false):=ae (by simpa using h);clear h;rcases GM s.size 1 with b|b
  ·go_enter Tryz.func180,Tryz.ntmps180;go_wp2;go_ret2;exact⟨s,by rw [H.out];rfl,by unfold qf;rw [H.out];rfl,rfl⟩
  ·have f:((s.extract 0 1).toList== [c])=false:=by
    rw [BD,kH];have h:=H.out;unfold rG at h;rw [<-bT]at b
    cases hl:s.data.toList<;>simp [hl]at h b⊢
    exact h
   go_enter Tryz.func180,Tryz.ntmps180;go_wp2;go_ret2;exact⟨s,by rw [H.out];rfl,by unfold qf;rw [H.out];rfl,rfl⟩
theorem Pl.Nk(s:ByteArray)(k:Nat)(h:k<s.size):Pl.val (s.data.toList.take (k+1))=10*Pl.val (s.data.toList.take k)+((s[k].toNat:Int)-48):=by
 rw [xP s k h,Nl]
theorem Pl.O0(s:ByteArray)(k:Nat)(h:k<s.size):LU (s.data.toList.take (k+1))=(LU (s.data.toList.take k)&&Pl.dg s[k]):=by
 rw [xP s k h,O1]
theorem Pl.LQ(s:ByteArray)(k:Nat)(h:k<s.size)(a:Pl.dg s[k]=false):LU s.data.toList=false:=
 Wj (l:=s.data.toList) (k:=k) (by simpa using h) a
theorem Pl.Js{l:List UInt8}(h:l.length<=6)(k:LU l=true):0<=Pl.val l/\Pl.val l<1000000:=by
 obtain⟨a,c⟩:=zG _ l rfl k;refine⟨a,?_⟩;have b:(10:Int)^l.length<=10^6:=by
  have:l.length=0\/l.length=1\/l.length=2\/l.length=3\/l.length=4\/l.length=5\/l.length=6:=by omega
  rcases this with h|h|h|h|h|h|h<;>rw [h]<;>decide
 omega
theorem Pl.GZ(s:ByteArray)(h:0<s.size):s.data.toList.head?=some s[0]:=by
 rw [List.head?_eq_getElem?,Iy (by simpa using h)];rfl
theorem Fz(s:ByteArray):s.data.toList.take s.size=s.data.toList:=BG (by simp)
theorem wM(s:ByteArray)(w:oC)(H:s.size<=xx):
  Jj qh 145 #[.string s] w fun e w'=>∃x:Int,e= .returned (.tuple #[.int .i64 x,.bool (mJ s.data.toList).isSome])/\
   (∀n,mJ s.data.toList=some n->x=n)/\w'=w:=by
 unfold xx at H;rcases GM s.size 1 with h0|h0
 ·have b:=ae (yh (l:=s.data.toList) (by rw [bT];omega));have he:s.toList= []:=by rw [BD];exact List.length_eq_zero_iff.1 (by rw [bT];omega)
  go_enter Tryz.func145,Tryz.ntmps145;go_wp2;go_ret2;exact⟨0,by rw [b.out];rfl,by rw [b.out];simp,rfl⟩
 have he:(s.toList== [])=false:=by
  rw [BD]
  cases hl:s.data.toList
  ·have:=bT s;rw [hl]at this;simp at this;omega
  ·rfl
 rcases GM 6 s.size with L|L
 ·have b:=ae (yh (l:=s.data.toList) (by rw [bT];omega));go_enter Tryz.func145,Tryz.ntmps145;go_wp2;go_ret2;exact⟨0,by rw [b.out];rfl,by rw [b.out];simp,rfl⟩
 have q:=ae (GZ s h0);by_cases g:(s[0].toNat:Int)=48/\1<s.size
 ·obtain⟨D,C⟩:=g;have b:Eb (mJ s.data.toList=none):=ae (JM (by rw [q.out];congr 1;apply UInt8.toNat_inj.1;show _=48;omega) (by rw [bT];omega));have N:(s.toList== [48])=false:=by
   rw [BD];rw [beq_eq_false_iff_ne];intro e;have:=bT s;rw [e]at this;simp at this;omega
  go_enter Tryz.func145,Tryz.ntmps145;go_wp2;go_ret2;exact⟨0,by rw [b.out];rfl,by rw [b.out];simp,rfl⟩
 ·have M:Eb (¬(s.data.toList.head?=some 48/\1<s.data.toList.length)):=by
   refine ae ?_;rw [q.out,bT];rintro⟨e,k⟩;simp at e;exact g ⟨by rw [e];rfl,k⟩
  have o:((s[0].toNat:Int)=48/\(s.toList== [48])=true)\/((s[0].toNat:Int)==48)=false:=by
   by_cases e:(s[0].toNat:Int)=48
   ·left;refine⟨e,?_⟩;have m:s.size=1:=by
     rcases GM 1 s.size with h|h
     ·exact absurd ⟨e,h⟩ g
     ·omega
    rw [BD,beq_iff_eq];have r:=q.out;have A:=bT s;rw [m]at A;match hl:s.data.toList,A with
    | [x],_=>
     rw [hl]at r;simp at r;rw [r];congr 1
     apply UInt8.toNat_inj.1;show _=48;omega
   ·right;simpa using e
  clear g;rcases o with⟨p,I⟩|p
  all_goals
   go_enter Tryz.func145,Tryz.ntmps145;go_wp2;go_loop [4,24] (fun n i=>∃(k:Nat) (v:Int),k<=s.size/\i= .int .i64 k/\n= .int .i64 v/\Eb (v=Pl.val (s.data.toList.take k))/\Eb (LU (s.data.toList.take k)=true)/\0<=v/\v<1000000) (fun _ i=>s.size-(OI i).toNat)
   case atStart=>exact⟨0,0,OO _,rfl,rfl,rfl,rfl,by omega,by omega⟩
   case round=>
    obtain⟨k,v,O,rfl,rfl,u,z,G,F⟩:=hrel;by_cases a:k<s.size
    ·have J:=o8 s[k];by_cases a1:(s[k].toNat:Int)<48
     ·have f:Eb (mJ s.data.toList=none):=ae (Gj (LQ s k a (by unfold Pl.dg;rw [Fb (by omega)])));go_wp2;go_ret2;exact⟨0,by rw [f.out];rfl,by rw [f.out];simp,rfl⟩
     ·by_cases a2:57<(s[k].toNat:Int)
      ·have f:Eb (mJ s.data.toList=none):=ae (Gj (LQ s k a (by unfold Pl.dg;rw [Fb (by omega)])));go_wp2;go_ret2;exact⟨0,by rw [f.out];rfl,by rw [f.out];simp,rfl⟩
      ·have j:Eb (Pl.val (s.data.toList.take (k+1))=10*v+((s[k].toNat:Int)-48)/\LU (s.data.toList.take (k+1))=true):=by
        refine ae ⟨?_,?_⟩
        ·rw [Nk s k a,u.out]
        ·rw [O0 s k a,z.out];unfold Pl.dg;rw [zx (by omega)];rfl
       have K:=Js (l:=s.data.toList.take (k+1)) (by simp;omega) j.out.2;rw [j.out.1]at K;have E:IntKind.u8.wrap ((s[k].toNat:Int)-48)=(s[k].toNat:Int)-48:=by
        simp [IntKind.wrap,aae,aai];omega
       go_wp2;go_round
       case rel=>exact⟨k+1,10*v+((s[k].toNat:Int)-48),by omega,by go_num,by go_num,ae j.out.1.symm,j.out.2,by omega,by omega⟩
       case measure=>simp [OI];omega
    ·obtain rfl:k=s.size:=by omega
     have B:=ae (Fz s);have t:Eb (v=Pl.val s.data.toList):=by rw [B.out]at u;exact u
     have y:Eb (LU s.data.toList=true):=by rw [B.out]at z;exact z
     by_cases c:v<=100000
     ·have d:=ae (JO (l:=s.data.toList) (by rw [bT];omega) (by rw [bT];omega) M.out y.out (by rw [<-t.out];exact c));go_wp2;go_ret2;exact⟨v,by rw [d.out];simp,by rw [d.out,<-t.out];simp,rfl⟩
     ·have d:=ae (Gi (l:=s.data.toList) (by rw [<-t.out];exact c));go_wp2;go_ret2;exact⟨v,by rw [d.out];simp,by rw [d.out];simp,rfl⟩
def Pl.IV(l:List UInt8):Int:=(mJ l).getD (-1)
theorem JL(s:ByteArray)(w:oC)(B:s.size<=xx):
  Jj qh 221 #[.string s] w fun e w'=>e= .returned (.int .i64 (IV s.data.toList))/\w'=w:=by
 unfold xx at B;rcases GM s.size 1 with h0|h0
 ·have c:=ae (yh (l:=s.data.toList) (by rw [bT];omega));go_enter Tryz.func221,Tryz.ntmps221;go_wp2_with (go_at_call 73;refine(UL _ _ _ _ (by omega)).mono ?_;rintro e w' ⟨rfl,rfl⟩);go_ret;exact⟨aF (by unfold IV;rw [c.out];rfl),rfl⟩
 rcases GM 6 s.size with F|F
 ·have c:=ae (yh (l:=s.data.toList) (by rw [bT];omega));go_enter Tryz.func221,Tryz.ntmps221;go_wp2_with (go_at_call 73;refine(UL _ _ _ _ (by omega)).mono ?_;rintro e w' ⟨rfl,rfl⟩);go_ret;exact⟨aF (by unfold IV;rw [c.out];rfl),rfl⟩
 have t:=ae (GZ s h0);by_cases d:(s[0].toNat:Int)=48/\1<s.size
 ·obtain⟨y,x⟩:=d;have c:Eb (mJ s.data.toList=none):=ae (JM (by rw [t.out];congr 1;apply UInt8.toNat_inj.1;show _=48;omega) (by rw [bT];omega));go_enter Tryz.func221,Tryz.ntmps221;go_wp2_with (go_at_call 73;refine(kW _ _ _ _ (by omega)).mono ?_;rintro e w' ⟨rfl,rfl⟩);go_ret;exact⟨aF (by unfold IV;rw [c.out];rfl),rfl⟩
 ·have G:Eb (¬(s.data.toList.head?=some 48/\1<s.data.toList.length)):=by
   refine ae ?_;rw [t.out,bT];rintro⟨e,k⟩;simp at e;exact d ⟨by rw [e];rfl,k⟩
  have g:(1<s.size/\((s[0].toNat:Int)==48)=false)\/s.size<=1:=by
   by_cases e:(s[0].toNat:Int)=48
   ·right;rcases GM 1 s.size with h|h
    ·exact absurd ⟨e,h⟩ d
    ·omega
   ·rcases GM 1 s.size with h|h
    ·left;exact⟨h,by simpa using e⟩
    ·right;omega
  clear d;rcases g with⟨j,C⟩|j
  all_goals
   go_enter Tryz.func221,Tryz.ntmps221;go_wp2_with (go_at_call 73;refine(kW _ _ _ _ (by omega)).mono ?_;rintro e w' ⟨rfl,rfl⟩);go_loop [3,4] (fun n i=>∃(k:Nat) (v:Int),k<=s.size/\i= .int .i64 k/\n= .int .i64 v/\Eb (v=Pl.val (s.data.toList.take k))/\Eb (LU (s.data.toList.take k)=true)/\0<=v/\v<1000000) (fun _ i=>s.size-(OI i).toNat)
   case atStart=>exact⟨0,0,OO _,rfl,rfl,rfl,rfl,by omega,by omega⟩
   case round=>
    obtain⟨k,v,I,rfl,rfl,o,r,A,z⟩:=hrel;by_cases a:k<s.size
    ·have D:=o8 s[k];by_cases a1:48<=(s[k].toNat:Int)/\(s[k].toNat:Int)<=57
     ·have f:Eb (Pl.val (s.data.toList.take (k+1))=10*v+((s[k].toNat:Int)-48)/\LU (s.data.toList.take (k+1))=true):=by
       refine ae ⟨?_,?_⟩
       ·rw [Nk s k a,o.out]
       ·rw [O0 s k a,r.out];unfold Pl.dg;rw [zx (by omega)];rfl
      have E:=Js (l:=s.data.toList.take (k+1)) (by simp;omega) f.out.2;rw [f.out.1]at E;obtain⟨a1,a2⟩:=a1;go_wp2_with (go_at_call 73;refine(kW _ _ _ _ (by omega)).mono ?_;rintro e w' ⟨rfl,rfl⟩);go_round
      case rel=>exact⟨k+1,10*v+((s[k].toNat:Int)-48),by omega,by go_num,by go_num,ae f.out.1.symm,f.out.2,by omega,by omega⟩
      case measure=>simp [OI];omega
     ·have H:Eb (mJ s.data.toList=none):=ae (Gj (LQ s k a (by unfold Pl.dg;rw [Fb a1])));go_wp2_with (go_at_call 73;refine(UL _ _ _ _ (by omega)).mono ?_;rintro e w' ⟨rfl,rfl⟩);go_ret;exact⟨aF (by unfold IV;rw [H.out];rfl),rfl⟩
    ·obtain rfl:k=s.size:=by omega
     have u:=ae (Fz s);have m:Eb (v=Pl.val s.data.toList):=by rw [u.out]at o;exact o
     have q:Eb (LU s.data.toList=true):=by rw [u.out]at r;exact r
     by_cases b:v<=100000
     ·have p:=ae (JO (l:=s.data.toList) (by rw [bT];omega) (by rw [bT];omega) G.out q.out (by rw [<-m.out];exact b));go_wp2;go_ret;exact⟨aF (by unfold IV;rw [p.out,<-m.out];rfl),rfl⟩
     ·have p:=ae (Gi (l:=s.data.toList) (by rw [<-m.out];exact b));go_wp2;go_ret;exact⟨aF (by unfold IV;rw [p.out];rfl),rfl⟩
theorem Pl.BO{m:UInt8}{s a b:ByteArray}(ha:a.data.toList=(Pl.cutL m s.data.toList).1)(c:b.data.toList=Pl.behind (Pl.cutL m s.data.toList).2):a.size<=s.size/\b.size<=s.size:=by
 rw [<-bT a,<-bT b,<-bT s,ha,c];obtain⟨e,d⟩:=uq m s.data.toList;refine⟨e,?_⟩
 cases h:(Pl.cutL m s.data.toList).2
 ·simp [Pl.behind]
 ·have:=d _ h;simp only [Pl.behind,Xh];omega
theorem A7(s:ByteArray)(m:UInt8)(w:oC)(o:s.size<=xx):
  Jj qh 98 #[.string s,.string ⟨#[m]⟩] w fun e w'=>∃x y:Int,e= .returned (.tuple #[.agg #[.int .i64 x,.int .i64 y],.bool (Pl.pairL m s.data.toList).isSome])/\
   (∀p,Pl.pairL m s.data.toList=some p->(x,y)=p)/\xk w.heap.size w w':=by
 have i:=ae o;clear o;obtain⟨g,A⟩:=ai (mJ (Pl.cutL m s.data.toList).1);obtain⟨nb,z⟩:=ai (mJ (Pl.behind (Pl.cutL m s.data.toList).2));obtain⟨f,t⟩:=ai (Pl.pairL m s.data.toList);have u:Eb (∀x y:Int,(∀n,g=some n->x=n)->(∀n,nb=some n->y=n)->(g.isSome&&nb.isSome)=f.isSome/\(∀p,f=some p->(x,y)=p)):=by
  refine ae fun x y d c=> ?_;have hp:=t.out;unfold Pl.pairL at hp;rw [A.out,z.out]at hp
  cases g<;>cases nb<;>simp at hp d c<;>subst hp<;>simp [d,c]
 rw [t.out];go_enter Tryz.func98,Tryz.ntmps98;go_wp2_with (go_at_call 97;refine(MS _ _ _ i.out).mono ?_;rintro e C ⟨a,b,rfl,ha,h,n,rfl⟩);have l:=ae (BO ha h);have k:=ae ha;have j:=ae h;clear ha h;refine(wM a _ (GX l.out.1 i.out)).mono ?_;rw [k.out,A.out];rintro e B ⟨x,rfl,d,rfl⟩;have r:=ae d;clear d;go_wp2_with (go_at_call 145;refine(wM b _ (GX l.out.2 i.out)).mono ?_;rw [j.out,z.out];rintro e w3 ⟨y,rfl,c,rfl⟩;have q:=ae c;clear c)
 all_goals
  refine xh (v:= .tuple #[.agg #[.int .i64 x,.int .i64 y],.bool f.isSome]) (by rw [<-(u.out x y r.out q.out).1];simp_all [results,Tryz.results98,go_sem]) rfl ⟨x,y,rfl,(u.out x y r.out q.out).2,((aO ((qL _ _).alloc (oP _) _) n).setCell (oP _) _).setCell (oP _) _⟩
theorem uM(s:ByteArray)(m:UInt8)(w:oC)(I:s.size<=xx):
  Jj qh 198 #[.string s,.int .u8 (m.toNat:Int)] w fun e w'=>∃x y:Int,e= .returned (.tuple #[.int .i64 x,.int .i64 y,.bool (Pl.pairL m s.data.toList).isSome])/\
   (∀p,Pl.pairL m s.data.toList=some p->(x,y)=p)/\w'=w:=by
 have K:=ae I;unfold xx at I;obtain⟨v,C⟩:=ai (Pl.pairL m s.data.toList);rw [C.out];go_enter Tryz.func198,Tryz.ntmps198;go_wp2;go_loop [7] (fun i=>∃k:Nat,k<=s.size/\i= .int .i64 k/\Eb (m∉s.data.toList.take k)) (fun i=>s.size-(OI i).toNat)
 case atStart=>exact⟨0,OO _,rfl,ae (by simp)⟩
 case round=>
  obtain⟨k,M,rfl,D⟩:=hrel;by_cases d:k<s.size
  ·by_cases he:(s[k].toNat:Int)=(m.toNat:Int)
   ·have B:s[k]=m:=by apply UInt8.toNat_inj.1;omega
    have c:Eb (Pl.cutL m s.data.toList=(s.data.toList.take k,some (s.data.toList.drop (k+1)))):=ae (DW (by rw [bT];exact d) (by rw [Iy (by rw [bT];exact d)];rw [<-B];rfl) D.out);have J:Eb ((s.extract 0 k).data.toList=(Pl.cutL m s.data.toList).1):=ae (by rw [kH,c.out];simp);have o:Eb ((s.extract (k+1) s.size).data.toList=Pl.behind (Pl.cutL m s.data.toList).2):=ae (by rw [kH,c.out,BG (by simp)];rfl);have H:=ae (BO J.out o.out);obtain⟨L,G⟩:=ai (mJ (Pl.cutL m s.data.toList).1);obtain⟨nb,F⟩:=ai (mJ (Pl.behind (Pl.cutL m s.data.toList).2));obtain⟨f,j⟩:=ai (IV (Pl.cutL m s.data.toList).1);obtain⟨z,g⟩:=ai (IV (Pl.behind (Pl.cutL m s.data.toList).2));have E:Eb ((decide (0<=f)&&decide (0<=z))=v.isSome/\(∀p,v=some p->(f,z)=p)):=by
     refine ae ?_;have hp:=C.out;unfold Pl.pairL at hp;rw [G.out,F.out]at hp;have r:=j.out;have q:=g.out;unfold IV at r q;rw [G.out]at r;rw [F.out]at q;have u:=fun n=>mG (l:=(Pl.cutL m s.data.toList).1) (n:=n);have t:=fun n=>mG (l:=Pl.behind (Pl.cutL m s.data.toList).2) (n:=n);rw [G.out]at u;rw [F.out]at t
     cases L<;>cases nb<;>simp at hp r q u t<;>subst hp<;>subst r<;>subst q<;>simp [u,t]
    by_cases p1:0<=f
    all_goals
     go_wp2_with fail;refine(JL (s.extract 0 k) _ (GX H.out.1 K.out)).mono ?_;rw [J.out,j.out];rintro e w' ⟨rfl,rfl⟩;go_wp2_with fail;refine(JL (s.extract (k+1) s.size) _ (GX H.out.2 K.out)).mono ?_;rw [o.out,g.out];rintro e w' ⟨rfl,rfl⟩;go_wp2_with fail;go_ret3;exact⟨f,z,by rw [<-E.out.1];first|(rw [zx (p:=0<=f) (by omega)];rfl)|(rw [Fb (p:=0<=f) (by omega)];rfl),by first|exact E.out.2|(intro a b h;have:=E.out.2 _ h;simpa using this),rfl⟩
   ·have A:s[k]≠m:=by rintro rfl;exact he rfl
    go_wp2;go_round
    case rel=>exact⟨k+1,by omega,by go_num,ae (by rw [xP s k d];simp only [Tq,X6,not_or];exact⟨D.out,fun e=>A e.symm⟩)⟩
    case measure=>simp [OI];omega
  ·obtain rfl:k=s.size:=by omega
   have c:Eb (v=none):=by
    refine ae ?_;have h:=D.out;rw [Fz]at h;rw [<-C.out,NZ];rw [yD h];rfl
   go_wp2;go_ret3;exact⟨0,0,by rw [c.out];rfl,by rw [c.out];simp,rfl⟩
def mz:rU->rU->Nat
 | .string t,.bool true=>t.size+1
 |_,_=>0
theorem YU:(Tryz.prog.info? 118).map (fun i=>(i.zero,i.size,i.bytes))=some (some (.agg #[.int .i64 0,.int .i64 0]),2,16):=by kernel_rfl
theorem U2(s:ByteArray)(h:0<s.size):(s.toList== [])=false:=by
 rw [BD]
 cases hl:s.data.toList
 ·have:=bT s;rw [hl]at this;simp at this;omega
 ·rfl
theorem ny(s:ByteArray)(m:UInt8)(w:oC)(hs:s.size<=4398046511104):
  Jj qh 59 #[.string s,.string ⟨#[m]⟩] w fun e w'=>∃vl:rU,e= .returned (.tuple #[vl,.bool (iP m s.data.toList).isSome])/\
   aU 118 w' w.heap.size vl ((iP m s.data.toList).getD [])/\xk w.heap.size w w':=by
 obtain⟨j,M⟩:=ai (iP m s.data.toList);rw [M.out];rcases OG s.size with h0|h0
 ·have he:s.toList= []:=by rw [BD];exact List.length_eq_zero_iff.1 (by rw [bT];omega)
  have F:Eb (j=some []):=ae (by rw [<-M.out];unfold iP;rw [af (List.length_eq_zero_iff.1 (by rw [bT];omega))]);go_enter Tryz.func59,Tryz.ntmps59;go_wp2;go_ret2;exact⟨_,by rw [F.out];rfl,by rw [F.out];exact aU.nil _ _ _,qL _ _⟩
 ·have he:=U2 s h0;have F:Eb (j=Pl.andThen [] (Pl.pairsP m (Pl.parts s.data.toList))):=by
   refine ae ?_;rw [<-M.out];unfold iP;rw [ag (by intro h;have:=bT s;rw [h]at this;simp at this;omega)]
   cases Pl.pairsP m (Pl.parts s.data.toList)<;>simp [Pl.andThen]
  go_enter Tryz.func59,Tryz.ntmps59;go_wp2;go_loopw [0,6,7] (fun H vl I wr=>∃(t:ByteArray) (acc:List (Int×Int)) (b:Bool) (Q:rU),Q=vl/\H= .string t/\I= .bool b/\Eb (aU 118 wr w.heap.size Q acc)/\acc.length+t.size<=s.size+1/\t.size<=s.size/\(b=true->acc.length+t.size<=s.size)/\Eb (b=true->j=Pl.andThen acc (Pl.pairsP m (Pl.parts t.data.toList)))/\Eb (b=false->j=some acc)/\xk w.heap.size w wr) (fun H _ I _=>mz H I)
  case atStart=>exact⟨s,[],true,_,rfl,rfl,rfl,ae (aU.nil _ _ _),by simp,oP _,by simp,ae (fun _=>F.out),ae (by simp),qL _ _⟩
  case round=>
   obtain⟨t,acc,b,vl,rfl,rfl,rfl,U,aa,Z,k,L,N,C⟩:=hrel
   cases b
   ·have D:=ae (N.out rfl);clear N L k;go_wp2;go_ret2;exact⟨vl,by rw [D.out];rfl,by rw [D.out];exact U.out,C⟩
   ·have ad:=k rfl;clear k;obtain⟨cu,c⟩:=ai (Pl.cutL 44 t.data.toList);obtain⟨c1,c2⟩:=cu;obtain⟨q,v⟩:=ai (Pl.pairL m c1);have E:Eb (t.size<=xx):=ae (by unfold xx;omega);have K:=ae (L.out rfl);clear L N
    cases q with
    |none=>
     have T:Eb (j=none):=by
      refine ae ?_;rw [K.out]
      cases c2 with
      |none=>rw [zO (by rw [c.out]),c.out,rD v.out];rfl
      |some r=>rw [zN (r:=r) (by rw [c.out]),c.out,rD v.out];rfl
     go_wp2_with fail;refine(MS t 44 _ E.out).mono ?_;rw [c.out];rintro e X ⟨a,d,rfl,ha,u,n,rfl⟩;have P:=ae ha;have G:=ae (BO (m:=44) (s:=t) (a:=a) (b:=d) (by rw [c.out];exact ha) (by rw [c.out];exact u));clear ha u;go_wp2_with fail;refine(A7 a m _ (GX G.out.1 E.out)).mono ?_;rw [P.out,v.out];rintro e z ⟨x,y,rfl,_,f⟩;go_wp2_with fail;go_ret2;exact⟨_,by rw [T.out];rfl,by rw [T.out];exact aU.nil _ _ _,by have g:=(aO C n).trans (f.mono C.size);exact g.alloc (g.size) _⟩
    |some p=>
     go_wp2_with fail;refine(MS t 44 _ E.out).mono ?_;rw [c.out];rintro e X ⟨a,d,rfl,ha,u,n,rfl⟩;have P:=ae ha;have O:=ae u;have G:=ae (BO (m:=44) (s:=t) (a:=a) (b:=d) (by rw [c.out];exact ha) (by rw [c.out];exact u));clear ha u;go_wp2_with fail;refine(A7 a m _ (GX G.out.1 E.out)).mono ?_;rw [P.out,v.out];rintro e z ⟨x,y,rfl,A,f⟩;obtain rfl:=A p rfl;clear A;have g:xk w.heap.size w z:=(aO C n).trans (f.mono C.size);have l:xk w.heap.size w (z.alloc (.cells #[.int .i64 x,.int .i64 y] 118)):=g.alloc g.size _;have i:xk wr.heap.size wr (z.alloc (.cells #[.int .i64 x,.int .i64 y] 118)):=((aO (qL _ _) n).trans f).alloc f.size _;have Y:=ae (U.out.below i);have V:=l.size;have PR:=ae l;clear i f l
     go_wp2_with (at_builtin;refine dM Tryz.underlying114 YU rfl (.tmp 28) (.tmp 30) rfl w.heap.size vl acc (x,y) rfl Y.out V (by show aat (some ⟨z.heap.size+1,0,none⟩) 1 1=_;simp) (by omega) ?_;intro v5 W S i _;have R:=ae S;clear S);have B:xk w.heap.size w W:=PR.out.trans (i.mono (oP _))
     cases c2 with
     |none=>
      have o:Eb (j=some (acc++ [(x,y)])):=by
       refine ae ?_;rw [K.out,zO (by rw [c.out]),c.out,rC v.out];simp [Pl.pairsP,Pl.andThen]
      have J:d.size=0:=by rw [<-bT,O.out];rfl
      go_roundw
      case rel=>exact⟨d,acc++ [(x,y)],false,_,rfl,rfl,rfl,R,by simp;omega,by omega,by simp,ae (by simp),ae (fun _=>o.out),B⟩
      case measure=>simp [mz]
     |some r=>
      have o:Eb (j=Pl.andThen (acc++ [(x,y)]) (Pl.pairsP m (Pl.parts d.data.toList))):=by
       refine ae ?_;rw [K.out,zN (r:=r) (by rw [c.out]),c.out,rC v.out,O.out];rfl
      have J:d.size+1<=t.size:=by
       have h:=(uq 44 t.data.toList).2 r (by rw [c.out]);rw [<-bT d,O.out,<-bT t];show r.length+1<=_;omega
      go_roundw
      case rel=>exact⟨d,acc++ [(x,y)],true,_,rfl,rfl,rfl,R,by simp;omega,by omega,by simp;omega,ae (fun _=>o.out),ae (by simp),B⟩
      case measure=>simp [mz];omega
def nZ(w:oC)(base:Nat)(v:rU)(ks:List ByteArray):Prop:=w.ownsRow base 9 1 v ks.length (ks.map SN)
theorem OC:(Tryz.prog.info? 9).map (fun i=>(i.zero,i.size,i.bytes))=some (some (.string ⟨#[]⟩),1,16):=by kernel_rfl
theorem nZ.below{w w':oC}{base:Nat}{v:rU}{a:List ByteArray}(h:nZ w base v a)(k:xk w.heap.size w w'):nZ w' base v a:=iI h k
theorem nZ.nil(w:oC)(base:Nat):nZ w base (.slice none 0 0) []:=Ah _ _ _ _
theorem nZ.shape{w:oC}{base:Nat}{v:rU}{c:List ByteArray}(h:nZ w base v c):
  ∃a cap,v= .slice a c.length cap/\c.length<=cap/\cap<=xx/\(c= []\/∃b,a=some ⟨b,0,none⟩/\base<=b/\b<w.heap.size/\∀(i:Nat) (k:i<c.length),w.cell? ⟨b,0+i,none⟩=some (.string c[i])):=by
 obtain⟨_,h|⟨g,cap,cur,rfl,m,hh,e,hm,n,l⟩⟩:=h
 ·obtain⟨rfl,e⟩:=h;have j:c= []:=List.length_eq_zero_iff.1 e;subst j;exact⟨none,0,rfl,oP _,by simp,.inl rfl⟩
 ·refine⟨some ⟨g,0,none⟩,cap,rfl,e,hm,.inr ⟨g,rfl,m,aG hh,?_⟩⟩;intro i k;have d:(List.take (c.length*1) cur.toList)[i]? =some (.string c[i]):=by
   rw [l];simp [k]
  have f:cur[i]? =some (.string c[i]):=by
   rw [Rz]at d;split at d
   ·rw [<-Rq];exact d
   ·cases d
  simp [IA,hh,f]
theorem EH{w:oC}{ops:Array Oper}{rest:List Oper}{o:Oper}{a:Act}{Q:Exit->Act->oC->Prop}(q:o.guard=none)(s x:Wq)
  (y:o.op= .call {callee:= .builtin .append,args:=#[s,x],argTypes:=#[38,38]})
  (base:Nat)(v:rU)(e:List ByteArray)(key:ByteArray)(t:a.eval s=v)(b:nZ w base v e)(d:base<=w.heap.size)(r:a.eval x= .slice (some ⟨w.heap.size,0,none⟩) 1 1)(B:(e.length+1)*16<=140737488355328)
  (h:∀f w',nZ w' base f (e++ [key])->xk base w w'->wpList qh ops Q rest (a.put o.dst f) w'):
  wpList qh ops Q (o::rest) a (w.alloc (.cells #[.string key] 9)):=by
 obtain⟨i0,p,m,l,i⟩:=partsOf OC;refine MJ (w:=_) q s x 38 y base 9 i0 _ 1 16 Z5 p m l i rfl (by decide) _ e.length (e.map SN) t (Pe b _) ⟨w.heap.size,0,none⟩ 1 1 [.string key] r rfl ?_ ?_ (by unfold xx;omega) B (by simp;omega) ?_
 ·intro j u g;match j,g with
  |0,g=>simp at g;subst g;rw [bD];simp
 ·intro u hu;simp at hu;subst hu;rfl
 ·intro f w' c A _;have n:=Ru b;refine h f w' ?_ (((qL _ _).alloc d _).grown A (by simp;omega) (fun k z=>(n k z).1));unfold nZ;simpa using c
def Pl.lists(ks:List ByteArray):List (List UInt8):=ks.map fun b=>b.data.toList
def Pl.BN(l:List UInt8):List (List UInt8):=if l= []then []else Pl.parts l
theorem Pl.QM{l:List UInt8}(h:(44:UInt8)∉l):Pl.parts l= [l]:=by
 rw [zO (by rw [yD h]),yD h]
theorem Pl.Yk{l:List UInt8}{i:Nat}(a:i<l.length)(h:l[i]? =some 44)(k:(44:UInt8)∉l.take i):Pl.parts l=l.take i::Pl.parts (l.drop (i+1)):=by
 have e:=DW a h k;rw [zN (r:=l.drop (i+1)) (by rw [e]),e]
theorem O5(s:ByteArray)(w:oC)(J:s.size<=4398046511104):
  Jj qh 197 #[.string s] w fun e w'=>∃(vl:rU) (a:List ByteArray),e= .returned vl/\nZ w' w.heap.size vl a/\Pl.lists a=BN s.data.toList/\(∀x∈a,x.size<=s.size)/\a.length<=s.size+1/\xk w.heap.size w w':=by
 rcases OG s.size with h0|h0
 ·have A:Eb (BN s.data.toList= []):=ae (by unfold BN;rw [af (List.length_eq_zero_iff.1 (by rw [bT];omega))]);go_enter Tryz.func197,Tryz.ntmps197;go_wp2;go_loopw [3,5] (fun o i wr=>o= .slice none 0 0/\i= .int .i64 0/\wr=w) (fun _ _ _=>0)
  case atStart=>exact⟨rfl,rfl,rfl⟩
  case round=>
   obtain⟨rfl,rfl,rfl⟩:=hrel;go_wp2;go_ret;exact⟨_,[],rfl,nZ.nil _ _,by rw [A.out];rfl,by simp,by simp,qL _ _⟩
 ·have A:Eb (BN s.data.toList=Pl.parts s.data.toList):=by
   refine ae ?_;unfold BN;rw [ag (by intro h;have:=bT s;rw [h]at this;simp at this;omega)]
  go_enter Tryz.func197,Tryz.ntmps197;go_wp2;go_loopw [3,4,5] (fun o f i wr=>∃(k g:Nat) (a:List ByteArray) (F:rU),F=o/\i= .int .i64 k/\f= .int .i64 g/\k<=s.size+1/\g<=k/\Eb (nZ wr w.heap.size F a)/\a.length<=k/\Eb (∀x∈a,x.size<=s.size)/\Eb (k<=s.size->(44:UInt8)∉(s.data.toList.drop g).take (k-g)/\Pl.parts s.data.toList=Pl.lists a++Pl.parts (s.data.toList.drop g))/\Eb (k=s.size+1->Pl.parts s.data.toList=Pl.lists a)/\xk w.heap.size w wr) (fun _ _ i _=>s.size+1-(OI i).toNat)
  case atStart=>exact⟨0,0,[],_,rfl,rfl,rfl,by omega,by omega,ae (nZ.nil _ _),by simp,ae (by simp),ae (fun _=>⟨by simp,by simp [Pl.lists]⟩),ae (by intro h;omega),qL _ _⟩
  case round=>
   obtain⟨k,g,a,o,rfl,rfl,rfl,K,L,u,H,t,E,D,p⟩:=hrel;by_cases hle:k<=s.size
   ·have b:=ae (E.out hle);clear E D;by_cases heq:k=s.size
    ·subst heq;have B:Eb ((s.extract g s.size).data.toList=s.data.toList.drop g):=ae (by rw [kH,BG (by simp)]);have r:Eb (Pl.parts s.data.toList=Pl.lists (a++ [s.extract g s.size])):=by
      refine ae ?_;have h:=b.out.1;rw [BG (by simp)]at h;rw [b.out.2,QM h];unfold Pl.lists;rw [aah,aas,aau,B.out]
     have n:Eb (∀x∈a++ [s.extract g s.size],x.size<=s.size):=by
      refine ae fun x c=> ?_;rcases List.mem_append.1 c with c|c
      ·exact t.out x c
      ·simp at c;subst c;simp
     have j:=p.size;go_wp2_with (at_builtin;refine EH rfl (.tmp 27) (.tmp 32) rfl w.heap.size o a (s.extract g s.size) rfl u.out j rfl (by omega) ?_;intro v5 v q m;have y:=ae q;clear q);have l:xk w.heap.size w v:=p.trans m;go_roundw
     case rel=>exact⟨s.size+1,s.size+1,a++ [s.extract g s.size],_,rfl,by go_num,by go_num,by omega,by omega,y,by simp;omega,n,ae (by intro h;omega),ae (fun _=>r.out),l⟩
     case measure=>simp [OI]
    ·have G:k<s.size:=by omega
     clear heq;by_cases hc:(s[k].toNat:Int)=44
     ·have d:s[k]=44:=by apply UInt8.toNat_inj.1;show _=44;omega
      have B:Eb ((s.extract g k).data.toList=(s.data.toList.drop g).take (k-g)):=ae (by rw [kH]);have r:Eb (Pl.parts s.data.toList=Pl.lists (a++ [s.extract g k])++Pl.parts (s.data.toList.drop (k+1))):=by
       refine ae ?_;rw [b.out.2,Yk (i:=k-g) (by rw [LM,bT];omega) (by rw [List.getElem?_drop,Iy (by rw [bT];omega)];congr 1;rw [<-d];simp only [show g+(k-g)=k by omega];rfl) b.out.1];rw [List.drop_drop,show g+(k-g+1)=k+1 by omega];unfold Pl.lists;rw [aah,aas,aau,B.out,List.append_assoc];rfl
      have n:Eb (∀x∈a++ [s.extract g k],x.size<=s.size):=by
       refine ae fun x c=> ?_;rcases List.mem_append.1 c with c|c
       ·exact t.out x c
       ·simp at c;subst c;simp;omega
      have j:=p.size;go_wp2_with (at_builtin;refine EH rfl (.tmp 27) (.tmp 32) rfl w.heap.size o a (s.extract g k) rfl u.out j rfl (by omega) ?_;intro v5 v q m;have y:=ae q;clear q);have l:xk w.heap.size w v:=p.trans m;go_roundw
      case rel=>exact⟨k+1,k+1,a++ [s.extract g k],_,rfl,by go_num,by go_num,by omega,by omega,y,by simp;omega,n,ae (fun _=>⟨by simp,r.out⟩),ae (by intro h;omega),l⟩
      case measure=>simp [OI];omega
     ·have d:s[k]≠44:=by intro h;rw [h]at hc;exact hc rfl
      have I:Eb ((44:UInt8)∉(s.data.toList.drop g).take (k+1-g)):=by
       refine ae ?_;rw [show k+1-g=(k-g)+1 by omega,SQ (by rw [LM,bT];omega)];simp only [Tq,X6,not_or];refine⟨b.out.1,?_⟩;rw [List.getElem_drop];simp only [show g+(k-g)=k by omega];exact fun e=>d e.symm
      have r:=ae b.out.2;clear b;have M:((s[k].toNat:Int)==44)=false:=by simpa using hc
      clear hc;go_wp2;go_roundw
      case rel=>exact⟨k+1,g,a,_,rfl,by go_num,rfl,by omega,by omega,u,by omega,t,ae (fun _=>⟨I.out,r.out⟩),ae (by intro h;omega),p⟩
      case measure=>simp [OI];omega
   ·have z:k=s.size+1:=by omega
    have C:=ae (D.out z);clear E D;go_wp2;go_ret;exact⟨_,rfl,a,u.out,by rw [A.out,C.out],t.out,by omega,p⟩
theorem pJ(d:Bool)(a:Option Addr)(len cap:Nat)(ps:List (Int×Int))(w:oC)(h:di w a len cap ps):
  Jj qh 181 #[.agg #[.bool d,.slice a len cap]] w fun e w'=>e= .returned (.int .i64 (qU ps))/\xk w.heap.size w w':=by
 obtain⟨hl,hc,hm,I,f⟩:=h;unfold xx at hm;go_enter Tryz.func181,Tryz.ntmps181;go_wp2;go_loopw [8] (fun i wr=>∃k:Nat,k<=len/\i= .int .i64 k/\Eb (qU ps=Pl.adjN ps (len-k) k)/\xk (w.heap.size+1) (w.alloc (.cells #[.bool d,.slice a len cap] 141)) wr) (fun i _=>len-(OI i).toNat)
 case atStart=>exact⟨0,OO _,rfl,by show _=_;rw [<-hl];rfl,qL _ _⟩
 case round=>
  obtain⟨k,O,rfl,r,y⟩:=hrel;obtain⟨N,M,xs,c⟩:=vK y;by_cases J:k<len
  ·obtain⟨b,off,rfl,x,H⟩:∃b off,a=some ⟨b,off,none⟩/\b<w.heap.size/\eP w b off ps:=by
    rcases f with rfl|h
    ·simp at hl;omega
    ·exact h
   clear f;have o:=H.below x c;obtain⟨c0,c1⟩:=o k (by omega);obtain⟨n,C⟩:∃n,len-k=n+1:=⟨len-k-1,by omega⟩
   have q:Eb (len-k=n+1):=C;clear C;have K:b<wr.heap.size:=by omega
   obtain⟨u,t⟩:=ai ((Pl.pr ps k).1);obtain⟨l,D⟩:=ai ((Pl.pr ps k).2);rw [t.out]at c0;rw [D.out]at c1;obtain⟨s,p⟩:=ai (decide (0<=u/\u<=11));have E:Eb (lJ (Pl.pr ps k).1 (Pl.pr ps k).2=(s&&decide (1<=l/\l<=1000))):=by
    show _=_;unfold lJ;rw [t.out,D.out,p.out]
   by_cases v:s=true/\1<=l/\l<=1000
   ·obtain⟨rfl,A,z⟩:=v;have B:Eb (lJ (Pl.pr ps k).1 (Pl.pr ps k).2=true):=by show _=_;rw [E.out];simp [A,z]
    rcases OG k with g|g
    ·have P:decide (0<k)=false:=by simp;omega
     have F:Eb (k=0):=g;clear g;go_wp2_with (go_at_call 72;refine(aZ _ _).mono ?_;rw [p.out];rintro e w' ⟨rfl,rfl⟩);go_quiet (fail);go_wp2;go_roundw
     case rel=>exact⟨k+1,by omega,by go_num,by show _=_;have h:=q.out;rw [r.out,h];have hm:=B.out;rw [F.out]at hm⊢;rw [Ij hm];congr 1;have h0:=F.out;omega,aO (y.alloc (by omega) _) _⟩
     case measure=>simp [OI];omega
    ·obtain⟨m,rfl⟩:∃m,k=m+1:=⟨k-1,by omega⟩
     obtain⟨d0,d1⟩:=o m (by omega);obtain⟨G,j⟩:=ai ((Pl.pr ps m).1);rw [j.out]at d0;by_cases hle:u<=G
     ·go_wp2_with (go_at_call 72;refine(aZ _ _).mono ?_;rw [p.out];rintro e w' ⟨rfl,rfl⟩);go_quiet (fail);go_wp2;go_ret;exact⟨aF (by rw [r.out,q.out,Pq B.out (by rw [t.out,j.out];omega)]),aO (c.alloc (by omega) _) _⟩
     ·go_wp2_with (go_at_call 72;refine(aZ _ _).mono ?_;rw [p.out];rintro e w' ⟨rfl,rfl⟩);go_quiet (fail);go_wp2;go_roundw
      case rel=>exact⟨m+1+1,by omega,by go_num,by show _=_;rw [r.out,q.out,UH B.out (by rw [t.out,j.out];omega)];congr 1;have:=q.out;omega,aO (y.alloc (by omega) _) _⟩
      case measure=>simp [OI];omega
   ·have L:Eb (qU ps=2):=by
     show _=_;rw [r.out,q.out,Ii];rw [E.out]
     cases s
     ·rfl
     ·simp at v⊢;omega
    cases s
    all_goals rcases aay l 1 with A|A
    all_goals rcases aay 1000 l with z|z
    all_goals first|(exfalso;omega)|skip
    all_goals first|(exfalso;apply v;refine⟨rfl,?_,?_⟩<;>assumption)|skip
    all_goals
     go_wp2_with (go_at_call 72;refine(aZ _ _).mono ?_;rw [p.out];rintro e w' ⟨rfl,rfl⟩);go_ret;exact⟨aF L.out.symm,c.alloc (by omega) _⟩
  ·obtain rfl:k=len:=by omega
   go_wp2;go_ret;exact⟨aF (by rw [r.out];simp [Pl.adjN]),c⟩
theorem pK(d:Bool)(a:Option Addr)(len cap:Nat)(ps:List (Int×Int))(w:oC)(h:di w a len cap ps):
  Jj qh 122 #[.agg #[.bool d,.slice a len cap]] w fun e w'=>e= .returned (.int .i64 (qU ps))/\xk w.heap.size w w':=by
 obtain⟨hl,hc,hm,I,f⟩:=h;unfold xx at hm;go_enter Tryz.func122,Tryz.ntmps122;go_wp2;go_loopw [3] (fun i wr=>∃k:Nat,k<=len/\i= .int .i64 k/\Eb (qU ps=Pl.adjN ps (len-k) k)/\xk (w.heap.size+1) (w.alloc (.cells #[.bool d,.slice a len cap] 141)) wr) (fun i _=>len-(OI i).toNat)
 case atStart=>exact⟨0,OO _,rfl,by show _=_;rw [<-hl];rfl,qL _ _⟩
 case round=>
  obtain⟨k,O,rfl,q,y⟩:=hrel;obtain⟨N,M,xs,c⟩:=vK y;by_cases J:k<len
  ·obtain⟨b,off,rfl,x,H⟩:∃b off,a=some ⟨b,off,none⟩/\b<w.heap.size/\eP w b off ps:=by
    rcases f with rfl|h
    ·simp at hl;omega
    ·exact h
   clear f;have l:=H.below x c;obtain⟨c0,c1⟩:=l k (by omega);obtain⟨n,C⟩:∃n,len-k=n+1:=⟨len-k-1,by omega⟩
   have p:Eb (len-k=n+1):=C;clear C;have K:b<wr.heap.size:=by omega
   obtain⟨u,t⟩:=ai ((Pl.pr ps k).1);obtain⟨B,D⟩:=ai ((Pl.pr ps k).2);rw [t.out]at c0;rw [D.out]at c1;obtain⟨v,o⟩:=ai (decide (0<=u/\u<=11));obtain⟨z,r⟩:=ai (decide (1<=B/\B<=1000));have E:Eb (lJ (Pl.pr ps k).1 (Pl.pr ps k).2=(v&&z)):=by
    show _=_;unfold lJ;rw [t.out,D.out,o.out,r.out]
   by_cases s:(v&&z)=true
   ·simp only [PW]at s;obtain⟨rfl,rfl⟩:=s;have A:Eb (lJ (Pl.pr ps k).1 (Pl.pr ps k).2=true):=by show _=_;rw [E.out];rfl
    rcases OG k with g|g
    ·have P:decide (0<k)=false:=by simp;omega
     have F:Eb (k=0):=g;clear g;go_wp2_with (go_at_call 73;refine(dZ _ _ _ _).mono ?_;(first|rw [o.out]|rw [r.out]);rintro e w' ⟨rfl,rfl⟩);go_quiet (fail);go_wp2;go_roundw
     case rel=>exact⟨k+1,by omega,by go_num,by show _=_;have h:=p.out;rw [q.out,h];have hm:=A.out;rw [F.out]at hm⊢;rw [Ij hm];congr 1;have h0:=F.out;omega,aO y _⟩
     case measure=>simp [OI];omega
    ·obtain⟨m,rfl⟩:∃m,k=m+1:=⟨k-1,by omega⟩
     obtain⟨d0,d1⟩:=l m (by omega);obtain⟨G,j⟩:=ai ((Pl.pr ps m).1);rw [j.out]at d0;by_cases hle:u<=G
     ·go_wp2_with (go_at_call 73;refine(dZ _ _ _ _).mono ?_;(first|rw [o.out]|rw [r.out]);rintro e w' ⟨rfl,rfl⟩);go_quiet (fail);go_wp2;go_ret;exact⟨aF (by rw [q.out,p.out,Pq A.out (by rw [t.out,j.out];omega)]),aO c _⟩
     ·go_wp2_with (go_at_call 73;refine(dZ _ _ _ _).mono ?_;(first|rw [o.out]|rw [r.out]);rintro e w' ⟨rfl,rfl⟩);go_quiet (fail);go_wp2;go_roundw
      case rel=>exact⟨m+1+1,by omega,by go_num,by show _=_;rw [q.out,p.out,UH A.out (by rw [t.out,j.out];omega)];congr 1;have:=p.out;omega,aO y _⟩
      case measure=>simp [OI];omega
   ·have L:Eb (qU ps=2):=by
     show _=_;rw [q.out,p.out,Ii];rw [E.out];simpa using s
    cases v
    all_goals cases z
    all_goals first|(exact absurd rfl s)|skip
    all_goals
     go_wp2_with (go_at_call 73;refine(dZ _ _ _ _).mono ?_;(first|rw [o.out]|rw [r.out]);rintro e w' ⟨rfl,rfl⟩);go_ret;exact⟨aF L.out.symm,c⟩
  ·obtain rfl:k=len:=by omega
   go_wp2;go_ret;exact⟨aF (by rw [q.out];simp [Pl.adjN]),c⟩
def Pl.CX(l:List UInt8):Option (List (Int×Int)):=iP 61 (qf 33 l)
def Pl.uZ(l:List UInt8):Int:=match CX l with
 |none=>4
 |some ps=>qU ps
def Pl.uY(l:List UInt8):Bool:=uZ l==0&&rG 33 l
def Pl.qR(l:List UInt8):List (Int×Int):=if uZ l=0 then(CX l).getD []else []
theorem OD:(Tryz.prog.info? 143).map (fun i=>(i.zero,i.size,i.bytes))=some (some (.agg #[.int .i64 0,.int .i64 0]),2,16):=by kernel_rfl
theorem Pl.Ju{c:UInt8}{s a:ByteArray}(h:a.data.toList=qf c s.data.toList):a.size<=s.size:=by
 rw [<-bT a,<-bT s,h];unfold qf;split<;>simp
theorem Pl.JH:∀(n:Nat) (l:List UInt8),(Pl.partsN n l).length<=l.length+1
 |0,_=>by simp [Pl.partsN]
 |n+1,l=>by
  rw [Pl.partsN];split
  ·simp
  ·rename_i r a;have c:=(uq 44 l).2 r a;have b:=JH n r;simp only [List.length_cons];omega
theorem Pl.F7{m:UInt8}:∀{ps:List (List UInt8)} {a:List (Int×Int)},Pl.pairsP m ps=some a->a.length=ps.length
 | [],a,h=>by cases h;rfl
 |p::r,a,h=>by
  rw [Pl.pairsP]at h;split at h
  ·rename_i x y c b
   cases h;simp [F7 b]
  ·cases h
theorem Pl.uK{m:UInt8}{l:List UInt8}{a:List (Int×Int)}(h:iP m l=some a):a.length<=l.length+1/\(∀p∈a,dJ p):=by
 unfold iP at h;split at h
 ·cases h;simp
 ·refine⟨?_,fun p hp=>gp (xZ h p hp)⟩;rw [F7 h];exact JH _ _
theorem BX{w w3:oC}{c0 c1:rU}{T:Qe}(a:xk (w.heap.size+1) (w.alloc (.cells #[c0,c1] T)) w3):
  w3.frozen? ⟨w.heap.size,0,none⟩=false/\w3.frozen? ⟨w.heap.size,1,none⟩=false:=by
 constructor
 all_goals
  rw [a.frozen (by simp)];simp
theorem aQ{w:oC}{B:Nat}{c0 c1:rU}{T:Qe}(h:w.heap[B]? =some (.cells #[c0,c1] T)):
  w.cell? ⟨B,0,none⟩=some c0/\w.cell? ⟨B,1,none⟩=some c1/\w.frozen? ⟨B,0,none⟩=false/\w.frozen? ⟨B,1,none⟩=false/\B<w.heap.size:=by
 refine⟨?_,?_,?_,?_,aG h⟩
 all_goals simp [IA,OM,h]
theorem gK{w:oC}{B:Nat}{c0 c1:rU}{T:Qe}(h:w.heap[B]? =some (.cells #[c0,c1] T))(v:rU):(w.setCell ⟨B,1,none⟩ v).heap[B]? =some (.cells #[c0,v] T):=by
 have:=aG h;simp [VB,WZ,h]
theorem bW(w:oC)(o:Obj):(w.alloc o).heap[w.heap.size]? =some o:=by
 show(w.heap.push o)[w.heap.size]? =_;simp
theorem BF{w:oC}{B:Nat}{x:Obj}(h:w.heap[B]? =some x)(o:Obj):(w.alloc o).heap[B]? =some x:=by
 have:=aG h;show(w.heap.push o)[B]? =_;rw [Array.getElem?_push];split
 ·omega
 ·exact h
theorem Pl.EY(ps:List (Int×Int))(k:Nat)(h:k<ps.length):ps.take (k+1)=ps.take k++ [Pl.pr ps k]:=by
 rw [SQ h,jI ps k h]
theorem PK(s:ByteArray)(w:oC)(hs:s.size<=4398046511103):
  Jj qh 149 #[.string s] w fun e w'=>∃vl:rU,e= .returned (.tuple #[.agg #[.bool (uY s.data.toList),vl],.int .i64 (uZ s.data.toList)])/\
   aU 143 w' w.heap.size vl (qR s.data.toList)/\xk w.heap.size w w':=by
 obtain⟨np,y⟩:=ai (CX s.data.toList);obtain⟨R,W⟩:=ai (rG 33 s.data.toList);have K:Eb (s.size<=xx):=ae (by unfold xx;omega)
 cases np with
 |none=>
  have q:Eb (uZ s.data.toList=4/\uY s.data.toList=false/\qR s.data.toList= []):=by
   have h:uZ s.data.toList=4:=by unfold uZ;rw [y.out]
   refine ae ⟨h,?_,?_⟩
   ·unfold uY;rw [h];rfl
   ·unfold qR;rw [h];rfl
  rw [q.out.1,q.out.2.1,q.out.2.2];go_enter Tryz.func149,Tryz.ntmps149;go_wp2_with fail;refine(zD s 33 _ K.out).mono ?_;rw [W.out];rintro e w1 ⟨a,rfl,ha,rfl⟩;have z:=ae ha;clear ha;have T:=Ju z.out;go_wp2_with fail;refine(ny a 61 _ (by omega)).mono ?_;rw [z.out,show iP 61 (qf 33 s.data.toList)=none from y.out];rintro e d ⟨v2,rfl,_,j⟩;have c:xk (w.heap.size+1) (w.alloc (.cells #[.bool false,.slice none 0 0] 141)) d:=by simpa using j
  clear j;obtain⟨B,A,xs,g⟩:=vK c;obtain⟨f0,f1⟩:=BX c;go_wp2_with fail;refine xh (v:= .tuple #[.agg #[.bool false,.slice none 0 0],.int .i64 4]) (by simp [results,Tryz.results149,go_sem,B,A]) rfl ⟨_,rfl,aU.nil _ _ _,((g.setCell (oP _) _).setCell (oP _) _)⟩
 |some ps=>
  obtain⟨u,N⟩:=ai (qU ps);have q:Eb (uZ s.data.toList=u/\(u=0->uY s.data.toList=R/\qR s.data.toList=ps)/\(u≠0->uY s.data.toList=false/\qR s.data.toList= [])):=by
   have h:uZ s.data.toList=u:=by unfold uZ;rw [y.out];exact N.out
   refine ae ⟨h,fun h0=>⟨?_,?_⟩,fun h0=>⟨?_,?_⟩⟩
   ·unfold uY;rw [h,h0,W.out];rfl
   ·unfold qR;rw [h,h0,y.out];rfl
   ·unfold uY;rw [h];simp [h0]
   ·unfold qR;rw [h,ag h0]
  have x:=ae (uK (m:=61) (l:=qf 33 s.data.toList) y.out);rw [q.out.1];go_enter Tryz.func149,Tryz.ntmps149;go_wp2_with fail;refine(zD s 33 _ K.out).mono ?_;rw [W.out];rintro e w1 ⟨a,rfl,ha,rfl⟩;have z:=ae ha;clear ha;have T:=Ju z.out;go_wp2_with fail;refine(ny a 61 _ (by omega)).mono ?_;rw [z.out,show iP 61 (qf 33 s.data.toList)=some ps from y.out];rintro e d ⟨v2,rfl,E,j⟩;have c:xk (w.heap.size+1) (w.alloc (.cells #[.bool false,.slice none 0 0] 141)) d:=by simpa using j
  obtain⟨a2,ad,rfl,o,_,_⟩:=aU.shape (ps:=ps) E x.out.2;have U:=ae o;have hlen:ps.length<=s.size+1:=by
   have h1:=x.out.1;rw [<-z.out,bT]at h1;omega
  have aa:=o.2.1;have F:=o.2.2.1;unfold xx at F;clear j E o;go_wp2_with fail;have P:=c.size;simp at P;go_loopw [29] (fun i wr=>∃(k:Nat) (v:rU),k<=ps.length/\i= .int .i64 k/\Eb (wr.heap[d.heap.size]? =some (.cells #[.bool R,v] 141))/\Eb (aU 143 wr (d.heap.size+1) v (ps.take k))/\xk d.heap.size d wr) (fun i _=>ps.length-(OI i).toNat)
  case atStart=>exact⟨0,_,OO _,rfl,ae (bW _ _),ae (aU.nil _ _ _),(qL _ _).alloc (oP _) _⟩
  case round=>
   obtain⟨k,v,hk,rfl,HB,V,M⟩:=hrel;obtain⟨y0,y1,g0,g1,IG⟩:=aQ HB.out;by_cases r:k<ps.length
   ·obtain⟨b,off,rfl,S,Z⟩:∃b off,a2=some ⟨b,off,none⟩/\b<d.heap.size/\eP d b off ps:=by
     rcases U.out.2.2.2.2 with rfl|h
     ·simp at r
     ·exact h
    obtain⟨c0,c1⟩:=(Z.below S M) k r;have an:b<wr.heap.size:=by omega
    clear Z;obtain⟨pp,C⟩:=ai (Pl.pr ps k);rw [C.out]at c0 c1;have sV:=ae (V.out.below ((qL wr.heap.size wr).alloc (oP _) (.cells #[.int .i64 pp.1,.int .i64 pp.2] 118)));have X:=ae (BF HB.out (.cells #[.int .i64 pp.1,.int .i64 pp.2] 118));have Q:(ps.take k).length=k:=by simp;omega
    go_wp2_with (at_builtin;refine dM Tryz.underlying139 OD rfl (.tmp 34) (.tmp 40) rfl (d.heap.size+1) v (ps.take k) pp rfl sV.out (by simp;omega) (by show aat (some ⟨wr.heap.size+1,0,none⟩) 1 1=_;simp) (by rw [Q];omega) ?_;intro v5 w5 O H _;obtain⟨a5,n5,I,rfl⟩:=O.slice;have oL:=ae O;clear O;have Y:=ae ((H.block _ (Nat.lt_succ_self _)).trans X.out);obtain⟨z0,z1,q0,q1,oq⟩:=aQ Y.out);go_roundw
    case rel=>exact⟨k+1,.slice a5 n5 I,by omega,by go_num,ae (gK Y.out _),ae (by show aU _ _ _ _ _;rw [EY ps k r,C.out];exact Rw oL.out (by simp) _),((M.alloc M.size _).trans (H.mono (Nat.le_succ _))).setCell (oP _) _⟩
    case measure=>simp [OI];omega
   ·obtain rfl:k=ps.length:=by omega
    have Td:Eb (aU 143 wr (d.heap.size+1) v ps):=by have h:=V.out;rw [List.take_length]at h;exact ae h
    obtain⟨a3,J,rfl,D,_,_⟩:=aU.shape Td.out x.out.2;have Ea:=ae D;clear D V;have G:xk (w.heap.size+1) (w.alloc (.cells #[.bool false,.slice none 0 0] 141)) wr:=c.trans (M.mono (by omega));by_cases t:u=0
    ·subst t;have n:=ae (q.out.2.1 rfl);clear q;go_wp2_with fail;refine(pJ _ _ _ _ ps _ Ea.out).mono ?_;rw [N.out];rintro e w4 ⟨rfl,f⟩;have L:=G.trans (f.mono (by omega));obtain⟨B,A,xs,g⟩:=vK L;obtain⟨f0,f1⟩:=BX L;have z0:=(f.cell (p:=⟨d.heap.size,0,none⟩) IG).trans y0;have z1:=(f.cell (p:=⟨d.heap.size,1,none⟩) IG).trans y1;go_wp2_with fail;refine xh (v:= .tuple #[.agg #[.bool R,.slice a3 ps.length J],.int .i64 0]) (by simp [results,Tryz.results149,go_sem,B,A]) rfl ⟨_,by rw [n.out.1],?_,((g.setCell (oP _) _).setCell (oP _) _)⟩;rw [n.out.2];have h5:=Td.out.below f;exact aU.mono (base:=d.heap.size+1) (Rw (Rw h5 (by simp;omega) _) (by simp;omega) _) (by omega)
    ·have n:=ae (q.out.2.2 t);clear q;have ak:(u==0)=false:=by simpa using t
     go_wp2_with fail;refine(pJ _ _ _ _ ps _ Ea.out).mono ?_;rw [N.out];rintro e w4 ⟨rfl,f⟩;have L:=G.trans (f.mono (by omega));obtain⟨B,A,xs,g⟩:=vK L;obtain⟨f0,f1⟩:=BX L;go_wp2_with fail;exact xh (v:= .tuple #[.agg #[.bool false,.slice none 0 0],.int .i64 u]) (by simp [results,Tryz.results149,go_sem,B,A]) rfl ⟨_,by rw [n.out.1],by rw [n.out.2];exact aU.nil _ _ _,((g.setCell (oP _) _).setCell (oP _) _)⟩
structure aI(B:Nat)(w w':oC):Prop where
 os:w'.os=w.os
 tape:w'.tape=w.tape
 output:w'.output=w.output
 size:w.heap.size<=w'.heap.size
 block:∀k,k<w.heap.size->k≠B->w'.heap[k]? =w.heap[k]?
theorem aI.refl(B:Nat)(w:oC):aI B w w:=⟨rfl,rfl,rfl,oP _,fun _ _ _=>rfl⟩
theorem aI.trans{B:Nat}{a b c:oC}(h:aI B a b)(k:aI B b c):aI B a c:=
 ⟨k.os.trans h.os,k.tape.trans h.tape,k.output.trans h.output,GX h.size k.size,fun i d e=>(k.block i (aad d h.size) e).trans (h.block i d e)⟩
theorem aI.of{B:Nat}{w w':oC}(h:xk w.heap.size w w'):aI B w w':=⟨h.os,h.tape,h.output,h.size,fun k a _=>h.block k a⟩
theorem aI.below{B C:Nat}{w w':oC}(h:aI B w w')(hC:C<=B)(hw:C<=w.heap.size):xk C w w':=⟨h.os,h.tape,h.output,h.size,fun k a=>h.block k (by omega) (by omega)⟩
theorem aI.setCell{B:Nat}{a w:oC}(h:aI B a w)(o:Nat)(u:rU):aI B a (w.setCell ⟨B,o,none⟩ u):=
 h.trans ⟨rfl,rfl,rfl,by simp [VB],fun k _ b=>Below.heap_setCell _ _ _ _ b⟩
theorem aI.setCells{B:Nat}{a:oC}:∀(b:List rU) (o:Nat) (w:oC),aI B a w->aI B a (w.setCells B o b)
 | [],_,_,h=>h
 |v::r,o,_,h=>aI.setCells r (o+1) _ (h.setCell o v)
theorem aI.alloc{B:Nat}{a w:oC}(h:aI B a w)(o:Obj):aI B a (w.alloc o):=
 h.trans (aI.of ((qL _ _).alloc (oP _) o))
theorem aI.drawn{B:Nat}{a w:oC}(h:aI B a w)(n:Nat):aI B a (w.drewN n):=h.trans ⟨rfl,rfl,rfl,oP _,fun _ _ _=>rfl⟩
theorem aI.cell{B:Nat}{w w':oC}(h:aI B w w'){p:Addr}(hp:p.block<w.heap.size)(a:p.block≠B):w'.cell? p=w.cell? p:=by
 simp only [IA];rw [h.block p.block hp a]
def aj(w:oC)(B:Nat)(T:Qe)(n:Nat)(g:Nat->rU):Prop:=w.heap[B]? =some (.cells (Array.ofFn (n:=n) fun i=>g i.1) T)
theorem aj.lt{w B T n g}(h:aj w B T n g):B<w.heap.size:=aG h
theorem aj.cell{w B T n g}(h:aj w B T n g)(o:Nat)(a:o<n):w.cell? ⟨B,o,none⟩=some (g o):=by
 unfold aj at h;simp [IA,h,a]
theorem aj.soft{w B T n g}(h:aj w B T n g)(o:Nat):w.frozen? ⟨B,o,none⟩=false:=by
 unfold aj at h;simp [OM,h]
theorem aj.ext{w B T n g b}(h:aj w B T n g)(e:∀o,o<n->g o=b o):aj w B T n b:=by
 unfold aj at h⊢;rw [h];congr 2
 apply aaf
 ·simp
 ·intro i a c;simp only [aag]at a;simpa using e i a
theorem aj.set{w B T n g}(h:aj w B T n g)(o:Nat)(v:rU):aj (w.setCell ⟨B,o,none⟩ v) B T n (cZ g o v):=by
 have hl:=h.lt;unfold aj at h⊢;simp only [VB,WZ,h];simp only [↓reduceIte,aac,Option.isSome_none,Bool.false_eq_true];congr 2
 apply aaf
 ·simp
 ·intro i b c;simp only [Array.size_setIfInBounds,aag]at b;rw [Array.getElem_setIfInBounds (by simpa using b)];simp only [Array.getElem_ofFn,cZ];by_cases a:o=i
  ·subst a;simp
  ·rw [ag a,ag (aaC a)]
theorem aj.XT{B:Nat}{T:Qe}{n:Nat}:∀(a:List rU) (o:Nat) (w:oC) (g:Nat->rU),aj w B T n g->
  aj (w.setCells B o a) B T n (fun i=>if o<=i/\i<o+a.length then a.getD (i-o) undef else g i)
 | [],o,w,g,h=>by
  refine aj.ext h fun i _=> ?_;rw [ag (by simp only [List.length_nil];omega)]
 |v::r,o,w,g,h=>by
  have:=aj.XT r (o+1) _ _ (h.set o v);refine aj.ext this fun i _=> ?_;by_cases c:o+1<=i/\i<o+1+r.length
  ·rw [af c,af (by simp;omega)];obtain⟨j,d⟩:∃j,i-o=j+1:=⟨i-o-1,by omega⟩
   rw [d,List.getD_cons_succ];congr 1;omega
  ·rw [ag c];by_cases b:i=o
   ·subst b;rw [gU,af (by simp)];simp
   ·rw [jE _ _ b,ag (by simp;omega)]
theorem aj.there{w B T n g}(h:aj w B T n g)(o k:Nat)(a:o+k<=n):w.there B o k:=fun j b=>⟨by rw [h.cell _ (by omega)];rfl,h.soft _⟩
theorem aj.range{w B T n g}(h:aj w B T n g)(o:Nat)(cs:List rU)(c:o+cs.length<=n)(e:∀j (a:j<cs.length),cs[j]=g (o+j)):w.rangeAt B o cs:=fun j v b=>by
 obtain⟨a,rfl⟩:=List.getElem?_eq_some_iff.1 b;rw [h.cell _ (by omega),e j a]
theorem aj.new(w:oC)(T:Qe)(cs:Array rU)(n:Nat)(g:Nat->rU)(a:cs.size=n)(e:∀i (c:i<cs.size),cs[i]=g i):aj (w.alloc (.cells cs T)) w.heap.size T n g:=by
 unfold aj;rw [bW];congr 2
 apply aaf
 ·simpa using a
 ·intro i b d;rw [e i b];simp
theorem aj.but{w w' B C T n g}(h:aj w B T n g)(k:aI C w w')(a:B≠C):aj w' B T n g:=(k.block B h.lt a).trans h
theorem aj.below{w w' B T n g}(h:aj w B T n g)(k:xk w.heap.size w w'):aj w' B T n g:=(k.block B h.lt).trans h
def rZ(f:Nat)(s:Pl.DS)(o:Nat):rU:=
 if o=0 then .int .i64 f else if o<13 then .int .i64 (s.cost (o-1))else if o<157 then .bool (s.aH ((o-13)/12) ((o-13)%12))else .bool (s.done (o-157))
theorem Jz(f s)(i:Nat)(h:i<12):rZ f s (1+i)= .int .i64 (s.cost i):=by
 unfold rZ;rw [ag (by omega),af (by omega)];congr 2;omega
theorem Jy(f s)(i k:Nat)(h:i<12)(a:k<12):rZ f s (13+i*12+k)= .bool (s.aH i k):=by
 unfold rZ;rw [ag (by omega),ag (by omega),af (by omega)];rw [show(13+i*12+k-13)/12=i by omega,show(13+i*12+k-13)%12=k by omega]
theorem U6(f s)(i:Nat)(h:i<12):rZ f s (157+i)= .bool (s.done i):=by
 unfold rZ;rw [ag (by omega),ag (by omega),ag (by omega)];congr 2;omega
theorem KI(f s)(i:Nat)(b:i<12)(c:Int)(o:Nat):cZ (rZ f s) (1+i) (.int .i64 c) o=rZ f ⟨cZ s.cost i c,s.aH,s.done⟩ o:=by
 unfold cZ rZ;by_cases h:o=1+i
 ·subst h;rw [af rfl,ag (by omega),af (by omega)];simp
 ·rw [ag h];by_cases h0:o=0
  ·simp [h0]
  ·rw [ag h0,ag h0];by_cases a:o<13
   ·rw [af a,af a];simp only;rw [ag (by omega)]
   ·rw [ag a,ag a]
theorem Ny(f s)(i k:Nat)(j:i<12)(g:k<12)(b:Bool)(o:Nat)(e:o<169):
  cZ (rZ f s) (13+i*12+k) (.bool b) o=rZ f ⟨s.cost,cZ s.aH i (cZ (s.aH i) k b),s.done⟩ o:=by
 unfold cZ rZ;by_cases h:o=13+i*12+k
 ·subst h;rw [af rfl,ag (by omega),ag (by omega),af (by omega)];simp only;rw [af (by omega),af (by omega)]
 ·rw [ag h];by_cases h0:o=0
  ·simp [h0]
  ·rw [ag h0,ag h0];by_cases c:o<13
   ·rw [af c,af c]
   ·rw [ag c,ag c];by_cases a:o<157
    ·rw [af a,af a];simp only;by_cases d:(o-13)/12=i
     ·rw [af d,ag (by omega),d]
     ·rw [ag d]
    ·rw [ag a,ag a]
theorem KH(f s)(i:Nat)(d:i<12)(b:Bool)(o:Nat):cZ (rZ f s) (157+i) (.bool b) o=rZ f ⟨s.cost,s.aH,cZ s.done i b⟩ o:=by
 unfold cZ rZ;by_cases h:o=157+i
 ·subst h;rw [af rfl,ag (by omega),ag (by omega),ag (by omega)];simp
 ·rw [ag h];by_cases h0:o=0
  ·simp [h0]
  ·rw [ag h0,ag h0];by_cases c:o<13
   ·rw [af c,af c]
   ·rw [ag c,ag c];by_cases a:o<157
    ·rw [af a,af a]
    ·rw [ag a,ag a];simp only;rw [ag (by omega)]
def ou(w:oC)(B f:Nat)(s:Pl.DS):Prop:=aj w B 209 169 (rZ f s)
theorem ou.from{w B f s}(h:ou w B f s):w.cell? ⟨B,0,none⟩=some (.int .i64 f):=aj.cell h 0 (by omega)
theorem ou.cost{w B f s}(h:ou w B f s)(i:Nat)(a:i<12):w.cell? ⟨B,1+i,none⟩=some (.int .i64 (s.cost i)):=by rw [aj.cell h _ (by omega),Jz _ _ _ a]
theorem ou.aH{w B f s}(h:ou w B f s)(i k:Nat)(b:i<12)(a:k<12):w.cell? ⟨B,13+i*12+k,none⟩=some (.bool (s.aH i k)):=by rw [aj.cell h _ (by omega),Jy _ _ _ _ b a]
theorem ou.done{w B f s}(h:ou w B f s)(i:Nat)(a:i<12):w.cell? ⟨B,157+i,none⟩=some (.bool (s.done i)):=by rw [aj.cell h _ (by omega),U6 _ _ _ a]
theorem ou.xU{w B f s}(h:ou w B f s)(i:Nat)(a:i<12)(c:Int):ou (w.setCell ⟨B,1+i,none⟩ (.int .i64 c)) B f ⟨cZ s.cost i c,s.aH,s.done⟩:=
 (aj.set h (1+i) _).ext fun o _=>KI f s i a c o
theorem ou.CZ{w B f s}(h:ou w B f s)(i k:Nat)(d:i<12)(c:k<12)(b:Bool):ou (w.setCell ⟨B,13+i*12+k,none⟩ (.bool b)) B f ⟨s.cost,cZ s.aH i (cZ (s.aH i) k b),s.done⟩:=
 (aj.set h _ _).ext fun o a=>Ny f s i k d c b o a
theorem ou.aaW{w B f s}(h:ou w B f s)(i:Nat)(a:i<12)(b:Bool):ou (w.setCell ⟨B,157+i,none⟩ (.bool b)) B f ⟨s.cost,s.aH,cZ s.done i b⟩:=
 (aj.set h _ _).ext fun o _=>KH f s i a b o
theorem ou.Wx{w B f s}(h:ou w B f s)(i:Nat)(d:i<12):ou (w.setCells B (13+i*12) (aap 12 (.bool false))) B f ⟨s.cost,cZ s.aH i (fun _=>false),s.done⟩:=by
 refine(aj.XT _ (13+i*12) _ _ h).ext fun o c=> ?_;simp only [List.length_replicate];by_cases a:13+i*12<=o/\o<13+i*12+12
 ·rw [af a];unfold rZ;rw [ag (by omega),ag (by omega),af (by omega)];have e:(aap 12 (Value.bool false)).getD (o-(13+i*12)) undef= .bool false:=by
   rw [UQ,List.getElem?_replicate,af (by omega)];rfl
  rw [e];simp only [cZ];rw [af (by omega)]
 ·rw [ag a];unfold rZ;by_cases h0:o=0
  ·simp [h0]
  ·rw [ag h0,ag h0];by_cases a:o<13
   ·rw [af a,af a]
   ·rw [ag a,ag a];by_cases b:o<157
    ·rw [af b,af b];simp only [cZ];rw [ag (by omega)]
    ·rw [ag b,ag b]
def gG(D:Nat->Bool)(P K T:Nat->rU)(L:Nat->Nat->Int)(o:Nat):rU:=
 if o<48 then(if o%4=0 then .bool (D (o/4))else if o%4=1 then P (o/4)else if o%4=2 then K (o/4)else T (o/4))else .int .i64 (L ((o-48)/12) ((o-48)%12))
def fG(w:oC)(B:Nat)(D:Nat->Bool)(P K T:Nat->rU)(L:Nat->Nat->Int):Prop:=aj w B 92 192 (gG D P K T L)
theorem fG.lt{w B D P K T L}(h:fG w B D P K T L):B<w.heap.size:=aj.lt h
theorem fG.soft{w B D P K T L}(h:fG w B D P K T L)(o:Nat):w.frozen? ⟨B,o,none⟩=false:=aj.soft h o
theorem fG.below{w w':oC}{B D P K T L}(h:fG w B D P K T L)(k:xk w.heap.size w w'):fG w' B D P K T L:=aj.below h k
theorem fG.line{w B D P K T L}(h:fG w B D P K T L)(a b:Nat)(ha:a<12)(c:b<12):w.cell? ⟨B,48+a*12+b,none⟩=some (.int .i64 (L a b)):=by
 rw [aj.cell h _ (by omega)];unfold gG;rw [ag (by omega),show(48+a*12+b-48)/12=a by omega,show(48+a*12+b-48)%12=b by omega]
theorem fG.yB{w B D P K T L}(h:fG w B D P K T L)(a:Nat)(ha:a<12):w.cell? ⟨B,a*4,none⟩=some (.bool (D a)):=by
 rw [aj.cell h _ (by omega)];unfold gG;rw [af (by omega),af (by omega),show a*4/4=a by omega]
theorem fG.jh{w B D P K T L}(h:fG w B D P K T L)(a:Nat)(ha:a<12):w.cell? ⟨B,a*4+1,none⟩=some (P a):=by
 rw [aj.cell h _ (by omega)];unfold gG;rw [af (by omega),ag (by omega),af (by omega),show(a*4+1)/4=a by omega]
theorem fG.lq{w B D P K T L}(h:fG w B D P K T L)(a:Nat)(ha:a<12):w.cell? ⟨B,a*4+2,none⟩=some (K a):=by
 rw [aj.cell h _ (by omega)];unfold gG;rw [af (by omega),ag (by omega),ag (by omega),af (by omega),show(a*4+2)/4=a by omega]
theorem fG.table{w B D P K T L}(h:fG w B D P K T L)(a:Nat)(ha:a<12):w.cell? ⟨B,a*4+3,none⟩=some (T a):=by
 rw [aj.cell h _ (by omega)];unfold gG;rw [af (by omega),ag (by omega),ag (by omega),ag (by omega),show(a*4+3)/4=a by omega]
theorem fG.ext{w B D P K T L D' d f c e}(h:fG w B D P K T L)(l:∀a,a<12->D a=D' a)(k:∀a,a<12->P a=d a)(j:∀a,a<12->K a=f a)(i:∀a,a<12->T a=c a)(g:∀a b,a<12->b<12->L a b=e a b):fG w B D' d f c e:=by
 refine aj.ext h fun o m=> ?_;unfold gG;split
 ·rw [l _ (by omega),k _ (by omega),j _ (by omega),i _ (by omega)]
 ·rw [g _ _ (by omega) (by omega)]
theorem fG.Qw{w B D P K T L}(h:fG w B D P K T L)(a:Nat)(v:Bool):fG (w.setCell ⟨B,a*4,none⟩ (.bool v)) B (cZ D a v) P K T L\/¬a<12:=by
 by_cases ha:a<12
 ·left;refine(aj.set h _ _).ext fun o d=> ?_;unfold cZ gG;by_cases c:o=a*4
  ·subst c;rw [af rfl,af (by omega),af (by omega)];simp
  ·rw [ag c];by_cases h0:o<48
   ·rw [af h0,af h0];by_cases b:o%4=0
    ·rw [af b,af b];simp only;rw [ag (by omega)]
    ·rw [ag b,ag b]
   ·rw [ag h0,ag h0]
 ·exact .inr ha
theorem fG.TP{w B D P K T L}(h:fG w B D P K T L)(a b:Nat)(f:b<12)(v:Int):fG (w.setCell ⟨B,48+a*12+b,none⟩ (.int .i64 v)) B D P K T (cZ L a (cZ (L a) b v)):=by
 refine(aj.set h _ _).ext fun o e=> ?_;unfold cZ gG;by_cases d:o=48+a*12+b
 ·subst d;rw [af rfl,ag (by omega),show(48+a*12+b-48)/12=a by omega,show(48+a*12+b-48)%12=b by omega];simp
 ·rw [ag d];by_cases h0:o<48
  ·rw [af h0,af h0]
  ·rw [ag h0,ag h0];by_cases c:(o-48)/12=a
   ·simp only [af c];rw [ag (by omega),c]
   ·simp only [ag c]
def Pl.line(L:Nat->Nat->Int)(a b:Nat)(c:Int):Nat->Nat->Int:=fun x y=>if(x=a/\y=b)\/(x=b/\y=a)then c else L x y
theorem Gl(B:Nat)(D:Nat->Bool)(P K T:Nat->rU)(L:Nat->Nat->Int)(a b:Nat)(c:Int)(w:oC)(h:fG w B D P K T L)(ha:a<12)(i:b<12):
  Jj qh 157 #[.pointer (some ⟨B,0,none⟩),.int .i64 a,.int .i64 b,.int .i64 c] w fun e w'=>e= .returned (.tuple #[])/\fG w' B D P K T (Pl.line L a b c)/\aI B w w':=by
 have q:=ae h;have c1:=h.line a b ha i;have c2:=h.line b a i ha;have f1:=h.soft (48+a*12+b);have f2:=h.soft (48+b*12+a);have p:=h.lt;have o:(a:Int)<12:=by omega
 have n:(b:Int)<12:=by omega
 clear h;have l:Eb (fG ((w.setCell ⟨B,48+a*12+b,none⟩ (.int .i64 c)).setCell ⟨B,48+b*12+a,none⟩ (.int .i64 c)) B D P K T (Pl.line L a b c)):=ae (((q.out.TP a b i c).TP b a ha c).ext (fun _ _=>rfl) (fun _ _=>rfl) (fun _ _=>rfl) (fun _ _=>rfl) (fun x y _ _=>by
  unfold Pl.line cZ;by_cases g:x=b
  ·subst g;simp only [if_true];by_cases f:y=a
   ·subst f;simp
   ·rw [ag f];by_cases d:x=a
    ·subst d;simp only [if_true];rw [ag f,ag (by rintro(⟨_,h⟩|⟨_,h⟩)<;>exact f h)]
    ·rw [ag d,ag (by rintro(⟨h,_⟩|⟨_,h⟩);(exact d h);exact f h)]
  ·simp only [ag g];by_cases d:x=a
   ·subst d;simp only [if_true];by_cases k:y=b
    ·subst k;simp
    ·rw [ag k,ag (by rintro(⟨_,h⟩|⟨h,_⟩);(exact k h);exact g h)]
   ·rw [ag d,ag (by rintro(⟨h,_⟩|⟨h,_⟩);(exact d h);exact g h)]))
 go_enter Tryz.func157,Tryz.ntmps157;by_cases j:a=b
 ·subst j;go_wp2_with fail;first|refine bodyPost_end (v:= .tuple #[]) (by simp [results,Tryz.results157,go_sem]) rfl ?_|refine xh (v:= .tuple #[]) (by simp [results,Tryz.results157,go_sem]) rfl ?_
  exact⟨rfl,l.out,((aI.refl _ _).setCell _ _).setCell _ _⟩
 ·have m:48+b*12+a≠48+a*12+b:=by omega
  go_wp2_with fail;first|refine bodyPost_end (v:= .tuple #[]) (by simp [results,Tryz.results157,go_sem]) rfl ?_|refine xh (v:= .tuple #[]) (by simp [results,Tryz.results157,go_sem]) rfl ?_
  exact⟨rfl,l.out,((aI.refl _ _).setCell _ _).setCell _ _⟩
structure Pl.Ac where
 kind:Int
 a:Int
 b:Int
 n:Int
 m:Int
 p:Int×Int
 key:ByteArray
 val:ByteArray
theorem aI.over{B G:Nat}{a b c:oC}(h:aI B a b)(k:aI G b c)(f:a.heap.size<=G):aI B a c:=
 ⟨k.os.trans h.os,k.tape.trans h.tape,k.output.trans h.output,GX h.size k.size,fun i d e=>(k.block i (aad d h.size) (by omega)).trans (h.block i d e)⟩
theorem aS{w:oC}{b:Nat}{c0 c1 c2 a:rU}{T:Qe}(h:w.heap[b]? =some (.cells #[c0,c1,c2,a] T)):
  (w.cell? ⟨b,0,none⟩=some c0/\w.cell? ⟨b,1,none⟩=some c1/\w.cell? ⟨b,2,none⟩=some c2/\w.cell? ⟨b,3,none⟩=some a)/\(∀o,w.frozen? ⟨b,o,none⟩=false)/\b<w.heap.size:=by
 refine⟨⟨?_,?_,?_,?_⟩,fun o=> ?_,aG h⟩;iterate 4 simp [IA,h]
 simp [OM,h]
theorem kz{w:oC}{b:Nat}{c0 c1 c2 g f e d c a:rU}{T:Qe}(h:w.heap[b]? =some (.cells #[c0,c1,c2,g,f,e,d,c,a] T)):
  w.cell? ⟨b,0,none⟩=some c0/\w.cell? ⟨b,1,none⟩=some c1/\w.cell? ⟨b,2,none⟩=some c2/\w.cell? ⟨b,3,none⟩=some g/\w.cell? ⟨b,4,none⟩=some f/\w.cell? ⟨b,5,none⟩=some e/\w.cell? ⟨b,6,none⟩=some d/\w.cell? ⟨b,7,none⟩=some c/\w.cell? ⟨b,8,none⟩=some a:=by
 refine⟨?_,?_,?_,?_,?_,?_,?_,?_,?_⟩;iterate 9 simp [IA,h]
theorem two{w:oC}(A B:Obj):(((w.alloc A).alloc B).heap[w.heap.size]? =some A)/\(((w.alloc A).alloc B).heap[w.heap.size+1]? =some B)/\((w.alloc A).alloc B).heap.size=w.heap.size+2/\xk w.heap.size w ((w.alloc A).alloc B):=by
 have a:(w.alloc A).heap.size=w.heap.size+1:=by simp
 refine⟨?_,?_,by simp,((qL _ _).alloc (oP _) _).alloc (by simp) _⟩
 ·rw [Tf _ _ _ (by simp)];exact bW w A
 ·have:=bW (w.alloc A) B;rwa [a]at this
theorem fJ(c:Int)(w:oC):
  Jj qh 71 #[.int .i64 c] w fun e w'=>e= .returned (.agg #[.int .i64 c,.slice none 0 0,.int .i64 0,.slice none 0 0])/\xk w.heap.size w w':=by
 go_enter Tryz.func71,Tryz.ntmps71;go_wp2_with fail;refine xh (v:= .agg #[.int .i64 c,.slice none 0 0,.int .i64 0,.slice none 0 0]) (by simp [results,Tryz.results71,go_sem]) rfl ⟨rfl,(qL _ _).alloc (oP _) _⟩
def Pl.rE(x:Pl.Ac):Int:=if¬(0<=x.b/\x.b<=11)\/x.n<1\/1000<x.n then 2 else if x.a=x.b then 4 else 0
def Pl.tX(L:Nat->Nat->Int)(x:Pl.Ac):Nat->Nat->Int:=if rE x=0 then Pl.line L x.a.toNat x.b.toNat x.n else L
theorem YD(B:Nat)(D:Nat->Bool)(P K T:Nat->rU)(L:Nat->Nat->Int)(x:Pl.Ac)(w:oC)(h:fG w B D P K T L)(ha:0<=x.a/\x.a<=11):
  Jj qh 110 #[.pointer (some ⟨B,0,none⟩),.agg #[.int .i64 x.kind,.int .i64 x.a,.int .i64 x.b,.int .i64 x.n,.int .i64 x.m,.int .i64 x.p.1,.int .i64 x.p.2,.string x.key,.string x.val]] w fun e w'=>
   e= .returned (.agg #[.int .i64 (rE x),.slice none 0 0,.int .i64 0,.slice none 0 0])/\fG w' B D P K T (tX L x)/\aI B w w':=by
 have N:=ae h;have an:=h.lt;clear h;obtain⟨kind,a,b,n,m,⟨p1,p2⟩,key,val⟩:=x;simp only at ha⊢;obtain⟨a,rfl⟩:∃k:Nat,a=k:=⟨a.toNat,by omega⟩
 have H2:=ae (two (w:=w) (.cells #[.int .i64 kind,.int .i64 (a:Int),.int .i64 b,.int .i64 n,.int .i64 m,.int .i64 p1,.int .i64 p2,.string key,.string val] 51) (.cells #[.int .i64 0,.slice none 0 0,.int .i64 0,.slice none 0 0] 40));obtain⟨C,X⟩:=ai (rE ⟨kind,(a:Int),b,n,m,(p1,p2),key,val⟩);obtain⟨LL,Xz⟩:=ai (tX L ⟨kind,(a:Int),b,n,m,(p1,p2),key,val⟩);have F:Eb (LL=if C=0 then Pl.line L a b.toNat n else L):=ae (by rw [<-Xz.out];unfold tX;rw [X.out];rfl);rw [X.out,Xz.out];have G:Eb (C=if¬(0<=b/\b<=11)\/n<1\/1000<n then 2 else if(a:Int)=b then 4 else 0):=ae X.out.symm;have S:=ae (fun(c:Int) (W:oC)=>fJ c W)
 have U:Eb (∀W:oC,xk (w.heap.size+2) ((w.alloc (.cells #[.int .i64 kind,.int .i64 (a:Int),.int .i64 b,.int .i64 n,.int .i64 m,.int .i64 p1,.int .i64 p2,.string key,.string val] 51)).alloc (.cells #[.int .i64 0,.slice none 0 0,.int .i64 0,.slice none 0 0] 40)) W->W.heap[w.heap.size+1]? =some (.cells #[.int .i64 0,.slice none 0 0,.int .i64 0,.slice none 0 0] 40)/\xk w.heap.size w W):=ae fun W V=>by
  obtain⟨_,h2,h3,h4⟩:=H2.out;exact⟨(V.block _ (by omega)).trans h2,h4.trans (V.mono (by omega))⟩
 by_cases Y:0<=b/\b<=11
 ·have E:decide (0<=b/\b<=11)=true:=by simpa using Y
  by_cases y:n<1
  ·have J:decide (n<1)=true:=by simpa using y
   have l:Eb (C=2):=ae (by rw [G.out];rw [af (by omega)]);clear y;go_enter Tryz.func110,Tryz.ntmps110;go_wp2_with (go_at_call 72;refine(aZ _ _).mono ?_;rw [E];rintro e w' ⟨rfl,f⟩;rw [f];clear f w');refine(S.out 2 _).mono ?_;rintro e w3 ⟨rfl,j⟩;obtain⟨g,i⟩:=U.out w3 (by simpa using j);obtain⟨⟨t,s,r,q⟩,R,Q⟩:=aS g;have A:=ae i;clear j g i;go_wp2_with fail;have hle:w.heap.size<=w.heap.size+1:=by omega
   have d:=(((A.out.setCell (p:=⟨w.heap.size+1,0,none⟩) hle (.int .i64 2)).setCell (p:=⟨w.heap.size+1,1,none⟩) hle (.slice none 0 0)).setCell (p:=⟨w.heap.size+1,2,none⟩) hle (.int .i64 0)).setCell (p:=⟨w.heap.size+1,3,none⟩) hle (.slice none 0 0);refine xh (v:= .agg #[.int .i64 2,.slice none 0 0,.int .i64 0,.slice none 0 0]) (by simp [results,Tryz.results110,go_sem,t,s,r,q]) rfl ⟨by rw [l.out],?_,aI.of d⟩;rw [F.out,l.out,ag (by decide)];exact N.out.below d
  ·have J:decide (n<1)=false:=by simpa using y
   by_cases u:1000<n
   ·have Z:decide (1000<n)=true:=by simpa using u
    have l:Eb (C=2):=ae (by rw [G.out];rw [af (by omega)]);clear u;go_enter Tryz.func110,Tryz.ntmps110;go_wp2_with (go_at_call 72;refine(aZ _ _).mono ?_;rw [E];rintro e w' ⟨rfl,f⟩;rw [f];clear f w');refine(S.out 2 _).mono ?_;rintro e w3 ⟨rfl,j⟩;obtain⟨g,i⟩:=U.out w3 (by simpa using j);obtain⟨⟨t,s,r,q⟩,R,Q⟩:=aS g;have A:=ae i;clear j g i;go_wp2_with fail;have hle:w.heap.size<=w.heap.size+1:=by omega
    have d:=(((A.out.setCell (p:=⟨w.heap.size+1,0,none⟩) hle (.int .i64 2)).setCell (p:=⟨w.heap.size+1,1,none⟩) hle (.slice none 0 0)).setCell (p:=⟨w.heap.size+1,2,none⟩) hle (.int .i64 0)).setCell (p:=⟨w.heap.size+1,3,none⟩) hle (.slice none 0 0);refine xh (v:= .agg #[.int .i64 2,.slice none 0 0,.int .i64 0,.slice none 0 0]) (by simp [results,Tryz.results110,go_sem,t,s,r,q]) rfl ⟨by rw [l.out],?_,aI.of d⟩;rw [F.out,l.out,ag (by decide)];exact N.out.below d
   ·have Z:decide (1000<n)=false:=by simpa using u
    by_cases o:(a:Int)=b
    ·have M:((a:Int)==b)=true:=by simpa using o
     have l:Eb (C=4):=ae (by rw [G.out];rw [ag (by omega),af o]);clear o;go_enter Tryz.func110,Tryz.ntmps110;go_wp2_with (go_at_call 72;refine(aZ _ _).mono ?_;rw [E];rintro e w' ⟨rfl,f⟩;rw [f];clear f w');refine(S.out 4 _).mono ?_;rintro e w3 ⟨rfl,j⟩;obtain⟨g,i⟩:=U.out w3 (by simpa using j);obtain⟨⟨t,s,r,q⟩,R,Q⟩:=aS g;have A:=ae i;clear j g i;go_wp2_with fail;have hle:w.heap.size<=w.heap.size+1:=by omega
     have d:=(((A.out.setCell (p:=⟨w.heap.size+1,0,none⟩) hle (.int .i64 4)).setCell (p:=⟨w.heap.size+1,1,none⟩) hle (.slice none 0 0)).setCell (p:=⟨w.heap.size+1,2,none⟩) hle (.int .i64 0)).setCell (p:=⟨w.heap.size+1,3,none⟩) hle (.slice none 0 0);refine xh (v:= .agg #[.int .i64 4,.slice none 0 0,.int .i64 0,.slice none 0 0]) (by simp [results,Tryz.results110,go_sem,t,s,r,q]) rfl ⟨by rw [l.out],?_,aI.of d⟩;rw [F.out,l.out,ag (by decide)];exact N.out.below d
    ·have M:((a:Int)==b)=false:=by simpa using o
     have Na:Eb (C=0):=ae (by rw [G.out,ag (by omega),ag o]);obtain⟨b,rfl⟩:∃k:Nat,b=k:=⟨b.toNat,by omega⟩
     have ad:=ae (fun W V=>Gl B D P K T L a b n W V (by omega) (by omega));obtain⟨b0,b1,bz,bb⟩:=H2.out;have O:=ae bb;have nH:=ae b1;have ak:=bz;clear b0 b1 bz bb o y u;go_enter Tryz.func110,Tryz.ntmps110;go_wp2_with (go_at_call 72;refine(aZ _ _).mono ?_;rw [E];rintro e w' ⟨rfl,f⟩;rw [f];clear f w');refine(ad.out _ (N.out.below O.out)).mono ?_;rintro e w3 ⟨rfl,I,z⟩;have pW:=ae I;have aa:=ae z;obtain⟨⟨t,s,r,q⟩,R,Q⟩:=aS ((z.block _ (by omega) (by omega)).trans nH.out);clear I z;go_wp2_with fail;have H:=(((((aI.refl (w.heap.size+1) w3).setCell 0 (.int .i64 0)).setCell 1 (.slice none 0 0)).setCell 2 (.int .i64 0)).setCell 3 (.slice none 0 0))
     refine xh (v:= .agg #[.int .i64 0,.slice none 0 0,.int .i64 0,.slice none 0 0]) (by simp [results,Tryz.results110,go_sem,t,s,r,q]) rfl ⟨by rw [Na.out],?_,?_⟩
     ·rw [F.out,Na.out,af rfl,Jk];exact aj.but pW.out H (by omega)
     ·exact((aI.of O.out).trans aa.out).over H (by omega)
 ·have E:decide (0<=b/\b<=11)=false:=by simpa using Y
  have l:Eb (C=2):=ae (by rw [G.out];rw [af (by omega)]);clear Y;go_enter Tryz.func110,Tryz.ntmps110;go_wp2_with (go_at_call 72;refine(aZ _ _).mono ?_;rw [E];rintro e w' ⟨rfl,f⟩;rw [f];clear f w');refine(S.out 2 _).mono ?_;rintro e w3 ⟨rfl,j⟩;obtain⟨g,i⟩:=U.out w3 (by simpa using j);obtain⟨⟨t,s,r,q⟩,R,Q⟩:=aS g;have A:=ae i;clear j g i;go_wp2_with fail;have hle:w.heap.size<=w.heap.size+1:=by omega
  have d:=(((A.out.setCell (p:=⟨w.heap.size+1,0,none⟩) hle (.int .i64 2)).setCell (p:=⟨w.heap.size+1,1,none⟩) hle (.slice none 0 0)).setCell (p:=⟨w.heap.size+1,2,none⟩) hle (.int .i64 0)).setCell (p:=⟨w.heap.size+1,3,none⟩) hle (.slice none 0 0);refine xh (v:= .agg #[.int .i64 2,.slice none 0 0,.int .i64 0,.slice none 0 0]) (by simp [results,Tryz.results110,go_sem,t,s,r,q]) rfl ⟨by rw [l.out],?_,aI.of d⟩;rw [F.out,l.out,ag (by decide)];exact N.out.below d
def Pl.rJ(L:Nat->Nat->Int)(x:Pl.Ac):Int:=if¬(0<=x.b/\x.b<=11)then 2 else if x.a=x.b then 4 else if L x.a.toNat x.b.toNat=0 then 6 else 0
def Pl.uo(L:Nat->Nat->Int)(x:Pl.Ac):Nat->Nat->Int:=if rJ L x=0 then Pl.line L x.a.toNat x.b.toNat 0 else L
def Pl.oG(x:Pl.Ac):Int:=if x.n=0\/x.n=1 then 0 else 2
def Pl.sQ(D:Nat->Bool)(x:Pl.Ac):Nat->Bool:=if oG x=0 then cZ D x.a.toNat (x.n==1)else D
theorem QU(B:Nat)(D:Nat->Bool)(P K T:Nat->rU)(L:Nat->Nat->Int)(x:Pl.Ac)(w:oC)(h:fG w B D P K T L)(ha:0<=x.a/\x.a<=11):
  Jj qh 111 #[.pointer (some ⟨B,0,none⟩),.agg #[.int .i64 x.kind,.int .i64 x.a,.int .i64 x.b,.int .i64 x.n,.int .i64 x.m,.int .i64 x.p.1,.int .i64 x.p.2,.string x.key,.string x.val]] w fun e w'=>
   e= .returned (.agg #[.int .i64 (rJ L x),.slice none 0 0,.int .i64 0,.slice none 0 0])/\fG w' B D P K T (uo L x)/\aI B w w':=by
 have U:=ae h;have ar:=h.lt;clear h;obtain⟨kind,a,b,n,m,⟨p1,p2⟩,key,val⟩:=x;simp only at ha⊢;obtain⟨a,rfl⟩:∃k:Nat,a=k:=⟨a.toNat,by omega⟩
 have H2:=ae (two (w:=w) (.cells #[.int .i64 kind,.int .i64 (a:Int),.int .i64 b,.int .i64 n,.int .i64 m,.int .i64 p1,.int .i64 p2,.string key,.string val] 51) (.cells #[.int .i64 0,.slice none 0 0,.int .i64 0,.slice none 0 0] 40));obtain⟨E,jC⟩:=ai (rJ L ⟨kind,(a:Int),b,n,m,(p1,p2),key,val⟩);obtain⟨LL,Xz⟩:=ai (uo L ⟨kind,(a:Int),b,n,m,(p1,p2),key,val⟩);have G:Eb (LL=if E=0 then Pl.line L a b.toNat 0 else L):=ae (by rw [<-Xz.out];unfold uo;rw [jC.out];rfl);rw [jC.out,Xz.out];have C:Eb (E=if¬(0<=b/\b<=11)then 2 else if(a:Int)=b then 4 else if L a b.toNat=0 then 6 else 0):=ae jC.out.symm;have Y:=ae (fun(c:Int) (W:oC)=>fJ c W)
 have Z:Eb (∀W:oC,xk (w.heap.size+2) ((w.alloc (.cells #[.int .i64 kind,.int .i64 (a:Int),.int .i64 b,.int .i64 n,.int .i64 m,.int .i64 p1,.int .i64 p2,.string key,.string val] 51)).alloc (.cells #[.int .i64 0,.slice none 0 0,.int .i64 0,.slice none 0 0] 40)) W->W.heap[w.heap.size+1]? =some (.cells #[.int .i64 0,.slice none 0 0,.int .i64 0,.slice none 0 0] 40)/\xk w.heap.size w W):=ae fun W S=>by
  obtain⟨_,h2,h3,h4⟩:=H2.out;exact⟨(S.block _ (by omega)).trans h2,h4.trans (S.mono (by omega))⟩
 by_cases R:0<=b/\b<=11
 ·have F:decide (0<=b/\b<=11)=true:=by simpa using R
  by_cases o:(a:Int)=b
  ·have M:((a:Int)==b)=true:=by simpa using o
   have q:Eb (E=4):=ae (by rw [C.out];rw [ag (by omega),af o]);clear o;go_enter Tryz.func111,Tryz.ntmps111;go_wp2_with (go_at_call 72;refine(aZ _ _).mono ?_;rw [F];rintro e w' ⟨rfl,f⟩;rw [f];clear f w');refine(Y.out 4 _).mono ?_;rintro e w3 ⟨rfl,j⟩;obtain⟨g,i⟩:=Z.out w3 (by simpa using j);obtain⟨⟨y,u,t,s⟩,X,V⟩:=aS g;have N:=ae i;clear j g i;go_wp2_with fail;have hle:w.heap.size<=w.heap.size+1:=by omega
   have d:=(((N.out.setCell (p:=⟨w.heap.size+1,0,none⟩) hle (.int .i64 4)).setCell (p:=⟨w.heap.size+1,1,none⟩) hle (.slice none 0 0)).setCell (p:=⟨w.heap.size+1,2,none⟩) hle (.int .i64 0)).setCell (p:=⟨w.heap.size+1,3,none⟩) hle (.slice none 0 0);refine xh (v:= .agg #[.int .i64 4,.slice none 0 0,.int .i64 0,.slice none 0 0]) (by simp [results,Tryz.results111,go_sem,y,u,t,s]) rfl ⟨by rw [q.out],?_,aI.of d⟩;rw [G.out,q.out,ag (by decide)];exact U.out.below d
  ·have M:((a:Int)==b)=false:=by simpa using o
   obtain⟨b,rfl⟩:∃k:Nat,b=k:=⟨b.toNat,by omega⟩
   rw [Jk]at C G;obtain⟨b0,b1,bz,bb⟩:=H2.out;have A:=ae bb;have nH:=ae b1;have aa:=bz;have Q:=ae (U.out.below A.out);have cl:=Q.out.line a b (by omega) (by omega);have aq:(a:Int)<12:=by omega
   have an:(b:Int)<12:=by omega
   obtain⟨q0,q1,q2,q3,q4,q5,q6,q7,q8⟩:=kz b0;have OT:=Q.out.lt;obtain⟨l,hl⟩:∃l,L a b=l:=⟨_,rfl⟩
   rw [hl]at cl C;by_cases r:l=0
   ·have J:(l==0)=true:=by simpa using r
    have q:Eb (E=6):=ae (by rw [C.out];rw [ag (by omega),ag o,af r]);clear o r hl;go_enter Tryz.func111,Tryz.ntmps111;go_wp2_with (go_at_call 72;refine(aZ _ _).mono ?_;rw [F];rintro e w' ⟨rfl,f⟩;rw [f];clear f w');go_region
    go_wp2_with fail;refine(Y.out 6 _).mono ?_;rintro e w3 ⟨rfl,j⟩;obtain⟨g,i⟩:=Z.out w3 ((qL _ _).drew.trans (by simpa using j));obtain⟨⟨y,u,t,s⟩,X,V⟩:=aS g;have N:=ae i;clear j g i;go_wp2_with fail;have hle:w.heap.size<=w.heap.size+1:=by omega
    have d:=(((N.out.setCell (p:=⟨w.heap.size+1,0,none⟩) hle (.int .i64 6)).setCell (p:=⟨w.heap.size+1,1,none⟩) hle (.slice none 0 0)).setCell (p:=⟨w.heap.size+1,2,none⟩) hle (.int .i64 0)).setCell (p:=⟨w.heap.size+1,3,none⟩) hle (.slice none 0 0);refine xh (v:= .agg #[.int .i64 6,.slice none 0 0,.int .i64 0,.slice none 0 0]) (by simp [results,Tryz.results111,go_sem,y,u,t,s]) rfl ⟨by rw [q.out],?_,aI.of d⟩;rw [G.out,q.out,ag (by decide)];exact U.out.below d
   ·have J:(l==0)=false:=by simpa using r
    have Na:Eb (E=0):=ae (by rw [C.out,ag (by omega),ag o,ag r]);have ak:=ae (fun W S=>Gl B D P K T L a b 0 W S (by omega) (by omega));clear o r hl;obtain⟨W2,O⟩:=aV ((w.alloc (.cells #[.int .i64 kind,.int .i64 (a:Int),.int .i64 (b:Int),.int .i64 n,.int .i64 m,.int .i64 p1,.int .i64 p2,.string key,.string val] 51)).alloc (.cells #[.int .i64 0,.slice none 0 0,.int .i64 0,.slice none 0 0] 40));rw [<-O.out]at A nH aa Q cl q0 q1 q2 q3 q4 q5 q6 q7 q8 OT;go_enter Tryz.func111,Tryz.ntmps111;go_wp2_with (go_at_call 72;refine(aZ _ _).mono ?_;rw [F];rintro e w' ⟨rfl,f⟩;rw [f];clear f w');rw [<-O.out];go_region
    go_wp2_with fail;refine(ak.out _ (Q.out.below (qL _ _).drew)).mono ?_;rintro e w3 ⟨rfl,I,z⟩;have pW:=ae I;have ad:=ae z;obtain⟨⟨y,u,t,s⟩,X,V⟩:=aS ((z.block (w.heap.size+1) (by show _<W2.heap.size;omega) (by omega)).trans nH.out);clear I z;go_wp2_with fail;have H:=(((((aI.refl (w.heap.size+1) w3).setCell 0 (.int .i64 0)).setCell 1 (.slice none 0 0)).setCell 2 (.int .i64 0)).setCell 3 (.slice none 0 0))
    refine xh (v:= .agg #[.int .i64 0,.slice none 0 0,.int .i64 0,.slice none 0 0]) (by simp [results,Tryz.results111,go_sem,y,u,t,s]) rfl ⟨by rw [Na.out],?_,?_⟩
    ·rw [G.out,Na.out,af rfl];exact aj.but pW.out H (by omega)
    ·exact(((aI.of A.out).drawn 1).trans ad.out).over H (by omega)
 ·have F:decide (0<=b/\b<=11)=false:=by simpa using R
  have q:Eb (E=2):=ae (by rw [C.out];rw [af R]);clear R;go_enter Tryz.func111,Tryz.ntmps111;go_wp2_with (go_at_call 72;refine(aZ _ _).mono ?_;rw [F];rintro e w' ⟨rfl,f⟩;rw [f];clear f w');refine(Y.out 2 _).mono ?_;rintro e w3 ⟨rfl,j⟩;obtain⟨g,i⟩:=Z.out w3 (by simpa using j);obtain⟨⟨y,u,t,s⟩,X,V⟩:=aS g;have N:=ae i;clear j g i;go_wp2_with fail;have hle:w.heap.size<=w.heap.size+1:=by omega
  have d:=(((N.out.setCell (p:=⟨w.heap.size+1,0,none⟩) hle (.int .i64 2)).setCell (p:=⟨w.heap.size+1,1,none⟩) hle (.slice none 0 0)).setCell (p:=⟨w.heap.size+1,2,none⟩) hle (.int .i64 0)).setCell (p:=⟨w.heap.size+1,3,none⟩) hle (.slice none 0 0);refine xh (v:= .agg #[.int .i64 2,.slice none 0 0,.int .i64 0,.slice none 0 0]) (by simp [results,Tryz.results111,go_sem,y,u,t,s]) rfl ⟨by rw [q.out],?_,aI.of d⟩;rw [G.out,q.out,ag (by decide)];exact U.out.below d
theorem Lr(B:Nat)(D:Nat->Bool)(P K T:Nat->rU)(L:Nat->Nat->Int)(x:Pl.Ac)(w:oC)(h:fG w B D P K T L)(ha:0<=x.a/\x.a<=11):
  Jj qh 112 #[.pointer (some ⟨B,0,none⟩),.agg #[.int .i64 x.kind,.int .i64 x.a,.int .i64 x.b,.int .i64 x.n,.int .i64 x.m,.int .i64 x.p.1,.int .i64 x.p.2,.string x.key,.string x.val]] w fun e w'=>
   e= .returned (.agg #[.int .i64 (oG x),.slice none 0 0,.int .i64 0,.slice none 0 0])/\fG w' B (sQ D x) P K T L/\aI B w w':=by
 have U:=ae h;have an:=h.lt;clear h;obtain⟨kind,a,b,n,m,⟨p1,p2⟩,key,val⟩:=x;simp only at ha⊢;obtain⟨a,rfl⟩:∃k:Nat,a=k:=⟨a.toNat,by omega⟩
 have V:=ae (two (w:=w) (.cells #[.int .i64 kind,.int .i64 (a:Int),.int .i64 b,.int .i64 n,.int .i64 m,.int .i64 p1,.int .i64 p2,.string key,.string val] 51) (.cells #[.int .i64 0,.slice none 0 0,.int .i64 0,.slice none 0 0] 40));obtain⟨t,C⟩:=ai (oG ⟨kind,(a:Int),b,n,m,(p1,p2),key,val⟩);obtain⟨DD,R⟩:=ai (sQ D ⟨kind,(a:Int),b,n,m,(p1,p2),key,val⟩);have H:Eb (DD=if t=0 then cZ D a (n==1)else D):=ae (by rw [<-R.out];unfold sQ;rw [C.out];rfl);rw [C.out,R.out];have I:Eb (t=if n=0\/n=1 then 0 else 2):=ae C.out.symm;have Z:=ae (fun(c:Int) (W:oC)=>fJ c W)
 have pF:Eb (∀W:oC,xk (w.heap.size+2) ((w.alloc (.cells #[.int .i64 kind,.int .i64 (a:Int),.int .i64 b,.int .i64 n,.int .i64 m,.int .i64 p1,.int .i64 p2,.string key,.string val] 51)).alloc (.cells #[.int .i64 0,.slice none 0 0,.int .i64 0,.slice none 0 0] 40)) W->W.heap[w.heap.size+1]? =some (.cells #[.int .i64 0,.slice none 0 0,.int .i64 0,.slice none 0 0] 40)/\xk w.heap.size w W):=ae fun W N=>by
  obtain⟨_,h2,h3,h4⟩:=V.out;exact⟨(N.block _ (by omega)).trans h2,h4.trans (N.mono (by omega))⟩
 by_cases s:n=0\/n=1
 ·have S:Eb (t=0):=ae (by rw [I.out,af s]);obtain⟨b0,b1,O,Q⟩:=V.out;have f:=ae Q;have J:=ae b1;have E:=O;have g:=ae (U.out.below f.out);have cl:=g.out.yB a (by omega);have fl:=g.out.soft (a*4);have OT:=g.out.lt;have ak:(a:Int)<12:=by omega
  obtain⟨q0,q1,q2,q3,q4,q5,q6,q7,q8⟩:=kz b0;obtain⟨W2,q⟩:=aV ((w.alloc (.cells #[.int .i64 kind,.int .i64 (a:Int),.int .i64 b,.int .i64 n,.int .i64 m,.int .i64 p1,.int .i64 p2,.string key,.string val] 51)).alloc (.cells #[.int .i64 0,.slice none 0 0,.int .i64 0,.slice none 0 0] 40));rw [<-q.out]at f J E g cl fl q0 q1 q2 q3 q4 q5 q6 q7 q8 OT;clear b0 b1 O Q;obtain⟨⟨A,z,y,u⟩,Y,X⟩:=aS J.out;have i:B≠w.heap.size+1:=by omega
  have M:w.heap.size+1≠B:=by omega
  have G:=ae (fun v=>(g.out.Qw a v).resolve_right (by omega));have F:=ae (aI.of f.out:aI B w W2);rcases s with rfl|rfl
  all_goals
   go_enter Tryz.func112,Tryz.ntmps112;go_wp2_with fail;rw [<-q.out];go_region
   go_wp2_with fail;refine xh (v:= .agg #[.int .i64 0,.slice none 0 0,.int .i64 0,.slice none 0 0]) (by simp [results,Tryz.results112,go_sem,A,z,y,u]) rfl ⟨by rw [S.out],?_,?_⟩
   ·rw [H.out,S.out,af rfl];exact aj.but (G.out _) ((((((aI.refl (w.heap.size+1) _).setCell _ _).setCell _ _).setCell _ _).setCell _ _).drawn 1) i
   ·exact(F.out.setCell _ _).over ((((((aI.refl (w.heap.size+1) _).setCell _ _).setCell _ _).setCell _ _).setCell _ _).drawn 1) (by omega)
 ·have ad:(n != 0)=true:=by simp;omega
  have aa:(n != 1)=true:=by simp;omega
  have r:Eb (t=2):=ae (by rw [I.out];rw [ag s]);clear s;go_enter Tryz.func112,Tryz.ntmps112;go_wp2_with fail;refine(Z.out 2 _).mono ?_;rintro e w3 ⟨rfl,o⟩;obtain⟨j,l⟩:=pF.out w3 (by simpa using o);obtain⟨⟨A,z,y,u⟩,Y,X⟩:=aS j;have eH:=ae l;clear o j l;go_wp2_with fail;have hle:w.heap.size<=w.heap.size+1:=by omega
  have d:=(((eH.out.setCell (p:=⟨w.heap.size+1,0,none⟩) hle (.int .i64 2)).setCell (p:=⟨w.heap.size+1,1,none⟩) hle (.slice none 0 0)).setCell (p:=⟨w.heap.size+1,2,none⟩) hle (.int .i64 0)).setCell (p:=⟨w.heap.size+1,3,none⟩) hle (.slice none 0 0);refine xh (v:= .agg #[.int .i64 2,.slice none 0 0,.int .i64 0,.slice none 0 0]) (by simp [results,Tryz.results112,go_sem,A,z,y,u]) rfl ⟨by rw [r.out],?_,aI.of d⟩;rw [H.out,r.out,ag (by decide)];exact U.out.below d
theorem fG.qY{w B D P K T L}(h:fG w B D P K T L)(a:Nat)(ha:a<12)(v:rU):fG (w.setCell ⟨B,a*4+1,none⟩ v) B D (cZ P a v) K T L:=by
 refine(aj.set h _ _).ext fun o c=> ?_;unfold cZ gG;by_cases b:o=a*4+1
 ·subst b;rw [af rfl,af (by omega),ag (by omega),af (by omega)];simp only;rw [af (by omega)]
 ·rw [ag b];by_cases h0:o<48
  ·rw [af h0,af h0];by_cases g0:o%4=0
   ·rw [af g0,af g0]
   ·rw [ag g0,ag g0];by_cases g1:o%4=1
    ·rw [af g1,af g1];simp only;rw [ag (by omega)]
    ·rw [ag g1,ag g1]
  ·rw [ag h0,ag h0]
theorem fG.wG{w B D P K T L}(h:fG w B D P K T L)(a:Nat)(ha:a<12)(v:rU):fG (w.setCell ⟨B,a*4+2,none⟩ v) B D P (cZ K a v) T L:=by
 refine(aj.set h _ _).ext fun o c=> ?_;unfold cZ gG;by_cases b:o=a*4+2
 ·subst b;rw [af rfl,af (by omega),ag (by omega),ag (by omega),af (by omega)];simp only;rw [af (by omega)]
 ·rw [ag b];by_cases h0:o<48
  ·rw [af h0,af h0];by_cases g0:o%4=0
   ·rw [af g0,af g0]
   ·rw [ag g0,ag g0];by_cases g1:o%4=1
    ·rw [af g1,af g1]
    ·rw [ag g1,ag g1];by_cases g2:o%4=2
     ·rw [af g2,af g2];simp only;rw [ag (by omega)]
     ·rw [ag g2,ag g2]
  ·rw [ag h0,ag h0]
theorem fG.setTable{w B D P K T L}(h:fG w B D P K T L)(a:Nat)(ha:a<12)(v:rU):fG (w.setCell ⟨B,a*4+3,none⟩ v) B D P K (cZ T a v) L:=by
 refine(aj.set h _ _).ext fun o c=> ?_;unfold cZ gG;by_cases b:o=a*4+3
 ·subst b;rw [af rfl,af (by omega),ag (by omega),ag (by omega),ag (by omega)];simp only;rw [af (by omega)]
 ·rw [ag b];by_cases h0:o<48
  ·rw [af h0,af h0];by_cases g0:o%4=0
   ·rw [af g0,af g0]
   ·rw [ag g0,ag g0];by_cases g1:o%4=1
    ·rw [af g1,af g1]
    ·rw [ag g1,ag g1];by_cases g2:o%4=2
     ·rw [af g2,af g2]
     ·rw [ag g2,ag g2];simp only;rw [ag (by omega)]
  ·rw [ag h0,ag h0]
theorem Nz{w:oC}{b off i cap:Nat}{es:List aK}{c:Addr}(d:dN w b off es)(hl:es.length<=cap)(h:(if cap=i then some (⟨b,off,none⟩:Addr)else some ⟨b,off+i*4,none⟩)=some c):
  ∀j u,(cellsL (es.drop i))[j]? =some u->w.cell? (c.add j)=some u:=by
 intro j u a;split at h
 ·rw [List.drop_eq_nil_of_le (by omega)]at a;simp [cellsL]at a
 ·cases h;rw [bD];exact(kY _ _).1 (d.drop i) j u a
theorem Uc(w:oC)(A C:Obj)(e:aK):Own (((w.alloc A).alloc (.cells #[.string e.key,.int .i64 e.gz,.int .i64 e.org,.string e.val] 55)).alloc C) w.heap.size (.slice (some ⟨w.heap.size+1,0,none⟩) 1 1) [e]:=by
 refine⟨rfl,.inr ⟨w.heap.size+1,1,#[.string e.key,.int .i64 e.gz,.int .i64 e.org,.string e.val],rfl,by omega,?_,oP _,by unfold xx;omega,rfl,rfl⟩⟩;rw [Tf _ _ _ (by simp)];have:=wY (w.alloc A) (.cells #[.string e.key,.int .i64 e.gz,.int .i64 e.org,.string e.val] 55);simpa using this
theorem iZ{B:Nat}{a w w':oC}{row:Option Nat}(h:xk B a w)(c:w.grownBy w' row)(d:B<=w.heap.size)(b:∀k,row=some k->B<=k):xk B a w':=h.grown c d b
theorem YG(b off len cap:Nat)(es:List aK)(i:Nat)(ins:Bool)(x:aK)(w:oC)(h:bI w (some ⟨b,off,none⟩) len cap es)(y:b<w.heap.size)(J:dN w b off es)(an:len<=60)(hi:i<=len)(H:ins=true->i<len):
  Jj qh 89 #[.slice (some ⟨b,off,none⟩) len cap,.int .i64 i,.bool ins,.agg #[.string x.key,.int .i64 x.gz,.int .i64 x.org,.string x.val]] w
   fun e w'=>∃v,e= .returned v/\Own w' w.heap.size v (LD es i ins x)/\xk w.heap.size w w':=by
 obtain⟨hl,hc,hm,Z,_⟩:=h;unfold xx at hm;have R:Eb (LD es i ins x=es.take i++([x]++es.drop (if ins then i+1 else i))):=rfl;have K:Eb (gI x=cellsL [x]):=rfl;generalize LD es i ins x=ll at*;obtain⟨O,M,N,L⟩:=x;simp only;obtain⟨i0,l,F,g,E⟩:=Tn DR;have ak:(i:Int)<=(len:Int):=by omega
 have G:(es.take i).length=i:=by simp;omega
 have I:xk w.heap.size w (w.alloc (.cells #[.string O,.int .i64 M,.int .i64 N,.string L] 55)):=(qL _ _).alloc (oP _) _;have D:Eb _:=I;clear I
 cases ins
 ·go_enter Tryz.func89,Tryz.ntmps89;go_wp2_with (first
   |(at_make;refine aaB _ rfl _ (.tmp 12) 28 rfl w.heap.size 55 i0 _ 4 xn l F g .i64 .i64 _ (len+1) rfl rfl (by simp) (by rw [E];omega) (by unfold xx;omega) (by simp) ?_;intro Y d t;have p:=iZ ((qL (w.heap.size+1) _)) t (by simp) (by intro k n;cases n);simp only [O6]at d;clear t;have A:=J.below y (D.out.trans (p.mono (by omega))))
   |(at_builtin;(refine OE _ rfl (.tmp 14) (.tmp 17) 28 rfl w.heap.size 55 i0 4 xn l g (w.heap.size+1) 0 (len+1) [] rfl d _ i cap (cellsL (es.take i)) rfl (by rw [kS,G]) (by intro hh;cases hh) (by intro P hh j u B;cases hh;rw [bD];exact(kY _ _).1 (A.take i) j u B) (jc _) (by omega) ?_);intro w3 c s;have f:=iZ p s (by have:=p.size;simp at this;omega) (by intro k n;cases n;omega);clear s;simp only [aaw,Qi]at c;obtain⟨V,U,T,S⟩:=O9 f)
   |(at_builtin;(refine aaq _ rfl (.tmp 19) (.tmp 21) 28 rfl w.heap.size 55 i0 4 xn l g (w.heap.size+1) i (len+1) (cellsL (es.take i)) rfl (c.alloc _) ⟨w3.heap.size,0,none⟩ 1 1 (gI ⟨O,M,N,L⟩) rfl rfl (by intro j u B;rw [bD];exact adv w3 B) (by rw [K.out];exact jc _) (by omega) ?_);intro X a r;have o:=iZ (f.alloc (by have:=f.size;simpa using this) _) r (by have:=f.size;simp at this⊢;omega) (by intro k n;cases n;omega);clear r;rw [K.out,<-jr]at a;have z:=J.below y (D.out.trans (o.mono (by omega))))
   |(at_builtin;(refine OE _ rfl (.tmp 26) (.tmp 29) 28 rfl w.heap.size 55 i0 4 xn l g (w.heap.size+1) (i+1) (len+1) _ rfl a _ _ _ (cellsL (es.drop i)) rfl (by rw [kS,LM,hl]) (by intro hh;split at hh<;>cases hh) (by intro P hh;exact Nz z (by omega) hh) (jc _) (by omega) ?_);intro W m q;have C:=iZ o q (by have:=o.size;simp at this⊢;omega) (by intro k n;cases n;omega);clear q))
  all_goals (go_ret;exact⟨_,rfl,Lh m (by rw [R.out];simp [jr,cellsL]),D.out.trans (C.mono (by omega))⟩)
 ·have aa:=H rfl;have Q:(i:Int)+1<=(len:Int):=by omega
  go_enter Tryz.func89,Tryz.ntmps89;go_wp2_with (first
   |(at_make;refine aaB _ rfl _ (.tmp 12) 28 rfl w.heap.size 55 i0 _ 4 xn l F g .i64 .i64 _ (len+1) rfl rfl (by simp) (by rw [E];omega) (by unfold xx;omega) (by simp) ?_;intro Y d t;have p:=iZ ((qL (w.heap.size+1) _)) t (by simp) (by intro k n;cases n);simp only [O6]at d;clear t;have A:=J.below y (D.out.trans (p.mono (by omega))))
   |(at_builtin;(refine OE _ rfl (.tmp 14) (.tmp 17) 28 rfl w.heap.size 55 i0 4 xn l g (w.heap.size+1) 0 (len+1) [] rfl d _ i cap (cellsL (es.take i)) rfl (by rw [kS,G]) (by intro hh;cases hh) (by intro P hh j u B;cases hh;rw [bD];exact(kY _ _).1 (A.take i) j u B) (jc _) (by omega) ?_);intro w3 c s;have f:=iZ p s (by have:=p.size;simp at this;omega) (by intro k n;cases n;omega);clear s;simp only [aaw,Qi]at c;obtain⟨V,U,T,S⟩:=O9 f)
   |(at_builtin;(refine aaq _ rfl (.tmp 19) (.tmp 21) 28 rfl w.heap.size 55 i0 4 xn l g (w.heap.size+1) i (len+1) (cellsL (es.take i)) rfl (c.alloc _) ⟨w3.heap.size,0,none⟩ 1 1 (gI ⟨O,M,N,L⟩) rfl rfl (by intro j u B;rw [bD];exact adv w3 B) (by rw [K.out];exact jc _) (by omega) ?_);intro X a r;have o:=iZ (f.alloc (by have:=f.size;simpa using this) _) r (by have:=f.size;simp at this⊢;omega) (by intro k n;cases n;omega);clear r;rw [K.out,<-jr]at a;have z:=J.below y (D.out.trans (o.mono (by omega))))
   |(at_builtin;(refine OE _ rfl (.tmp 26) (.tmp 29) 28 rfl w.heap.size 55 i0 4 xn l g (w.heap.size+1) (i+1) (len+1) _ rfl a _ _ _ (cellsL (es.drop (i+1))) rfl (by rw [kS,LM,hl]) (by intro hh;split at hh<;>cases hh) (by intro P hh;exact Nz z (by omega) hh) (jc _) (by omega) ?_);intro W m q;have C:=iZ o q (by have:=o.size;simp at this⊢;omega) (by intro k n;cases n;omega);clear q))
  all_goals (go_ret;exact⟨_,rfl,Lh m (by rw [R.out];simp [jr,cellsL]),D.out.trans (C.mono (by omega))⟩)
theorem VD(a:Option Addr)(cap:Nat)(x:aK)(w:oC)(hm:cap<=xx)(b:a=none->cap=0):
  Jj qh 89 #[.slice a 0 cap,.int .i64 0,.bool false,.agg #[.string x.key,.int .i64 x.gz,.int .i64 x.org,.string x.val]] w
   fun e w'=>∃v,e= .returned v/\Own w' w.heap.size v [x]/\xk w.heap.size w w':=by
 unfold xx at hm;obtain⟨h,f,g,d⟩:=x;simp only;have c:xk w.heap.size w (w.alloc (.cells #[.string h,.int .i64 f,.int .i64 g,.string d] 55)):=(qL _ _).alloc (oP _) _;have i:Eb _:=c;clear c;have j:Eb (a=none->cap=0):=b;clear b;have k:∀w,(Instr.makeSlice 28 (.int .i64 0) (.int .i64 1)).run qh w= .ok (.slice (some ⟨w.heap.size,0,none⟩) 0 1) (w.alloc (.cells #[.string ⟨#[]⟩,.int .i64 0,.int .i64 0,.string ⟨#[]⟩] 55)):=fun _=>by kernel_rfl
 rcases a with _|l
 ·obtain rfl:=j.out rfl;go_enter Tryz.func89,Tryz.ntmps89;go_wp2_with fail;go_ret;exact⟨_,rfl,Uc w _ _ ⟨h,f,g,d⟩,(i.out.alloc (by simp) _).alloc (by simp;omega) _⟩
 ·clear j;go_enter Tryz.func89,Tryz.ntmps89;go_wp2_with fail;go_ret;exact⟨_,rfl,Uc w _ _ ⟨h,f,g,d⟩,(i.out.alloc (by simp) _).alloc (by simp;omega) _⟩
theorem Lu(a:Option Addr)(len cap:Nat)(es:List aK)(i:Nat)(ins:Bool)(x:aK)(w:oC)(h:bI w a len cap es)(f:a=none->cap=0)(g:len<=60)(l:i<=len)(c:ins=true->i<len):
  Jj qh 89 #[.slice a len cap,.int .i64 i,.bool ins,.agg #[.string x.key,.int .i64 x.gz,.int .i64 x.org,.string x.val]] w
   fun e w'=>∃v,e= .returned v/\Own w' w.heap.size v (LD es i ins x)/\xk w.heap.size w w':=by
 have h0:=h;obtain⟨hl,hc,hm,k,d⟩:=h;rcases d with rfl|⟨b,off,rfl,m,j⟩
 ·simp at hl;subst hl;obtain rfl:i=0:=by omega
  cases ins
  ·exact VD a cap x w hm f
  ·have:=c rfl;omega
 ·exact YG b off len cap es i ins x w h0 m j g l c
theorem EI{w:oC}{ops:Array Oper}{rest:List Oper}{o:Oper}{a:Act}{Q:Exit->Act->oC->Prop}(g:o.guard=none)(s x:Wq)
  (t:o.op= .call {callee:= .builtin .append,args:=#[s,x],argTypes:=#[28,28]})
  (ao:Option Addr)(len cap:Nat)(es:List aK)(r:a.eval s= .slice none 0 0)(q:a.eval x= .slice ao len cap)(C:bI w ao len cap es)(e:ao=none->cap=0)(E:len*48<=140737488351232)
  (h:∀i w',Own w' w.heap.size i es->xk w.heap.size w w'->wpList qh ops Q rest (a.put o.dst i) w'):wpList qh ops Q (o::rest) a w:=by
 obtain⟨i0,f,n,m,l⟩:=Tn DR;obtain⟨hl,hc,hm,z,d⟩:=C;rcases ao with _|D
 ·obtain rfl:=e rfl;obtain rfl:len=0:=by omega
  obtain rfl:es= []:=List.length_eq_zero_iff.1 hl;exact Zf g s x 28 t w.heap.size 55 i0 4 xn f _ 0 [] r (Ah _ _ _ _) q (h _ _ (Own.nil _ _) (qL _ _))
 ·refine MJ (w:=w) g s x 28 t w.heap.size 55 i0 _ 4 48 xn f n m l rfl (by decide) _ 0 [] r (Ah _ _ _ _) D len cap (cellsL es) q (by rw [kS,hl]) ?_ (jc _) (by unfold xx;omega) (by omega) (oP _) ?_
  ·intro j u v;rcases d with rfl|⟨b,off,p,_,y⟩
   ·simp [cellsL]at v
   ·cases p;rw [bD];exact(kY _ _).1 y j u v
  ·intro i w' c B _;rw [Qi]at c;exact h i w' (Lh c rfl) ((qL _ _).grown B (oP _) (by intro k A;cases A))
theorem qI{w:oC}{ops:Array Oper}{rest:List Oper}{o:Oper}{a:Act}{Q:Exit->Act->oC->Prop}(p:o.guard=none)(s x:Wq)
  (t:o.op= .call {callee:= .builtin .append,args:=#[s,x],argTypes:=#[28,28]})
  (base:Nat)(v:rU)(es:List aK)(e:aK)(r:a.eval s=v)(b:Own w base v es)(d:base<=w.heap.size)(q:a.eval x= .slice (some ⟨w.heap.size,0,none⟩) 1 1)(B:(es.length+1)*48<=140737488355328)
  (h:∀f w',Own w' base f (es++ [e])->xk base w w'->wpList qh ops Q rest (a.put o.dst f) w'):
  wpList qh ops Q (o::rest) a (w.alloc (.cells #[.string e.key,.int .i64 e.gz,.int .i64 e.org,.string e.val] 55)):=by
 obtain⟨i0,n,l,i,g⟩:=Tn DR;refine MJ (w:=_) p s x 28 t base 55 i0 _ 4 48 xn n l i g rfl (by decide) _ es.length (cellsL es) r (Pe b _) ⟨w.heap.size,0,none⟩ 1 1 (gI e) q rfl ?_ ?_ (by unfold xx;omega) B (by simp;omega) ?_
 ·intro j u z;rw [bD];exact adv w z
 ·show∀u∈gI e,_;have:=jc [e];simpa [cellsL]using this
 ·intro f w' c A _;have m:=Ru b;exact h f w' (Lh c (by rw [jr];simp [cellsL])) (((qL _ _).alloc d _).grown A (by simp;omega) (fun k y=>(m k y).1))
theorem pg{w:oC}{q:Nat}{ops:Array Oper}{rest:List Oper}{o:Oper}{a:Act}{Q:Exit->Act->oC->Prop}(f:o.guard=none)(s x:Wq)
  (j:o.op= .call {callee:= .builtin .append,args:=#[s,x],argTypes:=#[28,28]})
  (base:Nat)(v:rU)(es:List aK)(e:aK)(i:a.eval s=v)(c:Own w base v es)(b:base<=w.heap.size)(g:a.eval x= .slice (some ⟨w.heap.size,0,none⟩) 1 1)(k:(es.length+1)*48<=140737488355328)
  (h:∀d w',Own w' base d (es++ [e])->xk base w w'->wpList qh ops Q rest (a.put o.dst d) w'):
  wpList qh ops Q (o::rest) a ((w.alloc (.cells #[.string e.key,.int .i64 e.gz,.int .i64 e.org,.string e.val] 55)).drewN q):=
 qI (w:=w.drewN q) f s x j base v es e i c b g k (fun d w' m l=>h d w' m ((below_drewN (qL base w) q).trans l))
theorem Own.kept{w w':oC}{base:Nat}{v:rU}{es:List aK}{row:Option Nat}(h:Own w base v es)(b:w.grownBy w' row)(a:v.ownBlock=none\/v.ownBlock≠row):Own w' base v es:=aav h b a
def bF(w:oC)(base:Nat)(v:rU)(ks:List ByteArray):Prop:=w.ownsRow base 9 1 v ks.length (ks.map SN)
theorem abm:(Tryz.prog.info? 9).map (fun i=>(i.zero,i.size,i.bytes))=some (some (.string ⟨#[]⟩),1,16):=by kernel_rfl
theorem zi{w w':oC}{base:Nat}{e:Qe}{sz:Nat}{v:rU}{n:Nat}{xs:List rU}(h:w.ownsRow base e sz v n xs)(k:xk w.heap.size w w'):w'.ownsRow base e sz v n xs:=by
 obtain⟨h0,a⟩:=h;refine⟨h0,?_⟩;rcases a with a|⟨g,cap,cur,rfl,c,hh,b⟩
 ·exact .inl a
 ·exact .inr ⟨g,cap,cur,rfl,c,(k.block g (Qd hh)).trans hh,b⟩
theorem bF.below{w w':oC}{base:Nat}{v:rU}{a:List ByteArray}(h:bF w base v a)(k:xk w.heap.size w w'):bF w' base v a:=zi h k
theorem bF.nil(w:oC)(base:Nat):bF w base (.slice none 0 0) []:=Ah _ _ _ _
theorem uX{w:oC}{ops:Array Oper}{rest:List Oper}{o:Oper}{a:Act}{Q:Exit->Act->oC->Prop}(q:o.guard=none)(s x:Wq)
  (z:o.op= .call {callee:= .builtin .append,args:=#[s,x],argTypes:=#[38,38]})
  (base:Nat)(v:rU)(e:List ByteArray)(key:ByteArray)(y:a.eval s=v)(b:bF w base v e)(d:base<=w.heap.size)(t:a.eval x= .slice (some ⟨w.heap.size,0,none⟩) 1 1)(B:(e.length+1)*16<=140737488355328)
  (h:∀f w',bF w' base f (e++ [key])->(w.alloc (.cells #[.string key] 9)).grownBy w' v.ownBlock->xk base w w'->wpList qh ops Q rest (a.put o.dst f) w'):
  wpList qh ops Q (o::rest) a (w.alloc (.cells #[.string key] 9)):=by
 obtain⟨i0,p,m,l,i⟩:=Tn abm;refine MJ (w:=_) q s x 38 z base 9 i0 _ 1 16 Z5 p m l i rfl (by decide) _ e.length (e.map SN) y (Pe b _) ⟨w.heap.size,0,none⟩ 1 1 [.string key] t rfl ?_ ?_ (by unfold xx;omega) B (by simp;omega) ?_
 ·intro j u g;match j,g with
  |0,g=>simp at g;subst g;rw [bD];simp
 ·intro u hu;simp at hu;subst hu;rfl
 ·intro f w' c r _;have n:=Ru b;refine h f w' ?_ r (((qL _ _).alloc d _).grown r (by simp;omega) (fun k A=>(n k A).1));unfold bF;simpa using c
def fA(xs:List Int):List rU:=xs.map fun x=> .int .i64 x
def dI(w:oC)(base:Nat)(v:rU)(xs:List Int):Prop:=w.ownsRow base 3 1 v xs.length (fA xs)
theorem YR:(Tryz.prog.info? 3).map (fun i=>(i.zero,i.size,i.bytes))=some (some (.int .i64 0),1,8):=by kernel_rfl
theorem dI.nil(w:oC)(base:Nat):dI w base (.slice none 0 0) []:=Ah _ _ _ _
theorem Hu(xs:List Int):∀u∈fA xs,u.oneCell'=true:=by
 intro u hu;simp [fA]at hu;obtain⟨x,_,rfl⟩:=hu;rfl
theorem Hw{xs:List Int}{j:Nat}{u:rU}(h:(fA xs)[j]? =some u):j<xs.length/\u= .int .i64 (Pl.nm xs j):=by
 unfold fA at h;rw [List.getElem?_map]at h
 cases a:xs[j]? with
 |none=>rw [a]at h;simp at h
 |some x=>
  rw [a]at h;simp at h;obtain⟨b,e⟩:=List.getElem?_eq_some_iff.1 a;exact⟨b,by rw [vH xs j b,e,h]⟩
theorem dI.ints{w:oC}{base:Nat}{v:rU}{xs:List Int}(h:dI w base v xs):
  ∃a cap,v= .slice a xs.length cap/\fV w a xs.length cap xs/\(∀x,a=some x->base<=x.block):=by
 obtain⟨_,⟨h,l⟩|⟨g,cap,cur,rfl,k,hh,f,hm,m,d⟩⟩:=h
 ·have e:xs= []:=List.length_eq_zero_iff.1 l;subst e;exact⟨none,0,h,fV.nil w,by simp⟩
 ·refine⟨_,cap,rfl,⟨rfl,f,hm,by simp,.inr ⟨g,0,rfl,Qd hh,fun i j=> ?_⟩⟩,by rintro x ⟨⟩;exact k⟩;have b:(fA xs)[i]? =some (.int .i64 (Pl.nm xs i)):=by
   simp [fA,Pl.nm,UQ,Iy j]
  rw [<-d]at b;have c:cur[i]? =some (.int .i64 (Pl.nm xs i)):=by
   rw [Rz]at b;split at b
   ·rw [<-Rq];exact b
   ·cases b
  simp [IA,hh,c]
theorem dI.but{B:Nat}{w w':oC}{base:Nat}{v:rU}{xs:List Int}(h:dI w base v xs)(k:aI B w w')(a:B<base\/v.ownBlock≠some B):dI w' base v xs:=by
 obtain⟨h0,b⟩:=h;refine⟨h0,?_⟩;rcases b with b|⟨g,cap,cur,rfl,d,hh,c⟩
 ·exact .inl b
 ·refine .inr ⟨g,cap,cur,rfl,d,(k.block g (Qd hh) ?_).trans hh,c⟩;rcases a with h|h
  ·omega
  ·intro e;apply h;simp [Value.ownBlock,e]
theorem dI.mono{w:oC}{base a:Nat}{v:rU}{xs:List Int}(h:dI w base v xs)(k:a<=base):dI w a v xs:=by
 obtain⟨h0,b⟩:=h;refine⟨h0,?_⟩;rcases b with b|⟨g,cap,cur,rfl,d,c⟩
 ·exact .inl b
 ·exact .inr ⟨g,cap,cur,rfl,by omega,c⟩
theorem dI.below{w w':oC}{base:Nat}{v:rU}{xs:List Int}(h:dI w base v xs)(k:xk w.heap.size w w'):dI w' base v xs:=by
 obtain⟨h0,a⟩:=h;refine⟨h0,?_⟩;rcases a with a|⟨g,cap,cur,rfl,c,hh,b⟩
 ·exact .inl a
 ·exact .inr ⟨g,cap,cur,rfl,c,(k.block g (Qd hh)).trans hh,b⟩
def bU(w:oC)(base:Nat)(h:Pl.RH)(r:Pl.Rt):Prop:=h.p=r.p/\h.here=r.here/\h.cost=r.cost/\dI w base (.slice h.ha h.hl h.hc) r.aH/\dJ r.p
theorem bU.reads{w:oC}{base:Nat}{h:Pl.RH}{r:Pl.Rt}(c:bU w base h r):Reads w h r/\(∀x,h.ha=some x->base<=x.block):=by
 obtain⟨m,l,k,j,i⟩:=c;obtain⟨a,cap,e,f,g⟩:=j.ints;simp only [aaD]at e;obtain⟨b,o,n⟩:=e;refine⟨⟨m,l,k,?_,i⟩,fun x d=>g x (by rw [<-b];exact d)⟩;rw [b,o,n];exact f
theorem bU.below{w w':oC}{base:Nat}{h:Pl.RH}{r:Pl.Rt}(a:bU w base h r)(k:xk w.heap.size w w'):bU w' base h r:=⟨a.1,a.2.1,a.2.2.1,a.2.2.2.1.below k,a.2.2.2.2⟩
theorem bU.mono{w:oC}{base a:Nat}{h:Pl.RH}{r:Pl.Rt}(b:bU w base h r)(k:a<=base):bU w a h r:=⟨b.1,b.2.1,b.2.2.1,b.2.2.2.1.mono k,b.2.2.2.2⟩
theorem L8{w:oC}{ops:Array Oper}{rest:List Oper}{o:Oper}{a:Act}{Q:Exit->Act->oC->Prop}(i:o.guard=none)(s x:Wq)
  (y:o.op= .call {callee:= .builtin .append,args:=#[s,x],argTypes:=#[37,37]})
  (ao:Option Addr)(len cap:Nat)(l:List Int)(v:a.eval s= .slice none 0 0)(t:a.eval x= .slice ao len cap)(D:fV w ao len cap l)(F:len*8<=140737488351232)
  (h:∀m w',dI w' w.heap.size m l->xk w.heap.size w w'->wpList qh ops Q rest (a.put o.dst m) w'):wpList qh ops Q (o::rest) a w:=by
 obtain⟨i0,g,q,p,n⟩:=Tn YR;obtain⟨hl,hc,hm,e,d⟩:=D;rcases ao with _|E
 ·obtain rfl:=e rfl;obtain rfl:len=0:=by omega
  obtain rfl:l= []:=List.length_eq_zero_iff.1 hl;exact Zf i s x 37 y w.heap.size 3 i0 1 aab g _ 0 [] v (Ah _ _ _ _) t (h _ _ (dI.nil _ _) (qL _ _))
 ·refine MJ (w:=w) i s x 37 y w.heap.size 3 i0 _ 1 8 aab g q p n rfl (by decide) _ 0 [] v (Ah _ _ _ _) E len cap (fA l) t (by simp [fA,hl]) ?_ (Hu _) (by unfold xx;omega) (by omega) (oP _) ?_
  ·intro j u B;obtain⟨f,rfl⟩:=Hw B;rcases d with rfl|⟨b,off,r,_,z⟩
   ·simp at f
   ·cases r;rw [bD];exact z j f
  ·intro m w' c C _;rw [Qi]at c;refine h m w' ?_ ((qL _ _).grown C (oP _) (by intro k A;cases A));unfold dI;rw [hl];simpa using c
theorem ji(w:oC)(o:Obj):(w.alloc o).heap[w.heap.size]? =some o:=by
 show(w.heap.push o)[w.heap.size]? =_;simp
theorem Zm{w w3:oC}{c0 c1 c2 c a d0 d1 d2 d3 d4:rU}{T:Qe}(g:xk ((w.alloc (.cells #[c0,c1,c2,c,a] T)).alloc (.cells #[d0,d1,d2,d3,d4] T)).heap.size ((w.alloc (.cells #[c0,c1,c2,c,a] T)).alloc (.cells #[d0,d1,d2,d3,d4] T)) w3):
  (w3.cell? ⟨w.heap.size,0,none⟩=some c0/\w3.cell? ⟨w.heap.size,1,none⟩=some c1/\w3.cell? ⟨w.heap.size,2,none⟩=some c2/\w3.cell? ⟨w.heap.size,3,none⟩=some c/\w3.cell? ⟨w.heap.size,4,none⟩=some a)/\
  (w3.cell? ⟨w.heap.size+1,0,none⟩=some d0/\w3.cell? ⟨w.heap.size+1,1,none⟩=some d1/\w3.cell? ⟨w.heap.size+1,2,none⟩=some d2/\w3.cell? ⟨w.heap.size+1,3,none⟩=some d3/\w3.cell? ⟨w.heap.size+1,4,none⟩=some d4)/\
  (∀o,w3.frozen? ⟨w.heap.size,o,none⟩=false)/\(∀o,w3.frozen? ⟨w.heap.size+1,o,none⟩=false):=by
 have d:((w.alloc (.cells #[c0,c1,c2,c,a] T)).alloc (.cells #[d0,d1,d2,d3,d4] T)).heap.size=w.heap.size+2:=by simp
 have hc:∀(b o:Nat) (v:rU),b<w.heap.size+2->((w.alloc (.cells #[c0,c1,c2,c,a] T)).alloc (.cells #[d0,d1,d2,d3,d4] T)).cell? ⟨b,o,none⟩=some v->w3.cell? ⟨b,o,none⟩=some v:=fun b o v f i=>(g.cell (p:=⟨b,o,none⟩) (by rw [d];exact f)).trans i;refine⟨⟨hc _ _ _ (by omega) (by simp),hc _ _ _ (by omega) (by simp),hc _ _ _ (by omega) (by simp),hc _ _ _ (by omega) (by simp),hc _ _ _ (by omega) (by simp)⟩,⟨hc _ _ _ (by omega) ?_,hc _ _ _ (by omega) ?_,hc _ _ _ (by omega) ?_,hc _ _ _ (by omega) ?_,hc _ _ _ (by omega) ?_⟩,?_,?_⟩;iterate 5
  have e:=O6 w (.cells #[c0,c1,c2,c,a] T);rw [<-e];simp
 ·intro o;rw [g.frozen (p:=⟨w.heap.size,o,none⟩) (by rw [d];show w.heap.size<_;omega)];have e:((w.alloc (.cells #[c0,c1,c2,c,a] T)).alloc (.cells #[d0,d1,d2,d3,d4] T)).heap[w.heap.size]? =some (.cells #[c0,c1,c2,c,a] T):=by
   rw [Tf _ _ _ (by simp)];exact ji w _
  simp only [OM,e];simp
 ·intro o;rw [g.frozen (p:=⟨w.heap.size+1,o,none⟩) (by rw [d];show w.heap.size+1<_;omega)];have e:((w.alloc (.cells #[c0,c1,c2,c,a] T)).alloc (.cells #[d0,d1,d2,d3,d4] T)).heap[w.heap.size+1]? =some (.cells #[d0,d1,d2,d3,d4] T):=by
   have h:=ji (w.alloc (.cells #[c0,c1,c2,c,a] T)) (.cells #[d0,d1,d2,d3,d4] T);rwa [O6]at h
  simp only [OM,e];simp
theorem uh(h:Pl.RH)(r:Pl.Rt)(w:oC)(D:Reads w h r)(hl:h.hl<=1000):
  Jj qh 69 #[.agg #[.int .i64 h.p.1,.int .i64 h.p.2,.bool h.here,.int .i64 h.cost,.slice h.ha h.hl h.hc]] w fun e w'=>
   ∃g:Pl.RH,e= .returned (.agg #[.int .i64 g.p.1,.int .i64 g.p.2,.bool g.here,.int .i64 g.cost,.slice g.ha g.hl g.hc])/\bU w' w.heap.size g r/\xk w.heap.size w w':=by
 obtain⟨s,q,o,n,m⟩:=D;have t:=ae n;have f:=ae (aak s (aak q (aak o m)));clear s q o n m;obtain⟨⟨p1,p2⟩,here,cost,ha,d,hc⟩:=h;simp only at t f hl;simp only;have u:Eb (xk w.heap.size w ((w.alloc (.cells #[.int .i64 p1,.int .i64 p2,.bool here,.int .i64 cost,.slice ha d hc] 80)).alloc (.cells #[.int .i64 0,.int .i64 0,.bool false,.int .i64 0,.slice none 0 0] 80))):=ae (((qL _ _).alloc (oP _) _).alloc (by simp) _);go_enter Tryz.func69,Tryz.ntmps69;go_wp2_with (at_builtin;refine L8 rfl _ _ rfl ha d hc r.aH rfl rfl (t.out.below u.out) (by omega) ?_;intro L w3 a c;obtain⟨a3,b,rfl,_,_⟩:=a.ints;have j:=ae a;clear a;have l:=Zm c;obtain⟨⟨l,K,J,I,H⟩,⟨C,A,z,y,x⟩,G,F⟩:=l);have k:=ae c;clear c
 have E:Eb (xk w.heap.size w w3):=ae (u.out.trans (k.out.mono (by simp;omega)));refine xh (v:= .agg #[.int .i64 p1,.int .i64 p2,.bool here,.int .i64 cost,.slice a3 r.aH.length b]) (by simp [results,Tryz.results69,go_sem,C,A,z,y,x]) rfl ?_;have i:aI w.heap.size w3 (w3.setCell ⟨w.heap.size,4,none⟩ (.slice a3 r.aH.length b)):=(aI.refl _ _).setCell _ _;refine⟨⟨(p1,p2),here,cost,a3,r.aH.length,b⟩,rfl,⟨f.out.1,f.out.2.1,f.out.2.2.1,?_,f.out.2.2.2⟩,?_⟩
 ·refine dI.mono (base:=w.heap.size+2) ?_ (by omega);refine dI.but (B:=w.heap.size+1) (w:=w3.setCell ⟨w.heap.size,4,none⟩ (.slice a3 r.aH.length b)) (dI.but (dI.mono j.out (by simp)) i (.inl (by omega))) ?_ (.inl (by omega));exact(((((aI.refl _ _).setCell _ _).setCell _ _).setCell _ _).setCell _ _).setCell _ _
 ·exact((((((E.out.setCell (oP _) _).setCell (by simp) _).setCell (by simp) _).setCell (by simp) _).setCell (by simp) _).setCell (by simp) _)
end Go.Proofs.YtjjelkdajdeikaaGreatDoor
