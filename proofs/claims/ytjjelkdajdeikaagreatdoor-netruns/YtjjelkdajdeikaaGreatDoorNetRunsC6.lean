/-
  Facts put together.
-/
import Derived.Test.YtjjelkdajdeikaaGreatDoorShelf
import Derived.Lib.ItoaLen
import Derived.Test.YtjjelkdajdeikaaGreatDoorNetRunsC4
open Nat renaming le_refl→oC,lt_of_lt_of_le→Ee,lt_succ_self→LM,lt_or_ge→MJ,zero_le→OG,le_trans→OI,add_mul→aaf
open Go.RowKit.Below renaming refl→oP
open Go.RowKit renaming Below→qh,Hid→xk,intOf→Iy,ownsRow_setCell_below→VB
open Go.Oper renaming wp→qL,upon_value→Xh
open Go renaming undef→rU,World→xn,bodyPost_ret→xx,Value→BD,maxLen→BG,Calls→Eb,getD_set_ne→IA,wp_region_any→Tf,results_tmp2→UQ,wpQuiet_nil→WZ,mem_ready→aab
open Go.Proofs.Tryz renaming prog→xh,underlying29→UX,f116→aai,f115→aaj
open Bool renaming and_eq_true→Ah,toNat_false→Wq
open Or renaming inl→GM
open Array renaming replicate→GX,getElem?_eq_none→Rw,getElem?_modify→SN
open ByteArray renaming size_append→Jj,size→Tq
open Go.Value renaming string→Jk,slice→OE,int→Rq,ownBlock→Xc
open Int renaming toNat_natCast→OM,tmod_eq_emod_of_nonneg→Qi
open List renaming length_cons→OO,getElem_mem→O6,getD_eq_getElem?_getD→Qd,getElem?_eq_getElem→Ru,length_append→Uz,length_set→X6,getD→aak
open Go.Ending renaming returned→Pe
open Go.World.ownsRow renaming alloc→PW,lt→aac,kept→aad
open Go.World renaming setCell→Qe,cell?_of_block→SQ
open Option.some renaming inj→Rz
open Go.Lib renaming join→Tn,lens→Zf
open Go.IntKind renaming u8→Z5
open Go.Code renaming region→aae
open Go.BinOp renaming xor→aag
set_option maxHeartbeats 8000000
namespace Go.Proofs.YtjjelkdajdeikaaGreatDoor
open Pl
open Go.RowKit
set_option maxRecDepth 20000
def Ff(w:xn):Prop:=Lib.TabIs xh w "internal/strconv.uint64pow10" .u64 Lib.pow10Tab
theorem Ff.below{w w':xn}(h:Ff w)(k:qh w.heap.size w w'):Ff w':=by
 unfold Ff Lib.TabIs World.var? at h⊢
 cases c:Tryz.prog.globalNamed "internal/strconv.uint64pow10" with
 |none=>rw [c]at h;cases h
 |some g=>
 rw [c]at h;simp only [Option.bind_some]at h⊢;have a:g<w.heap.size:=by
  rcases MJ g w.heap.size with b|b
  ·exact b
  ·rw [Rw b]at h;cases h
 rw [k.block g a];exact h
theorem Ie(w:xn)(k:Nat)(os:Array Obj):qh w.heap.size w (Sort.grow (w.drewN k) os):=by
 refine⟨rfl,rfl,rfl,?_,fun j a=> ?_⟩
 ·show w.heap.size<=(w.heap++os).size;simp
 ·show(w.heap++os)[j]? =w.heap[j]?;rw [Array.getElem?_append_left a]
def Pl.dec(n:Int):ByteArray:=⟨(Lib.itoa n).toArray⟩
theorem Pl.BL(n:Int)(h0: -9223372036854775808<=n)(a:n<=9223372036854775807):(Pl.dec n).size<=21:=by
 have:=Lib.itoa_length_le n h0 a;show(Lib.itoa n).toArray.size<=21;simpa using this
theorem Ci(n:Int)(w:xn)(h0:0<=n)(a:n<=100000)(hT:Ff w):
  Eb xh 31 #[.int .i64 n] w fun e w'=>e= .returned (.string (Pl.dec n))/\qh w.heap.size w w':=
 (Tryz.strconv_Itoa n (by omega) (by omega) w hT).mono fun e w' ⟨h,k,os,hw⟩=>⟨h,hw▸Ie w k os⟩
def Pl.iC(m:ByteArray)(p:Int×Int):ByteArray:=Pl.dec p.1++m++Pl.dec p.2
def Pl.gJ(m:ByteArray)(ps:List (Int×Int)):ByteArray:=⟨(Tn ((ps.map (iC m)).map (·.data.toList)) [44]).toArray⟩
def Pl.small(p:Int×Int):Prop:=0<=p.1/\p.1<=1000/\0<=p.2/\p.2<=1000
theorem Pl.jK(n:Int)(h0:0<=n)(a:n<=1000):(Pl.dec n).size<=21:=BL n (by omega) (by omega)
theorem Pl.FO(m:ByteArray)(p:Int×Int)(h:Pl.small p):(iC m p).size<=42+m.size:=by
 obtain⟨d,c,b,a⟩:=h;unfold iC;rw [Jj,Jj];have:=jK p.1 d c;have:=jK p.2 b a;omega
def Pl.iT(es:List aK)(key:ByteArray):aK:=if Pl.fault es=0 then(if Pl.there es key then eF es (Pl.pos es key)else aK.none)else aK.none
def Pl.BI(es:List aK)(key:ByteArray):Int:=if Pl.fault es=0 then(if Pl.there es key then 0 else 6)else Pl.fault es
theorem MR(a:Option Addr)(len cap:Nat)(es:List aK)(key:ByteArray)(w:xn)(h:bI w a len cap es):
  Eb xh 30 #[.slice a len cap,.string key] w fun e w'=>
   e= .returned (.tuple #[.agg #[.string (iT es key).key,.int .i64 (iT es key).gz,.int .i64 (iT es key).org,.string (iT es key).val],.int .i64 (BI es key)])/\qh w.heap.size w w':=by
 have i:xk (bI w a len cap es):=h;clear h;obtain⟨c,m⟩:=ai (Pl.fault es);by_cases g:c=0
 ·subst g;obtain⟨g1,g2,g3⟩:=jm m.out;have hlen:es.length=len:=i.out.1;have z:xk (len<=60):=by show _<=_;omega
  have A:xk (MV es):=g3;clear g1 g2 g3;obtain⟨t,o⟩:=ai (Pl.there es key)
  cases t
  ·have j:xk (iT es key=aK.none/\BI es key=6):=by unfold iT BI;rw [m.out,o.out];exact⟨rfl,rfl⟩
   go_enter Tryz.func30,Tryz.ntmps30;go_wp2_with fail;refine(dS _ _ _ es _ (i.out.below ((oP _ _).alloc (oC _) _))).mono ?_;rw [m.out];rintro e s ⟨rfl,d⟩;have q:=d.size;simp at q;go_wp2_with fail;refine(qF _ _ _ es key _ (i.out.below (((oP _ _).alloc (oC _) _).trans (d.mono (by simp)))) A.out z.out).mono ?_;rw [o.out];rintro e B ⟨rfl,l⟩;have k:=d.trans (l.mono (by simp;omega));obtain⟨f,n⟩:=uy k;go_wp2_with fail
   refine xx (v:= .tuple #[.agg #[.string (iT es key).key,.int .i64 (iT es key).gz,.int .i64 (iT es key).org,.string (iT es key).val],.int .i64 (BI es key)]) (by rw [j.out.1,j.out.2];simp [results,Tryz.results30,go_sem,f,aK.none]) rfl ⟨rfl,((((((oP _ _).alloc (oC _) _).trans (k.mono (by simp))).setCell (oC _) _).setCell (oC _) _).setCell (oC _) _).setCell (oC _) _⟩
  ·have r:Pl.pos es key<len:=by
    have:=o.out;unfold Pl.there at this;simp only [Ah,ik]at this;omega
   have j:xk (iT es key=eF es (Pl.pos es key)/\BI es key=0):=by unfold iT BI;rw [m.out,o.out];exact⟨rfl,rfl⟩
   obtain⟨p,y⟩:=ai (Pl.pos es key);rw [y.out]at r j;obtain⟨b,off,rfl,E,C⟩:∃b off,a=some ⟨b,off,none⟩/\b<w.heap.size/\dN w b off es:=by
    rcases i.out.2.2.2.2 with h|h
    ·rw [h]at hlen;simp at hlen;omega
    ·exact h
   have x:=i.out.2.1;have hm:=i.out.2.2.1;unfold BG at hm;obtain⟨I,H,G,F⟩:=C p (by omega);have u:(p:Int)<(len:Int):=by omega
   go_enter Tryz.func30,Tryz.ntmps30;go_wp2_with fail;refine(dS _ _ _ es _ (i.out.below ((oP _ _).alloc (oC _) _))).mono ?_;rw [m.out];rintro e s ⟨rfl,d⟩;have q:=d.size;simp at q;go_wp2_with fail;refine(qF _ _ _ es key _ (i.out.below (((oP _ _).alloc (oC _) _).trans (d.mono (by simp)))) A.out z.out).mono ?_;rw [o.out,y.out];rintro e B ⟨rfl,l⟩;have k:=d.trans (l.mono (by simp;omega));obtain⟨f,n⟩:=uy k;go_wp2_with fail
   refine xx (v:= .tuple #[.agg #[.string (iT es key).key,.int .i64 (iT es key).gz,.int .i64 (iT es key).org,.string (iT es key).val],.int .i64 (BI es key)]) (by rw [j.out.1,j.out.2];simp [results,Tryz.results30,go_sem,f]) rfl ⟨rfl,((((((oP _ _).alloc (oC _) _).trans (k.mono (by simp))).setCell (oC _) _).setCell (oC _) _).setCell (oC _) _).setCell (oC _) _⟩
 ·have D:(c != 0)=true:=by simp [g]
  have j:xk (iT es key=aK.none/\BI es key=c):=by unfold iT BI;rw [m.out,ag g,ag g];exact⟨rfl,rfl⟩
  clear g;go_enter Tryz.func30,Tryz.ntmps30;go_wp2_with fail;refine(dS _ _ _ es _ (i.out.below ((oP _ _).alloc (oC _) _))).mono ?_;rw [m.out];rintro e s ⟨rfl,k⟩;obtain⟨f,n⟩:=uy k;go_wp2_with fail;refine xx (v:= .tuple #[.agg #[.string (iT es key).key,.int .i64 (iT es key).gz,.int .i64 (iT es key).org,.string (iT es key).val],.int .i64 (BI es key)]) (by rw [j.out.1,j.out.2];simp [results,Tryz.results30,go_sem,f,aK.none]) rfl ⟨rfl,((((((oP _ _).alloc (oC _) _).trans (k.mono (by simp))).setCell (oC _) _).setCell (oC _) _).setCell (oC _) _).setCell (oC _) _⟩
def Pl.aY(n:Int):ByteArray:=⟨#[97,58]⟩++Pl.dec n
def Pl.aW(n:Int):ByteArray:=⟨#[112,58]⟩++Pl.dec n
theorem Pl.EJ(n:Int)(h0:0<=n)(a:n<=1000):(aY n).size<=23:=by
 unfold aY;rw [Jj];have:=jK n h0 a;show 2+_<=23;omega
def Pl.nJ(es:List aK)(n:Int):ByteArray:=(iT es (aY n)).val
theorem Pl.BH(es:List aK)(k:ByteArray):(iT es k).val.size<=120:=by
 unfold iT;split
 ·rename_i b;split
  ·rename_i a;obtain⟨e,c,d⟩:=jm b;have hp:Pl.pos es k<es.length:=by unfold Pl.there at a;simp only [Ah,ik]at a;exact a.1
   have:=c _ hp;unfold aK.may uQ at this;simp only [Ah,ik]at this;exact this.2
  ·simp [aK.none,Tq]
 ·simp [aK.none,Tq]
theorem ve{w:xn}{B:Nat}{c0 c1:BD}{T:TypeId}(h:w.heap[B]? =some (.cells #[c0,c1] T))(v:BD):(w.setCell ⟨B,0,none⟩ v).heap[B]? =some (.cells #[v,c1] T):=by
 have:=aG h;simp [Qe,SN,h]
theorem IB(n:Int)(w:xn)(h0:0<=n)(c:n<=1000)(hT:Ff w):
  Eb xh 148 #[.int .i64 n] w fun e w'=>e= .returned (.string (aY n))/\qh w.heap.size w w':=by
 have d:=ae hT;have h:=jK n h0 c;clear hT;have b:=ae (Ci n w h0 (by omega) d.out);have f:xk (aY n=⟨#[97,58]⟩++Pl.dec n):=ae rfl;generalize Pl.dec n=s at*;go_enter Tryz.func148,Tryz.ntmps148;go_wp2_with fail;refine b.out.mono ?_;rintro e g ⟨rfl,a⟩;go_wp2_with fail;go_ret;exact⟨by rw [f.out];rfl,a⟩
theorem Nr(a:Option Addr)(len cap:Nat)(es:List aK)(n:Int)(w:xn)(h:bI w a len cap es)(h0:0<=n)(G:n<=1000)(hT:Ff w):
  Eb xh 101 #[.slice a len cap,.int .i64 n] w fun e w'=>∃vl:BD,e= .returned (.agg #[.bool (uY (nJ es n).data.toList),vl])/\
   aU 143 w' w.heap.size vl (qR (nJ es n).data.toList)/\qh w.heap.size w w':=by
 have I:=ae h;have H:=ae hT;clear h hT;have C:(nJ es n).size<=120:=BH _ _;obtain⟨g,B⟩:=ai (iT es (aY n));have A:xk (nJ es n=g.val):=ae (by unfold nJ;rw [B.out]);rw [A.out]at C;rw [A.out];obtain⟨gk,M,go,m⟩:=g;simp only at C⊢;obtain⟨rc,F⟩:=ai (uZ m.data.toList);obtain⟨rd,x⟩:=ai (uY m.data.toList);obtain⟨rs,y⟩:=ai (qR m.data.toList);rw [x.out,y.out];have b1:qh w.heap.size w (w.alloc (.cells #[.bool false,.slice none 0 0] 141)):=(oP _ _).alloc (oC _) _;go_enter Tryz.func101,Tryz.ntmps101;go_wp2_with fail;refine(IB n _ h0 G (H.out.below b1)).mono ?_;rintro e u ⟨rfl,f⟩;have z:qh (w.heap.size+1) (w.alloc (.cells #[.bool false,.slice none 0 0] 141)) u:=by simpa using f
 have r:qh w.heap.size w u:=b1.trans (f.mono b1.size);clear f;go_wp2_with fail;refine(MR _ _ _ es (aY n) _ (I.out.below r)).mono ?_;rw [B.out];rintro e L ⟨rfl,k⟩;have l:=z.trans (k.mono (by have:=z.size;simp at this;omega));clear k;go_wp2_with fail;refine(PK m _ (by omega)).mono ?_;rw [F.out,x.out,y.out];rintro e w3 ⟨v3,rfl,c,d⟩;have q:=l.size;simp at q;have t:qh (w.heap.size+1) (w.alloc (.cells #[.bool false,.slice none 0 0] 141)) w3:=(l.alloc (by omega) _).trans (d.mono (by simp;omega));obtain⟨a3,o,b,rfl⟩:=c.slice;have E:=ae c;obtain⟨K,J,xs,s⟩:=vK t;obtain⟨f0,f1⟩:=BX t;have p:=d.size;simp at p;clear c d;go_wp2_with fail;have j:w3.heap[w.heap.size]? =some (.cells #[.bool false,.slice none 0 0] 141):=(t.block _ (LM _)).trans (bW w _)
 have i:=BF (gK (ve j (.bool rd)) (.slice a3 o b)) (.cells #[.bool rd,.slice a3 o b] 141);obtain⟨z0,D,_,_⟩:=aQ i;refine xx (v:= .agg #[.bool rd,.slice a3 o b]) (by simp [results,Tryz.results101,go_sem,z0,D]) rfl ⟨_,rfl,?_,?_⟩
 ·exact aU.mono (PW (VB (VB E.out (by simp;omega) _) (by simp;omega) _) _) (by simp;omega)
 ·exact((s.setCell (oC _) _).setCell (oC _) _).alloc (by simp [Qe];omega) _
def Pl.mZ(ps:List (Int×Int)):Prop:=∀j,j<ps.length->(0<=(Pl.pr ps j).1/\(Pl.pr ps j).1<=11/\1<=(Pl.pr ps j).2/\(Pl.pr ps j).2<=1000)/\(0<j->(Pl.pr ps (j-1)).1<(Pl.pr ps j).1)
theorem Pl.UG(ps:List (Int×Int)):∀(n i:Nat),i+n=ps.length->Pl.adjN ps n i=0->∀j,i<=j->j<ps.length->lJ (Pl.pr ps j).1 (Pl.pr ps j).2=true/\(0<j->(Pl.pr ps (j-1)).1<(Pl.pr ps j).1)
 |0,i,h,_,j,a,b=>by omega
 |n+1,i,h,h0,j,a,b=>by
  rw [Pl.adjN]at h0;by_cases g1:lJ (Pl.pr ps i).1 (Pl.pr ps i).2=true
  ·rw [af g1]at h0;by_cases g2:0<i/\(Pl.pr ps i).1<=(Pl.pr ps (i-1)).1
   ·rw [af g2]at h0;cases h0
   ·rw [ag g2]at h0;rcases Nat.eq_or_lt_of_le a with e|a
    ·subst e;exact⟨g1,fun hp=>by omega⟩
    ·exact UG ps n (i+1) (by omega) h0 j a b
  ·rw [ag g1]at h0;cases h0
theorem Pl.abV{ps:List (Int×Int)}(h:qU ps=0):mZ ps:=by
 intro j b;obtain⟨a,c⟩:=UG ps ps.length 0 (by omega) h j (by omega) b;unfold lJ at a;simp at a;exact⟨by omega,c⟩
theorem Pl.lW(l:List UInt8):mZ (qR l):=by
 unfold qR;by_cases h:uZ l=0
 ·rw [af h];unfold uZ at h
  cases a:CX l with
  |none=>rw [a]at h;cases h
  |some ps=>rw [a]at h;exact abV h
 ·rw [ag h];intro j b;simp at b
theorem Pl.mZ.ok{ps:List (Int×Int)}(h:mZ ps):ng ps:=by
 intro p hp;obtain⟨i,a,rfl⟩:=List.getElem_of_mem hp;have:=(h i a).1;rw [jI ps i a]at this;exact this
theorem Pl.ng.vG{ps:List (Int×Int)}(h:ng ps):∀p∈ps,dJ p:=fun p hp=>by
 have:=h p hp;exact gp ⟨by omega,by omega,by omega,by omega⟩
theorem di.but{w w':xn}{A:Nat}{a:Option Addr}{len cap:Nat}{ps:List (Int×Int)}(h:di w a len cap ps)(f:∀x,a=some x->x.block≠A)(k:aI A w w'):di w' a len cap ps:=by
 obtain⟨o,n,m,l,c⟩:=h;refine⟨o,n,m,l,?_⟩;rcases c with c|⟨b,off,rfl,d,g⟩
 ·exact .inl c
 ·refine .inr ⟨b,off,rfl,Ee d k.size,fun i j=> ?_⟩;obtain⟨c0,c1⟩:=g i j;have e:w'.heap[b]? =w.heap[b]? :=k.block b d (f _ rfl);exact⟨(SQ (w:=w) e).trans c0,(SQ (w:=w) e).trans c1⟩
theorem iL.set{w A D ps}(h:iL w A D ps)(k:Nat)(d:Bool)(a:Option Addr)(len cap:Nat)(q:List (Int×Int))(l:∀x,a=some x->x.block≠A)(hp:di w a len cap q):
  iL ((w.setCell ⟨A,k*2,none⟩ (.bool d)).setCell ⟨A,k*2+1,none⟩ (.slice a len cap)) A (cZ D k d) (cZ ps k q):=by
 obtain⟨V,r,p⟩:=h;have m:aI A w ((w.setCell ⟨A,k*2,none⟩ (.bool d)).setCell ⟨A,k*2+1,none⟩ (.slice a len cap)):=((aI.refl A w).setCell _ _).setCell _ _;refine⟨cZ V k (.slice a len cap),?_,fun i n=> ?_⟩
 ·refine((r.set _ _).set _ _).ext fun o t=> ?_;unfold cZ sZ;by_cases g1:o=k*2+1
  ·subst g1;rw [af rfl,ag (by omega)];simp only;rw [af (by omega)]
  ·rw [ag g1];by_cases g2:o=k*2
   ·subst g2;rw [af rfl,af (by omega)];simp only;rw [af (by omega)]
   ·rw [ag g2];by_cases g3:o%2=0
    ·rw [af g3,af g3];simp only;rw [ag (by omega)]
    ·rw [ag g3,ag g3];simp only;rw [ag (by omega)]
 ·by_cases b:i=k
  ·subst b;refine⟨a,len,cap,gU _ _ _,l,?_⟩;rw [gU];exact hp.but l m
  ·obtain⟨s,c,g,e,f,j⟩:=p i n;refine⟨s,c,g,by rw [jE _ _ b];exact e,f,?_⟩;rw [jE _ _ b];exact j.but f m
theorem iL.ext{w A D ps D' ps'}(h:iL w A D ps)(c:∀i,i<12->D i=D' i)(b:∀i,i<12->ps i=ps' i):iL w A D' ps':=by
 obtain⟨V,g1,g2⟩:=h;refine⟨V,g1.ext fun o d=> ?_,fun i a=> ?_⟩
 ·unfold sZ;split
  ·rw [c _ (by omega)]
  ·rfl
 ·rw [<-b i a];exact g2 i a
theorem iL.new(w:xn)(cs:Array BD)(e:cs=Array.ofFn (n:=24) fun i=>sZ (fun _=>false) (fun _=> .slice none 0 0) i.1):iL (w.alloc (.cells cs 170)) w.heap.size (fun _=>false) (fun _=> []):=by
 refine⟨fun _=> .slice none 0 0,aj.new w _ _ _ _ (by rw [e];simp) fun i a=> ?_,fun i a=>⟨none,0,0,rfl,by simp,rfl,oC _,by simp,by simp,.inl rfl⟩⟩;simp only [e,Array.getElem_ofFn]
def Pl.tD(es:List aK)(i:Nat):Bool:=uY (nJ es i).data.toList
def Pl.tS(es:List aK)(i:Nat):List (Int×Int):=qR (nJ es i).data.toList
def Pl.je(es:List aK)(f:Int):Int:=if Pl.fault es≠0 then Pl.fault es else if 0<=f/\f<=11 then 0 else 2
def Pl.KC(es:List aK)(f:Int):List (Int×List Int):=if je es f=0 then EM (dB (yN (Pl.tS es)) (Pl.tD es) f.toNat 12) 12 else []
theorem ni{v u:BD}{a b:Int}(h:v=u)(e:a=b):Pe (.tuple #[v,.int .i64 a])= .returned (.tuple #[u,.int .i64 b]):=by rw [h,e]
theorem World.dh{w:xn}{base a:Nat}{e:TypeId}{sz:Nat}{v:BD}{n:Nat}{xs:List BD}(h:w.ownsRow base e sz v n xs)(k:a<=base):w.ownsRow a e sz v n xs:=by
 obtain⟨h0,b⟩:=h;refine⟨h0,?_⟩;rcases b with b|⟨g,cap,cur,rfl,d,c⟩
 ·exact .inl b
 ·exact .inr ⟨g,cap,cur,rfl,by omega,c⟩
theorem ZU(a:Option Addr)(len cap:Nat)(es:List aK)(f:Int)(w:xn)(h:bI w a len cap es)(hT:Ff w):
  Eb xh 63 #[.slice a len cap,.int .i64 f] w fun e w'=>∃v ts,e= .returned (.tuple #[v,.int .i64 (je es f)])/\qV w' w.heap.size v ts/\Pl.flat ts=KC es f/\qh w.heap.size w w':=by
 have Y:=ae h;have EU:=ae hT;clear h hT;obtain⟨X,I⟩:=ai (Pl.fault es);go_enter Tryz.func63,Tryz.ntmps63;go_wp2_with fail;refine(dS a len cap es w Y.out).mono ?_;rw [I.out];rintro e s ⟨rfl,G⟩;have o:=ae G;clear G;by_cases q:X=0
 ·subst q;by_cases L:0<=f/\f<=11
  ·obtain⟨n,rfl⟩:∃n:Nat,f=n:=⟨f.toNat,by omega⟩
   have V:n<12:=by omega
   have j:decide (0<=(n:Int)/\(n:Int)<=11)=true:=by simp;omega
   have p:xk (je es n=0):=ae (by unfold je;rw [I.out,ag (by simp),af (by omega)]);go_wp2_with (go_at_call 72;refine(aZ _ _).mono ?_;rw [j];rintro e w' ⟨rfl,d⟩;rw [d];clear d w');go_loopw [18] (fun i wr=>∃k:Nat,k<=12/\i= .int .i64 k/\xk (iL wr s.heap.size (fun i=>decide (i<k)&&Pl.tD es i) (fun i=>if i<k then Pl.tS es i else []))/\xk (qh s.heap.size s wr)) (fun i _=>12-(Iy i).toNat)
   case atStart=>exact⟨0,by omega,rfl,(iL.new s _ (by kernel_rfl)).ext (fun i _=>by simp) (fun i _=>by simp),(oP _ _).alloc (oC _) _⟩
   case round=>
    obtain⟨k,hk,rfl,N,Z⟩:=hrel;have J:=ae (o.out.trans (Z.out.mono o.out.size));have ad:=N.out.lt;by_cases aa:k<12
    ·go_wp2_with fail;refine(Nr a len cap es k wr (Y.out.below J.out) (by omega) (by omega) (EU.out.below J.out)).mono ?_;rintro e T ⟨vl,rfl,C,c⟩;obtain⟨a2,H,rfl,B,_,t⟩:=aU.shape C (lW _).ok.vG;have P:=ae B;have SI:=ae t;have m:=ae c;have l:=ae (N.out.below c);clear C B t c;obtain⟨V2,g1,_⟩:=l.out;have c0:=g1.cell (k*2) (by omega);have c1:=g1.cell (k*2+1) (by omega);have f0:=g1.soft (k*2);have f1:=g1.soft (k*2+1);have ak:=g1.lt;clear g1;go_wp2_with fail;go_roundw
     case rel=>
      refine⟨k+1,by omega,by go_num,(l.out.set k _ a2 _ H _ (fun x hx=> ?_) P.out).ext (fun i D=> ?_) (fun i D=> ?_),ae (((Z.out.trans (m.out.mono (by omega))).setCell (oC _) _).setCell (oC _) _)⟩
      ·have:=SI.out x hx;omega
      ·by_cases g:i=k
       ·subst g;rw [gU];simp [Pl.tD]
       ·rw [jE _ _ g,show decide (i<k+1)=decide (i<k)from decide_eq_decide.2 (by omega)]
      ·by_cases g:i=k
       ·subst g;rw [gU,af (by omega)];rfl
       ·rw [jE _ _ g];by_cases W:i<k
        ·rw [af W,af (by omega)]
        ·rw [ag W,ag (by omega)]
     case measure=>simp [Iy];omega
    ·obtain rfl:k=12:=by omega
     have UN:=ae (N.out.ext (D':=Pl.tD es) (ps':=Pl.tS es) (fun i D=>by simp [D]) (fun i D=>by rw [af D]));have lD:xk (∀i,i<12->ng (Pl.tS es i)):=ae fun i _=>(lW _).ok;have HL:xk (∀a b,yN (Pl.tS es) a b<=1000):=ae fun x y=>by
      unfold yN;split
      ·exact(KO (lW _).ok y).2
      ·omega
     go_wp2_with fail;refine(IW n V wr).mono ?_;rintro e T ⟨rfl,A,c⟩;have O:=ae A;have m:=ae c;have l:=ae (UN.out.below c);clear A c;go_wp2_with fail;refine(aa0 wr.heap.size s.heap.size n (Pl.tD es) (Pl.tS es) T O.out l.out (by omega) V lD.out HL.out).mono ?_;rintro e w3 ⟨rfl,z,u⟩;have Ai:=ae z;have M:=ae u;clear z u;go_wp2_with fail;refine(XF wr.heap.size n _ w3 Ai.out).mono ?_;rintro e w4 ⟨v,ts,rfl,S,E,F⟩;have U:=ae S;have Q:=ae E;have R:=ae F;clear S E F;go_wp2_with fail;have K:=J.out.size;have r:xk (qh w.heap.size w w3):=ae ((J.out.trans (m.out.mono K)).trans (M.out.below K (OI K m.out.size)));refine xx (UQ rfl _ _ _) rfl ⟨v,ts,ni rfl p.out.symm,?_,?_,r.out.trans (R.out.mono r.out.size)⟩
     ·exact⟨World.dh U.out.1 r.out.size,U.out.2⟩
     ·rw [Q.out];unfold KC;rw [p.out,af rfl,OM]
  ·have j:decide (0<=f/\f<=11)=false:=by simp;omega
   have p:xk (je es f=2):=ae (by unfold je;rw [I.out,ag (by simp),ag L]);go_wp2_with (go_at_call 72;refine(aZ _ _).mono ?_;rw [j];rintro e w' ⟨rfl,d⟩;rw [d];clear d w');refine xx (UQ rfl _ _ _) rfl ⟨_,[],ni rfl p.out.symm,qV.nil _ _,?_,o.out⟩;unfold KC;rw [p.out,ag (by decide)];rfl
 ·have p:xk (je es f=X):=ae (by unfold je;rw [I.out,af q]);go_wp2_with fail;refine xx (UQ rfl _ _ _) rfl ⟨_,[],ni rfl p.out.symm,qV.nil _ _,?_,o.out⟩;unfold KC;rw [p.out,ag q];rfl
def Pl.nN(s:Pl.Nt)(to:Nat)(bs:List UInt8):Int:=if kP bs=0 then dY (s.K to) (mf bs)else kP bs
def Pl.qm(s:Pl.Nt)(to:Nat)(bs:List UInt8):List ByteArray:=if nN s to bs=0 then gW (s.K to) (mf bs)else []
def Pl.oN(s:Pl.Nt)(to:Nat)(bs:List UInt8):Pl.Nt:=if nN s to bs=0 then{s with K:=cZ s.K to (iJ (s.K to) (mf bs))}else s
theorem NQ(B:Nat)(s:Pl.Nt)(to:Nat)(a:Option Addr)(len cap:Nat)(l:List UInt8)(w:xn)(h:aT w B s)(z:to<12)(U:∀e∈s.K to,e.ok)(Z:dF w a len cap l):
  Eb xh 165 #[.pointer (some ⟨B,0,none⟩),.int .i64 to,.slice a len cap] w fun e w'=>
   ∃vk,e= .returned (.agg #[.int .i64 (nN s to l),.slice none 0 0,.int .i64 0,vk])/\bF w' w.heap.size vk (qm s to l)/\aT w' B (oN s to l)/\bG B w w':=by
 have HN:=ae h;have Q:=ae Z;have bh:=h.lt;have lD:=ae U;clear h Z U;have bc:(to:Int)<12:=by omega
 obtain⟨o,y⟩:=ai (nN s to l);obtain⟨ks,G⟩:=ai (qm s to l);obtain⟨sn,yQ⟩:=ai (oN s to l);obtain⟨d,HD⟩:=ai (kP l);obtain⟨O,HO⟩:=ai (mf l);have pX:xk (o=if d=0 then dY (s.K to) O else d):=ae (by rw [<-y.out,<-HO.out,<-HD.out];rfl);have Xf:xk (o=0->ks=gW (s.K to) O):=ae fun e=>by rw [<-G.out];unfold qm;rw [y.out,af e,HO.out]
 have av:xk (o≠0->ks= []):=ae fun e=>by rw [<-G.out];unfold qm;rw [y.out,ag e]
 have Cm:xk (o=0->sn={s with K:=cZ s.K to (iJ (s.K to) O)}):=ae fun e=>by rw [<-yQ.out];unfold oN;rw [y.out,af e,HO.out]
 have ad:xk (o≠0->sn=s):=ae fun e=>by rw [<-yQ.out];unfold oN;rw [y.out,ag e]
 have HG:xk (d=0->Pl.fault O=0):=ae fun e=>by rw [<-HO.out];exact(xm (by rw [HD.out,e])).1
 rw [y.out,G.out,yQ.out];have xM:=ae (fun(c:Int) (W:xn)=>fJ c W);obtain⟨W1,q⟩:=aV (w.alloc (.cells #[.int .i64 0,.slice none 0 0,.int .i64 0,.slice none 0 0] 40));have nH:xk (W1.heap[w.heap.size]? =some (.cells #[.int .i64 0,.slice none 0 0,.int .i64 0,.slice none 0 0] 40)):=ae (by rw [q.out];exact bW _ _);have F:xk (qh w.heap.size w W1):=ae (by rw [q.out];exact(oP _ _).alloc (oC _) _);have bb:W1.heap.size=w.heap.size+1:=by rw [q.out];simp
 have a7:B≠w.heap.size:=by omega
 have u:w.heap.size≠B:=by omega
 have hle:w.heap.size<=w.heap.size:=oC _;have SX:xk (∀(c:Int) (D:xn),qh w.heap.size w D->D.heap[w.heap.size]? =some (.cells #[.int .i64 0,.slice none 0 0,.int .i64 0,.slice none 0 0] 40)->o=c->c≠0->
   ∃vk,Pe (.agg #[.int .i64 c,.slice none 0 0,.int .i64 0,.slice none 0 0])= .returned (.agg #[.int .i64 o,.slice none 0 0,.int .i64 0,vk])/\bF (jy D w.heap.size (.int .i64 c) (.slice none 0 0) (.int .i64 0) (.slice none 0 0)) w.heap.size vk ks/\aT (jy D w.heap.size (.int .i64 c) (.slice none 0 0) (.int .i64 0) (.slice none 0 0)) B sn/\bG B w (jy D w.heap.size (.int .i64 c) (.slice none 0 0) (.int .i64 0) (.slice none 0 0))):=ae fun c D hb hx e hc=>by
  have x:qh w.heap.size w (jy D w.heap.size (.int .i64 c) (.slice none 0 0) (.int .i64 0) (.slice none 0 0)):=(((hb.setCell (p:=⟨w.heap.size,0,none⟩) hle _).setCell (p:=⟨w.heap.size,1,none⟩) hle _).setCell (p:=⟨w.heap.size,2,none⟩) hle _).setCell (p:=⟨w.heap.size,3,none⟩) hle _;refine⟨_,by rw [e],?_,?_,bG.of (aI.of x)⟩
  ·rw [av.out (by rw [e];exact hc)];exact bF.nil _ _
  ·rw [ad.out (by rw [e];exact hc)];exact HN.out.below x
 clear y G yQ;go_enter Tryz.func165,Tryz.ntmps165;go_wp2_with fail;rw [<-q.out];refine(TC a len cap l W1 (Q.out.below F.out)).mono ?_;rw [HD.out,HO.out];rintro e w2 ⟨v2,rfl,V,n⟩;have SI:=ae ((n.block _ (by omega)).trans nH.out);have k:=ae (F.out.trans (n.mono F.out.size));have yR:=ae V;have ba:=n.size;clear V n;by_cases J:d=0
 ·have g:xk (o=dY (s.K to) O):=ae (by rw [pX.out,af J]);have MQ:=ae (HG.out J);clear pX HG HD;subst J;obtain⟨VP,VK,VT,h1,h2,h3,h4,h5⟩:=HN.out.below k.out;obtain⟨ka,kc,ev,X,t,aE⟩:=(h3 to z).shape lD.out;obtain⟨va,vc,rfl,T,aw,ay⟩:=yR.out.shape (Pl.Good.ok ((bK O).1 MQ.out));have m:=h1.lq to z;rw [ev]at m;have aa:=h1.lt;have Y:=h1.soft (to*4+2);obtain⟨R,aq⟩:=ai (dY (s.K to) O);have j:=ae (WT ka _ kc (s.K to) va _ vc O w2 X t T);rw [aq.out]at j g;obtain⟨nk,CE⟩:=ai ((s.K to).length);obtain⟨no,UO⟩:=ai (O.length);rw [CE.out]at j m;rw [UO.out]at j⊢;clear h1 h2 h3 h4 h5 ev X t aE T aw ay yR;go_wp2_with fail;refine j.out.mono ?_;rintro e w3 ⟨vo,vk,rfl,A,C,i⟩;have UM:=ae ((i.block _ (by omega)).trans SI.out);have r:=ae (k.out.trans (i.mono k.out.size))
  have an:=ae (HN.out.below r.out);have aM:=(i.cell (p:=⟨B,to*4+2,none⟩) aa).trans m;have aR:=(i.frozen (p:=⟨B,to*4+2,none⟩) aa).trans Y;have a8:=i.size;obtain⟨sa,sc,rfl⟩:=az A;obtain⟨I,H,rfl⟩:=az C;have ak:=ae (Own.mono A (show B+1<=w2.heap.size by omega));have ar:xk (bF w3 w.heap.size (.slice I (gW (s.K to) O).length H) (gW (s.K to) O)):=ae (World.dh C (by omega));have bj:B<w3.heap.size:=by omega
  obtain⟨n3,pW⟩:=ai ((iJ (s.K to) O).length);obtain⟨S,Xx⟩:=ai ((gW (s.K to) O).length);rw [pW.out]at ak⊢;rw [Xx.out]at ar⊢;clear A C i m Y;obtain⟨⟨P,N,M,L⟩,yf,yl⟩:=aS UM.out;by_cases hm:R=0
  ·have G:=ae (Xf.out (g.out.trans hm));have a6:=ae (Cm.out (g.out.trans hm));clear Xf av Cm ad SX j aq;subst hm;go_wp2_with fail;obtain⟨WS,ET⟩:=aV (w3.setCell ⟨B,to*4+2,none⟩ (.slice sa n3 sc));have Q:xk (aI B w3 WS):=ae (by rw [ET.out];exact(aI.refl B w3).setCell _ _);have yP:=ae ((Q.out.block _ yl u).trans UM.out);rw [<-ET.out];obtain⟨Wf,uC⟩:=aV (jy WS w.heap.size (.int .i64 0) (.slice none 0 0) (.int .i64 0) (.slice I S H));have gX:aI w.heap.size WS Wf:=by rw [uC.out];exact jF (aI.refl w.heap.size WS) _ _ _ _
   have aL:Wf.heap[w.heap.size]? =some (.cells #[.int .i64 0,.slice none 0 0,.int .i64 0,.slice I S H] 40):=by
    rw [uC.out];exact lL yP.out _ _ _ _
   have aD:bF Wf w.heap.size (.slice I S H) (gW (s.K to) O):=qx (Ud ar.out Q.out (an.out.blk)) gX yP.out;obtain⟨⟨z0,z1,z2,z3⟩,_,_⟩:=aS aL;rw [show(((WS.setCell ⟨w.heap.size,0,none⟩ (.int .i64 0)).setCell ⟨w.heap.size,1,none⟩ (.slice none 0 0)).setCell ⟨w.heap.size,2,none⟩ (.int .i64 0)).setCell ⟨w.heap.size,3,none⟩ (.slice I S H)=Wf from uC.out.symm];refine xx (v:= .agg #[.int .i64 0,.slice none 0 0,.int .i64 0,.slice I S H]) (by simp [results,Tryz.results165,go_sem,z0,z1,z2,z3]) rfl ⟨_,by rw [g.out],?_,?_,?_⟩
   ·rw [G.out];exact aD
   ·rw [a6.out];refine aT.ql ?_ gX yP.out u;rw [ET.out];exact an.out.wG to z (.slice sa n3 sc) _ ak.out
   ·exact bG.of (aI.over ((aI.of r.out:aI B w w3).trans Q.out) gX hle)
  ·have bd:(R != 0)=true:=by simpa using hm
   clear P N M L yf yl aM aR;go_wp2_with fail;refine(xM.out R _).mono ?_;rintro e w4 ⟨rfl,f⟩;have b:=(f.block _ (by omega)).trans UM.out;have E:=ae (r.out.trans (f.mono r.out.size));have Ed:=ae (SX.out R w4 E.out b g.out hm);obtain⟨⟨P,N,M,L⟩,yf,yl⟩:=aS b;clear f b;go_wp2_with fail;exact xx (v:= .agg #[.int .i64 R,.slice none 0 0,.int .i64 0,.slice none 0 0]) (by simp [results,Tryz.results165,go_sem,P,N,M,L]) rfl Ed.out
 ·have bg:(d != 0)=true:=by simpa using J
  have g:xk (o=d):=ae (by rw [pX.out,ag J]);obtain⟨sa,sc,rfl⟩:=az yR.out;go_wp2_with fail;refine(xM.out d _).mono ?_;rintro e w4 ⟨rfl,f⟩;have b:=(f.block _ (by omega)).trans SI.out;have E:=ae (k.out.trans (f.mono k.out.size));have Ed:=ae (SX.out d w4 E.out b g.out J);obtain⟨⟨P,N,M,L⟩,yf,yl⟩:=aS b;clear f b;go_wp2_with fail;exact xx (v:= .agg #[.int .i64 d,.slice none 0 0,.int .i64 0,.slice none 0 0]) (by simp [results,Tryz.results165,go_sem,P,N,M,L]) rfl Ed.out
def SV.bytes(base:Nat)(bs:List UInt8):SV:=⟨fun u W=>gQ W base u bs,fun _ _ _ hb h=>h.below hb⟩
theorem Yy{Q:Exit->Act->xn->Prop}{a0:Act}{f:xn}{B xb a m n:Nat}{q:Option Addr}{es:List aK}
  (u:a0.tmps.size=58)
  (N:a0.tmps[0]?.getD rU= .pointer (some ⟨B,0,none⟩))
  (M:a0.tmps[3]?.getD rU= .pointer (some ⟨xb,0,none⟩))
  (X:B<f.heap.size)
  (R:xb<f.heap.size)
  (Z:f.cell? ⟨xb,1,none⟩=some (.int .i64 a))
  (KN:f.cell? ⟨B,a*4+2,none⟩=some (.slice q m n))
  (ha:(a:Int)<12)
  (HK:bI f q m n es)
  (U:∀xs W,xs.length=31->gQ W f.heap.size (xs.getD 0 rU) (uT es)->(xs.getD 1 rU)= .int .i64 (Pl.fault es)->qh f.heap.size f W->Q .normal {a0 with tmps:=setFrom a0.tmps 5 xs} W):
  ∀ops,dX aai 5=some ops->(aae 5 ops true).wp xh Q a0 f:=by
 intro ops aH;have Y:=Rz (aH.symm.trans (rfl:dX aai 5=some _));subst Y;clear aH;have d:5+31<=a0.tmps.size:=by omega
 refine Tf (by kernel_rfl) ?_;refine cO (kC a0 5 31 14 (fun k=>some (([20,21,22,23,24,25,26,27,28,19,29,30,0,1]:List Nat).getD k 0)) (SV.V [SV.bytes f.heap.size (uT es),SV.eq (.int .i64 (Pl.fault es)),SV.any,SV.any,SV.any,SV.any,SV.any,SV.any,SV.any,SV.any,SV.any,SV.any,SV.any,SV.any,SV.any,SV.any,SV.any,SV.any,SV.any,SV.two (SV.bytes f.heap.size (uT es)) (Pl.fault es),SV.eq (.pointer (some ⟨B,0,none⟩)),SV.eq (.pointer (some ⟨xb,1,none⟩)),SV.eq (.int .i64 a),SV.eq (.pointer (some ⟨B,0,none⟩)),SV.eq (.pointer (some ⟨B,0,none⟩)),SV.eq (.pointer (some ⟨B,a*4,none⟩)),SV.eq (.pointer (some ⟨B,a*4+2,none⟩)),SV.eq (.slice q m n),SV.two (SV.bytes f.heap.size (uT es)) (Pl.fault es),SV.bytes f.heap.size (uT es),SV.eq (.int .i64 (Pl.fault es))]) (fun W=>qh f.heap.size f W)) ?_ ?_ _ _ _ _ (by decide+kernel) ?_ (bn _ _ _)
 ·rintro i listed g W J jS b;rw [aab]at J;obtain⟨T,o,x,c⟩:=J;have sN:i<14:=(Array.getElem?_eq_some_iff.1 x).1;have P:=(b.out (k:=0) (by omega)).trans N;have O:=(b.out (k:=3) (by omega)).trans M;have L:=(b.cw.cell (p:=⟨xb,1,none⟩) R).trans Z;have kn:=(b.cw.cell (p:=⟨B,a*4+2,none⟩) X).trans KN;have y:i=0\/i=1\/i=2\/i=3\/i=4\/i=5\/i=6\/i=7\/i=8\/i=9\/i=10\/i=11\/i=12\/i=13:=by omega
  rcases y with rfl|rfl|rfl|rfl|rfl|rfl|rfl|rfl|rfl|rfl|rfl|rfl|rfl|rfl
  all_goals
   simp at x;subst x
  ·refine au rfl rfl ?_;simp [qL,go_sem,P];exact b.put (i:=0) (j:=20) rfl (by omega) (fun _ _ h=>h) rfl b.cw
  ·refine au rfl rfl ?_;simp [qL,go_sem,O];exact b.put (i:=1) (j:=21) rfl (by omega) (fun _ _ h=>h) rfl b.cw
  ·refine au rfl rfl ?_;have H:g.tmps[26]?.getD rU= .pointer (some ⟨xb,1,none⟩):=b.at (k:=1) (j:=21) d rfl (by omega) (c ⟨1,.data⟩ (by simp) rfl);simp [qL,go_sem,H,L];exact b.put (i:=2) (j:=22) rfl (by omega) (fun _ _ h=>h) rfl b.cw
  ·refine au rfl rfl ?_;have I:g.tmps[25]?.getD rU= .pointer (some ⟨B,0,none⟩):=b.at (k:=0) (j:=20) d rfl (by omega) (c ⟨0,.data⟩ (by simp) rfl);simp [qL,go_sem,I];exact b.put (i:=3) (j:=23) rfl (by omega) (fun _ _ h=>h) rfl b.cw
  ·refine au rfl rfl ?_;have F:g.tmps[28]?.getD rU= .pointer (some ⟨B,0,none⟩):=b.at (k:=3) (j:=23) d rfl (by omega) (c ⟨3,.data⟩ (by simp) rfl);simp [qL,go_sem,F];exact b.put (i:=4) (j:=24) rfl (by omega) (fun _ _ h=>h) rfl b.cw
  ·refine au rfl rfl ?_;have E:g.tmps[29]?.getD rU= .pointer (some ⟨B,0,none⟩):=b.at (k:=4) (j:=24) d rfl (by omega) (c ⟨4,.data⟩ (by simp) rfl);have G:g.tmps[27]?.getD rU= .int .i64 a:=b.at (k:=2) (j:=22) d rfl (by omega) (c ⟨2,.data⟩ (by simp) rfl);simp [qL,go_sem,E,G,ha];exact b.put (i:=5) (j:=25) rfl (by omega) (fun _ _ h=>h) rfl b.cw
  ·refine au rfl rfl ?_;have D:g.tmps[30]?.getD rU= .pointer (some ⟨B,a*4,none⟩):=b.at (k:=5) (j:=25) d rfl (by omega) (c ⟨5,.data⟩ (by simp) rfl);simp [qL,go_sem,D];exact b.put (i:=6) (j:=26) rfl (by omega) (fun _ _ h=>h) rfl b.cw
  ·refine au rfl rfl ?_;have C:g.tmps[31]?.getD rU= .pointer (some ⟨B,a*4+2,none⟩):=b.at (k:=6) (j:=26) d rfl (by omega) (c ⟨6,.data⟩ (by simp) rfl);simp [qL,go_sem,C,kn];exact b.put (i:=7) (j:=27) rfl (by omega) (fun _ _ h=>h) rfl b.cw
  ·refine au rfl rfl ?_;have A:g.tmps[32]?.getD rU= .slice q m n:=b.at (k:=7) (j:=27) d rfl (by omega) (c ⟨7,.data⟩ (by simp) rfl);simp [qL,go_sem,A];refine(TA q m n es W (HK.below b.cw)).mono ?_;rintro e W' ⟨v,rfl,w,r⟩;exact b.put (i:=8) (j:=28) rfl (by omega) (SV.grow r) ⟨_,rfl,w.mono b.cw.size⟩ (b.cw.trans (r.mono b.cw.size))
  ·refine au rfl rfl ?_;obtain⟨l,hl,hp⟩:=b.at (k:=8) (j:=28) d rfl (by omega) (c ⟨8,.data⟩ (by simp) rfl);have hl:g.tmps[33]?.getD rU=_:=hl;simp [qL,go_sem,hl];exact b.put (i:=9) (j:=19) rfl (by omega) (fun _ _ h=>h) ⟨l,rfl,hp⟩ b.cw
  ·refine au rfl rfl ?_;obtain⟨l,hl,hp⟩:=b.at (k:=9) (j:=19) d rfl (by omega) (c ⟨9,.data⟩ (by simp) rfl);have hl:g.tmps[24]?.getD rU=_:=hl;simp [qL,go_sem,hl];exact b.put (i:=10) (j:=29) rfl (by omega) (fun _ _ h=>h) hp b.cw
  ·refine au rfl rfl ?_;obtain⟨l,hl,hp⟩:=b.at (k:=9) (j:=19) d rfl (by omega) (c ⟨9,.data⟩ (by simp) rfl);have hl:g.tmps[24]?.getD rU=_:=hl;simp [qL,go_sem,hl];exact b.put (i:=11) (j:=30) rfl (by omega) (fun _ _ h=>h) rfl b.cw
  ·refine au rfl rfl ?_;have h0:=b.at (k:=10) (j:=29) d rfl (by omega) (c ⟨10,.data⟩ (by simp) rfl);simp [qL,go_sem];exact b.put (i:=12) (j:=0) rfl (by omega) (fun _ _ h=>h) h0 b.cw
  ·refine au rfl rfl ?_;have z:g.tmps[35]?.getD rU= .int .i64 (Pl.fault es):=b.at (k:=11) (j:=30) d rfl (by omega) (c ⟨11,.data⟩ (by simp) rfl);simp [qL,go_sem,z];exact b.put (i:=13) (j:=1) rfl (by omega) (fun _ _ h=>h) rfl b.cw
 ·rintro listed g W S b;have s:=dm (by decide+kernel) b.ls S;obtain⟨xs,t,rfl,K⟩:=b.fr;exact U xs W t (K 12 0 rfl (s 12 (by decide))) (K 13 1 rfl (s 13 (by decide))) b.cw
 ·exact kC.start d (oP _ _).drew
namespace Pl
theorem Zi{es:List aK}(h:fault es=0):es.length<=60/\∀e∈es,e.may=true:=by
 obtain⟨b,a,_⟩:=(bK es).1 h;exact⟨b,a⟩
theorem OY:∀{es:List aK},(∀e∈es,e.may=true)->(encL es).length<=es.length*138
 | [],_=>by simp [encL]
 |e::r,h=>by
  have c:=Hg (h e (by simp));have b:=OY (es:=r) (fun x a=>h x (by simp [a]));simp only [encL,Uz,OO];omega
theorem UC{es:List aK}(h:fault es=0):6<=(enc es).length/\(enc es).length<=8286/\(body es).length+4=(enc es).length:=by
 obtain⟨d,a⟩:=Zi h;have c:=OY a;have b:(body es).length=(encL es).length+2:=by unfold body;simp
 have he:(enc es).length=(body es).length+4:=by unfold enc;simp [C9]
 omega
end Pl
theorem Ya{w:xn}{b:Nat}{cs:Array BD}{T:TypeId}{z:Nat×Nat}{o:Nat}{v:BD}(h:w.heap[b]? =some (.cells cs T z)):
  (w.setCell ⟨b,o,none⟩ v).heap[b]? =some (.cells (cs.setIfInBounds o v) T z):=by
 simp only [Qe,SN,h];simp
theorem gQ.opened{w:xn}{base:Nat}{v:BD}{a:List UInt8}(h:gQ w base v a)(l:0<a.length):
  ∃g cap,v= .slice (some ⟨g,0,none⟩) a.length cap/\base<=g/\g<w.heap.size/\a.length<=cap/\cap<=BG/\
   (∀(i:Nat) (f:i<a.length),w.cell? ⟨g,i,none⟩=some (.int .u8 (a[i].toNat:Int))/\w.frozen? ⟨g,i,none⟩=false)/\
   (∀(i:Nat) (x:UInt8),gQ (w.setCell ⟨g,i,none⟩ (.int .u8 (x.toNat:Int))) base v (a.set i x)):=by
 obtain⟨hl,h|⟨g,cap,cur,rfl,j,hh,c,hm,k,e⟩⟩:=h
 ·obtain⟨_,c⟩:=h;omega
 ·refine⟨g,cap,rfl,j,lt_of_block hh,c,hm,?_,?_⟩
  ·intro i f;constructor
   ·have b:(dH a)[i]? =some (.int .u8 (a[i].toNat:Int)):=by simp [dH,f]
    rw [<-e]at b;have d:cur[i]? =some (.int .u8 (a[i].toNat:Int)):=by
     rw [List.getElem?_take]at b;split at b
     ·rw [<-Array.getElem?_toList];exact b
     ·cases b
    simp [World.cell?,hh,d]
   ·simp [World.frozen?,hh]
  ·intro i x;refine⟨by simp [dH],.inr ⟨g,cap,cur.setIfInBounds i (.int .u8 (x.toNat:Int)),by simp,j,Ya hh,by simpa using c,hm,by simpa using k,?_⟩⟩;rw [Array.toList_setIfInBounds,List.take_set,X6,e];simp [dH]
def Pl.flip(x:UInt8):UInt8:=x^^^1
theorem V6(x:UInt8):bits aag Z5 (x.toNat:Int) 1=((Pl.flip x).toNat:Int):=by
 have key:∀n:Fin 256,bits aag Z5 ((n:Nat):Int) 1=((Pl.flip (UInt8.ofNat n)).toNat:Int):=by decide+kernel
 have:=key ⟨x.toNat,x.toNat_lt⟩;simpa using this
def Pl.lM(es:List aK)(n:Int):List UInt8:=if 0<=n then(Pl.enc es).set (n.toNat%(Pl.enc es).length) (Pl.flip ((Pl.enc es).getD (n.toNat%(Pl.enc es).length) 0))else Pl.enc es
def Pl.qi(s:Pl.Nt)(x:Pl.Ac):Int:=if¬(0<=x.b/\x.b<=11)then 2 else if s.L x.a.toNat x.b.toNat=0 then 6 else 0
def Pl.tC(s:Pl.Nt)(x:Pl.Ac):Int:=if qi s x=0 then nN s x.b.toNat (lM (s.K x.a.toNat) x.n)else qi s x
def Pl.tu(s:Pl.Nt)(x:Pl.Ac):List ByteArray:=if qi s x=0 then qm s x.b.toNat (lM (s.K x.a.toNat) x.n)else []
def Pl.qZ(s:Pl.Nt)(x:Pl.Ac):Pl.Nt:=if qi s x=0 then oN s x.b.toNat (lM (s.K x.a.toNat) x.n)else s
theorem bG.over{B X:Nat}{a b c:xn}(h:bG B a b)(k:aI X b c)(g:a.heap.size<=X):bG B a c:=
 ⟨k.os.trans h.os,k.tape.trans h.tape,k.output.trans h.output,OI h.size k.size,fun i d f e=>(k.block i (Ee d h.size) (by omega)).trans (h.block i d f e)⟩
theorem Oh(B:Nat)(s:Pl.Nt)(x:Pl.Ac)(a:Nat)(w:xn)(h:aT w B s)(av:x.a=a)(ha:a<12)(hf:∀i,i<12->Pl.fault (s.K i)=0)(bq:x.n<=9223372036854775807):
  Eb xh 116 #[.pointer (some ⟨B,0,none⟩),.agg #[.int .i64 x.kind,.int .i64 x.a,.int .i64 x.b,.int .i64 x.n,.int .i64 x.m,.int .i64 x.p.1,.int .i64 x.p.2,.string x.key,.string x.val]] w fun e w'=>
   ∃vk,e= .returned (.agg #[.int .i64 (tC s x),.slice none 0 0,.int .i64 0,vk])/\bF w' w.heap.size vk (tu s x)/\aT w' B (qZ s x)/\bG B w w':=by
 have HN:=ae h;have cB:=h.lt;have HF:=ae hf;clear h hf;obtain⟨H,jC⟩:=ai (tC s x);obtain⟨ks,uB⟩:=ai (tu s x);obtain⟨sn,yQ⟩:=ai (qZ s x);have ak:xk (qi s x≠0->H=qi s x/\ks= []/\sn=s):=ae fun e=>by
  refine⟨?_,?_,?_⟩
  ·rw [<-jC.out];unfold tC;rw [ag e]
  ·rw [<-uB.out];unfold tu;rw [ag e]
  ·rw [<-yQ.out];unfold qZ;rw [ag e]
 have D:xk (qi s x=0->H=nN s x.b.toNat (lM (s.K x.a.toNat) x.n)/\ks=qm s x.b.toNat (lM (s.K x.a.toNat) x.n)/\sn=oN s x.b.toNat (lM (s.K x.a.toNat) x.n)):=ae fun e=>by
  refine⟨?_,?_,?_⟩
  ·rw [<-jC.out];unfold tC;rw [af e]
  ·rw [<-uB.out];unfold tu;rw [af e]
  ·rw [<-yQ.out];unfold qZ;rw [af e]
 have j:xk (qi s x=if¬(0<=x.b/\x.b<=11)then 2 else if s.L x.a.toNat x.b.toNat=0 then 6 else 0):=ae rfl;rw [jC.out,uB.out,yQ.out];clear jC uB yQ;obtain⟨fc,bj⟩:=ai (qi s x);rw [bj.out]at ak D j;clear bj;obtain⟨kind,xa,b,n,m,⟨p1,p2⟩,key,val⟩:=x;simp only at av bq D j⊢;subst av;rw [OM]at D j;have bL:(a:Int)<12:=by omega
 have xM:=ae (fun(c:Int) (W:xn)=>fJ c W);obtain⟨b0,b1,bz,bb⟩:=two (w:=w) (.cells #[.int .i64 kind,.int .i64 (a:Int),.int .i64 b,.int .i64 n,.int .i64 m,.int .i64 p1,.int .i64 p2,.string key,.string val] 51) (.cells #[.int .i64 0,.slice none 0 0,.int .i64 0,.slice none 0 0] 40);obtain⟨Q,N⟩:=aV ((w.alloc (.cells #[.int .i64 kind,.int .i64 (a:Int),.int .i64 b,.int .i64 n,.int .i64 m,.int .i64 p1,.int .i64 p2,.string key,.string val] 51)).alloc (.cells #[.int .i64 0,.slice none 0 0,.int .i64 0,.slice none 0 0] 40));rw [<-N.out]at b0 b1 bz bb;obtain⟨q0,q1,q2,q3,q4,q5,q6,q7,q8⟩:=kz b0;have nH:=ae b1;have sU:=ae bb;have Q1:=ae q1;have Q2:=ae q2;have Q3:=ae q3;have S:w.heap.size<Q.heap.size:=by omega
 have OT:B<Q.heap.size:=by omega
 have hle:w.heap.size<=w.heap.size+1:=by omega
 have bR:B≠w.heap.size+1:=by omega
 have P:w.heap.size+1≠B:=by omega
 have SX:xk (∀(c:Int) (t:xn),qh w.heap.size w t->t.heap[w.heap.size+1]? =some (.cells #[.int .i64 0,.slice none 0 0,.int .i64 0,.slice none 0 0] 40)->fc=c->c≠0->
   ∃vk,Pe (.agg #[.int .i64 c,.slice none 0 0,.int .i64 0,.slice none 0 0])= .returned (.agg #[.int .i64 H,.slice none 0 0,.int .i64 0,vk])/\bF (jy t (w.heap.size+1) (.int .i64 c) (.slice none 0 0) (.int .i64 0) (.slice none 0 0)) w.heap.size vk ks/\aT (jy t (w.heap.size+1) (.int .i64 c) (.slice none 0 0) (.int .i64 0) (.slice none 0 0)) B sn/\bG B w (jy t (w.heap.size+1) (.int .i64 c) (.slice none 0 0) (.int .i64 0) (.slice none 0 0))):=ae fun c t hb hx e hc=>by
  obtain⟨r1,r2,r3⟩:=ak.out (by rw [e];exact hc);have d:qh w.heap.size w (jy t (w.heap.size+1) (.int .i64 c) (.slice none 0 0) (.int .i64 0) (.slice none 0 0)):=(((hb.setCell (p:=⟨w.heap.size+1,0,none⟩) hle _).setCell (p:=⟨w.heap.size+1,1,none⟩) hle _).setCell (p:=⟨w.heap.size+1,2,none⟩) hle _).setCell (p:=⟨w.heap.size+1,3,none⟩) hle _;refine⟨_,by rw [r1,e],?_,?_,bG.of (aI.of d)⟩
  ·rw [r2];exact bF.nil _ _
  ·rw [r3];exact HN.out.below d
 clear q0 q1 q2 q3 q4 q5 q6 q7 q8 b0 b1 bb;by_cases hb:0<=b/\b<=11
 ·have zq:decide (0<=b/\b<=11)=true:=by simpa using hb
  obtain⟨b,rfl⟩:∃k:Nat,b=k:=⟨b.toNat,by omega⟩
  rw [OM]at D j;have fE:b<12:=by omega
  have cz:(b:Int)<12:=by omega
  have yT:=ae (HN.out.below sU.out);obtain⟨VP,VK,VT,h1,h2,h3,h4,h5⟩:=yT.out;have aE:=h1.line a b ha fE;obtain⟨L,HL⟩:=ai (s.L a b);rw [HL.out]at aE j;by_cases hL:L=0
  ·have ar:xk (fc=6):=ae (by rw [j.out,ag (by omega),af hL]);subst hL;have q1:=Q1.out;have q2:=Q2.out;clear h1 h2 h3 h4 h5;go_enter Tryz.func116,Tryz.ntmps116;go_wp2_with (go_at_call 72;refine(aZ _ _).mono ?_;rw [zq];rintro e w' ⟨rfl,l⟩;rw [l];clear l w');rw [<-N.out];go_quiet (fail);go_wp2_with fail;refine(xM.out 6 _).mono ?_;rintro e w3 ⟨rfl,q⟩;have o:=(q.block _ (by show w.heap.size+1<Q.heap.size;omega)).trans nH.out;have a7:qh Q.heap.size Q w3:=(aO (oP _ _) nq).trans q;have u:=ae (sU.out.trans (a7.mono (by omega)));clear a7;have Ed:=ae (SX.out 6 w3 u.out o ar.out (by decide));obtain⟨⟨y0,y1,y2,y3⟩,yf,yl⟩:=aS o;clear q o;go_wp2_with fail;exact xx (v:= .agg #[.int .i64 6,.slice none 0 0,.int .i64 0,.slice none 0 0]) (by simp [results,Tryz.results116,go_sem,y0,y1,y2,y3]) rfl Ed.out
  ·have cA:(L==0)=false:=by simpa using hL
   have MQ:xk (fc=0):=ae (by rw [j.out,ag (by omega),ag hL]);obtain⟨r1,r2,r3⟩:=D.out MQ.out;have UT:=ae r1;have bm:=ae r2;have bl:=ae r3;have a8:xk (∀e∈s.K a,e.ok):=ae (Pl.Good.ok ((bK _).1 (HF.out a ha)));have bd:xk (∀e∈s.K b,e.ok):=ae (Pl.Good.ok ((bK _).1 (HF.out b fE)));have an:=ae (HF.out a ha);have UR:xk (uT (s.K a)=Pl.enc (s.K a)):=ae (by unfold uT;rw [an.out,af rfl]);have A:=ae (UC an.out);have q1:=Q1.out;have q2:=Q2.out;clear h1 h2 h3 h4 h5 hL r1 r2 r3 SX ak D j;go_enter Tryz.func116,Tryz.ntmps116;go_wp2_with (go_at_call 72;refine(aZ _ _).mono ?_;rw [zq];rintro e w' ⟨rfl,l⟩;rw [l];clear l w');rw [<-N.out];go_quiet (fail);go_wp2_with fail;rename_i K hK;clear q1 q2 aE;obtain⟨t,bg⟩:=aV (Q.drewN nq);rw [<-bg.out]
   have pG:xk (qh Q.heap.size Q t):=ae (by rw [bg.out];exact aO (oP _ _) _);have u:xk (qh w.heap.size w t):=ae (sU.out.trans (pG.out.mono (by omega)));have cp:=pG.out.size;obtain⟨VP,VK,VT,h1,h2,h3,h4,h5⟩:=HN.out.below u.out;obtain⟨ka,kc,ev,aL,aD,bA⟩:=(h3 a ha).shape a8.out;have V:=h1.lq a ha;rw [ev]at V;have bN:=h1.lt;refine Yy (B:=B) (xb:=w.heap.size) (a:=a) rfl rfl rfl bN (by omega) ((pG.out.cell (p:=⟨w.heap.size,1,none⟩) S).trans Q1.out) V bL aL ?_ _ (by kernel_rfl);rw [UR.out,an.out];intro xs W GI ho hc C;obtain⟨x0,x1,x2,x3,x4,x5,x6,x7,x8,x9,cn,cm,cl,pM,ck,cj,cg,cf,cc,cb,ca,zF,Au,EX,b9,b8,TF,b7,b6,b2,bX,rfl⟩:=aa' xs GI;have hc:x1= .int .i64 0:=hc;subst hc;have ho:gQ W t.heap.size x0 (Pl.enc (s.K a)):=ho
   have bo:xk (qh w.heap.size w W):=ae (u.out.trans (C.mono u.out.size));have g2:=(C.cell (p:=⟨w.heap.size,2,none⟩) (show w.heap.size<t.heap.size by omega)).trans ((pG.out.cell (p:=⟨w.heap.size,2,none⟩) S).trans Q2.out);have g3:=(C.cell (p:=⟨w.heap.size,3,none⟩) (show w.heap.size<t.heap.size by omega)).trans ((pG.out.cell (p:=⟨w.heap.size,3,none⟩) S).trans Q3.out);have ad:=ae ((C.block _ (by omega)).trans ((pG.out.block _ (by omega)).trans nH.out));have yw:=C.size;obtain⟨g,gc,rfl,cx,cv,aR,cu,Y,X⟩:=ho.opened (by have:=A.out.1;omega);obtain⟨I,vU⟩:=ai (Pl.enc (s.K a));rw [vU.out]at A ho aR Y X;rw [vU.out];have O:xk (lM (s.K a) n=if 0<=n then I.set (n.toNat%I.length) (Pl.flip (I.getD (n.toNat%I.length) 0))else I):=ae (by unfold lM;rw [vU.out]);have bO:=ae ho;have Iz:=ae Y;have bh:=ae X
   obtain⟨F,G⟩:=ai (I.length);have Rn:6<=F:=by have:=A.out.1;have:=G.out;omega
   have cr:F<=20000:=by have:=A.out.2.1;have:=G.out;omega
   rw [G.out];rw [G.out]at aR
   have pF:xk (∀(J:xn) (bt:List UInt8),bt=lM (s.K a) n->bt.length=F->qh w.heap.size w J->J.heap[w.heap.size+1]? =some (.cells #[.int .i64 0,.slice none 0 0,.int .i64 0,.slice none 0 0] 40)->gQ J t.heap.size (.slice (some ⟨g,0,none⟩) F gc) bt->
     Eb xh 165 #[.pointer (some ⟨B,0,none⟩),.int .i64 (b:Int),.slice (some ⟨g,0,none⟩) F gc] J fun e w'=>∃z E y,e= .returned (.agg #[.int .i64 H,.slice none 0 0,.int .i64 0,.slice z E y])/\w'.heap[w.heap.size+1]? =some (.cells #[.int .i64 0,.slice none 0 0,.int .i64 0,.slice none 0 0] 40)/\
      ∀r,aI (w.heap.size+1) w' r->bF r w.heap.size (.slice z E y) ks/\aT r B sn/\bG B w r):=ae fun J bt e1 e2 aa T br=>by
    obtain⟨ba,bc,We,a6,_,_⟩:=br.shape;rw [e2]at We a6
    cases We;have aw:=NQ B s b _ F _ bt J (HN.out.below aa) fE bd.out a6;rw [e1,<-UT.out,<-bm.out,<-bl.out]at aw;refine aw.mono ?_;rintro e M ⟨vk,rfl,aM,bx,ay⟩;obtain⟨z,y,rfl⟩:=az aM;have f:M.heap[w.heap.size+1]? =some (.cells #[.int .i64 0,.slice none 0 0,.int .i64 0,.slice none 0 0] 40):=(ay.block _ (aG T) P (.inr (by intro cur m e;rw [T]at e;simp at e))).trans T;refine⟨z,_,y,rfl,f,fun r gX=>⟨?_,bx.ql gX f P,((bG.of (aI.of aa)).trans ay).over gX hle⟩⟩;exact qx (World.dh aM aa.size) gX f
   clear GI ho C h1 h2 h3 h4 h5 ev aL aD bA V Y X UT bm bl a8 bd UR;simp only [dC,spl];refine hK _ W ?_;by_cases U:0<=n
   ·have bw:decide (0<=n)=true:=by simpa using U
    obtain⟨k,HK⟩:=ai (n.toNat%F);have ct:k<F:=by rw [<-HK.out];exact Nat.mod_lt _ (by omega)
    have bS:(k:Int)<(F:Int):=by omega
    have Rk:n.tmod (F:Int)=(k:Int):=by
     rw [Qi U,<-HK.out];have:n=(n.toNat:Int):=by omega
     rw [this];simp
    have cq:((F:Int)==0)=false:=by simp;omega
    obtain⟨bE,cy⟩:=Iz.out k (by have:=G.out;omega);obtain⟨c,HC⟩:∃c,xk (I[k]'(by have:=G.out;omega)=c):=⟨_,ae rfl⟩
    rw [HC.out]at bE;have bp:=V6 c;obtain⟨fb,bk⟩:∃c',xk (Pl.flip c=c'):=⟨_,ae rfl⟩
    rw [bk.out]at bp;have Ak:xk (I.set k fb=lM (s.K a) n):=ae (by
     rw [O.out,af U,G.out,HK.out];congr 1
     rw [<-bk.out,<-HC.out,Qd,Ru (by have:=G.out;omega)];rfl)
    obtain⟨J,kD⟩:=aV (W.setCell ⟨g,k,none⟩ (.int .u8 (fb.toNat:Int)));have jP:xk (qh w.heap.size w J):=ae (by rw [kD.out];exact bo.out.setCell (p:=⟨g,k,none⟩) (show w.heap.size<=g by omega) _);have bB:w.heap.size+1≠g:=by omega
    have Ky:xk (J.heap[w.heap.size+1]? =some (.cells #[.int .i64 0,.slice none 0 0,.int .i64 0,.slice none 0 0] 40)):=ae (by rw [kD.out];exact(((aI.refl g W).setCell _ _).block _ (aG ad.out) bB).trans ad.out);have oL:xk (gQ J t.heap.size (.slice (some ⟨g,0,none⟩) F gc) (I.set k fb)):=ae (by rw [kD.out];have:=bh.out k fb;rw [G.out]at this;exact this);have aq:=ae (pF.out J (I.set k fb) Ak.out (by rw [X6];exact G.out) jP.out Ky.out oL.out);have cC:w.heap.size≠g:=by omega
    have cD:g≠w.heap.size:=by omega
    clear pF U O bh Iz;go_wp2_with fail;rw [<-kD.out];refine aq.out.mono ?_;rintro e M ⟨z,E,y,rfl,f,d⟩;have Z8:=ae f;have pz:=ae d;obtain⟨⟨y0,y1,y2,y3⟩,yf,yl⟩:=aS f;clear f d;go_wp2_with fail;obtain⟨r,R⟩:=aV (jy M (w.heap.size+1) (.int .i64 H) (.slice none 0 0) (.int .i64 0) (.slice z E y));have Z:r.heap[w.heap.size+1]? =some (.cells #[.int .i64 H,.slice none 0 0,.int .i64 0,.slice z E y] 40):=by
     rw [R.out];exact lL Z8.out _ _ _ _
    have gX:aI (w.heap.size+1) M r:=by rw [R.out];exact jF (aI.refl _ _) _ _ _ _
    obtain⟨⟨z0,z1,z2,z3⟩,_,_⟩:=aS Z;rw [show(((M.setCell ⟨w.heap.size+1,0,none⟩ (.int .i64 H)).setCell ⟨w.heap.size+1,1,none⟩ (.slice none 0 0)).setCell ⟨w.heap.size+1,2,none⟩ (.int .i64 0)).setCell ⟨w.heap.size+1,3,none⟩ (.slice z E y)=r from R.out.symm];obtain⟨f1,f2,f3⟩:=pz.out r gX;exact xx (v:= .agg #[.int .i64 H,.slice none 0 0,.int .i64 0,.slice z E y]) (by simp [results,Tryz.results116,go_sem,z0,z1,z2,z3]) rfl ⟨_,rfl,f1,f2,f3⟩
   ·have bw:decide (0<=n)=false:=by simpa using U
    have aq:=ae (pF.out W I (by rw [O.out,ag U]) G.out bo.out ad.out (by have:=bO.out;rw [G.out]at this;exact this));clear pF U O;go_wp2_with fail;refine aq.out.mono ?_;rintro e M ⟨z,E,y,rfl,f,d⟩;have Z8:=ae f;have pz:=ae d;obtain⟨⟨y0,y1,y2,y3⟩,yf,yl⟩:=aS f;clear f d;go_wp2_with fail;obtain⟨r,R⟩:=aV (jy M (w.heap.size+1) (.int .i64 H) (.slice none 0 0) (.int .i64 0) (.slice z E y));have Z:r.heap[w.heap.size+1]? =some (.cells #[.int .i64 H,.slice none 0 0,.int .i64 0,.slice z E y] 40):=by
     rw [R.out];exact lL Z8.out _ _ _ _
    have gX:aI (w.heap.size+1) M r:=by rw [R.out];exact jF (aI.refl _ _) _ _ _ _
    obtain⟨⟨z0,z1,z2,z3⟩,_,_⟩:=aS Z;rw [show(((M.setCell ⟨w.heap.size+1,0,none⟩ (.int .i64 H)).setCell ⟨w.heap.size+1,1,none⟩ (.slice none 0 0)).setCell ⟨w.heap.size+1,2,none⟩ (.int .i64 0)).setCell ⟨w.heap.size+1,3,none⟩ (.slice z E y)=r from R.out.symm];obtain⟨f1,f2,f3⟩:=pz.out r gX;exact xx (v:= .agg #[.int .i64 H,.slice none 0 0,.int .i64 0,.slice z E y]) (by simp [results,Tryz.results116,go_sem,z0,z1,z2,z3]) rfl ⟨_,rfl,f1,f2,f3⟩
 ·have zq:decide (0<=b/\b<=11)=false:=by simpa using hb
  have ar:xk (fc=2):=ae (by rw [j.out,af hb]);have q2:=Q2.out;clear hb;go_enter Tryz.func116,Tryz.ntmps116;go_wp2_with (go_at_call 72;refine(aZ _ _).mono ?_;rw [zq];rintro e w' ⟨rfl,l⟩;rw [l];clear l w');rw [<-N.out];refine(xM.out 2 _).mono ?_;rintro e w3 ⟨rfl,q⟩;have o:=(q.block _ (by omega)).trans nH.out;have u:=ae (sU.out.trans (q.mono (by omega)));have Ed:=ae (SX.out 2 w3 u.out o ar.out (by decide));obtain⟨⟨y0,y1,y2,y3⟩,yf,yl⟩:=aS o;clear q o;go_wp2_with fail;exact xx (v:= .agg #[.int .i64 2,.slice none 0 0,.int .i64 0,.slice none 0 0]) (by simp [results,Tryz.results116,go_sem,y0,y1,y2,y3]) rfl Ed.out
theorem aT.nw{w w':xn}{B:Nat}{s:Pl.Nt}{a f e:Nat->BD}{D':Nat->Bool}{g:Nat->Nat->Int}(n:∀i,i<12->aU 49 w (B+1) (a i) (s.P i))(m:∀i,i<12->Own w (B+1) (f i) (s.K i))(l:∀i,i<12->∃c,dG w (B+1) (e i) c (s.T i))(k:∀i j,i<12->j<12->i≠j->(a i).ownBlock=none\/(a i).ownBlock≠(a j).ownBlock)(h:fG w' B D' a f e g)(d:aI B w w'):aT w' B {s with D:=D',L:=g}:=
 ⟨a,f,e,h,fun i b=>dL (n i b) d (LM _),fun i b=>dL (m i b) d (LM _),fun i b=>by obtain⟨c,q⟩:=l i b;exact⟨c,q.but d (LM _)⟩,k⟩
theorem QS(B:Nat)(s:Pl.Nt)(x:Pl.Ac)(w:xn)(h:aT w B s)(ha:0<=x.a/\x.a<=11):
  Eb xh 110 #[.pointer (some ⟨B,0,none⟩),.agg #[.int .i64 x.kind,.int .i64 x.a,.int .i64 x.b,.int .i64 x.n,.int .i64 x.m,.int .i64 x.p.1,.int .i64 x.p.2,.string x.key,.string x.val]] w fun e w'=>
   e= .returned (.agg #[.int .i64 (rE x),.slice none 0 0,.int .i64 0,.slice none 0 0])/\aT w' B {s with L:=tX s.L x}/\bG B w w':=by
 obtain⟨q,r,o,j,i,g,f,d⟩:=h;exact(YD B s.D q r o s.L x w j ha).mono fun e w' ⟨l,k,c⟩=>⟨l,aT.nw i g f d k c,bG.of c⟩
theorem VC(B:Nat)(s:Pl.Nt)(x:Pl.Ac)(w:xn)(h:aT w B s)(ha:0<=x.a/\x.a<=11):
  Eb xh 111 #[.pointer (some ⟨B,0,none⟩),.agg #[.int .i64 x.kind,.int .i64 x.a,.int .i64 x.b,.int .i64 x.n,.int .i64 x.m,.int .i64 x.p.1,.int .i64 x.p.2,.string x.key,.string x.val]] w fun e w'=>
   e= .returned (.agg #[.int .i64 (rJ s.L x),.slice none 0 0,.int .i64 0,.slice none 0 0])/\aT w' B {s with L:=uo s.L x}/\bG B w w':=by
 obtain⟨q,r,o,j,i,g,f,d⟩:=h;exact(QU B s.D q r o s.L x w j ha).mono fun e w' ⟨l,k,c⟩=>⟨l,aT.nw i g f d k c,bG.of c⟩
theorem Oj(B:Nat)(s:Pl.Nt)(x:Pl.Ac)(w:xn)(h:aT w B s)(ha:0<=x.a/\x.a<=11):
  Eb xh 112 #[.pointer (some ⟨B,0,none⟩),.agg #[.int .i64 x.kind,.int .i64 x.a,.int .i64 x.b,.int .i64 x.n,.int .i64 x.m,.int .i64 x.p.1,.int .i64 x.p.2,.string x.key,.string x.val]] w fun e w'=>
   e= .returned (.agg #[.int .i64 (oG x),.slice none 0 0,.int .i64 0,.slice none 0 0])/\aT w' B {s with D:=sQ s.D x}/\bG B w w':=by
 obtain⟨q,r,o,j,i,g,f,d⟩:=h;exact(Lr B s.D q r o s.L x w j ha).mono fun e w' ⟨l,k,c⟩=>⟨l,aT.nw i g f d k c,bG.of c⟩
def Pl.stands(es:List aK)(of:Int)(key val:ByteArray):Bool:=(BI es key==0)&&((iT es key).org==of)&&decide ((iT es key).val=val)
theorem Qs(a:Option Addr)(len cap:Nat)(es:List aK)(of:Int)(key val:ByteArray)(w:xn)(h:bI w a len cap es):
  Eb xh 190 #[.slice a len cap,.int .i64 of,.agg #[.string key,.string val]] w fun e w'=>e= .returned (.bool (Pl.stands es of key val))/\qh w.heap.size w w':=by
 have H:=ae h;clear h;obtain⟨R,u⟩:=ai (Pl.stands es of key val);have j:xk (R=((BI es key==0)&&((iT es key).org==of)&&decide ((iT es key).val=val))):=ae u.out.symm;rw [u.out];clear u;obtain⟨n,d⟩:=aV (w.alloc (.cells #[.string key,.string val] 223));have i:xk (qh w.heap.size w n):=ae (by rw [d.out];exact(oP _ _).alloc (oC _) _);have C:xk (n.heap[w.heap.size]? =some (.cells #[.string key,.string val] 223)):=ae (by rw [d.out];exact bW _ _);have E:n.heap.size=w.heap.size+1:=by rw [d.out];simp
 obtain⟨B,A,s,r,k⟩:=aQ C.out;have x:=ae (MR a len cap es key n (H.out.below i.out));obtain⟨c,I⟩:=ai (BI es key);obtain⟨g,v⟩:=ai (iT es key);rw [I.out,v.out]at x j;obtain⟨gk,J,go,G⟩:=g;simp only at x j;go_enter Tryz.func190,Tryz.ntmps190;go_wp2_with (rw [<-d.out]);refine x.out.mono ?_;rintro e z ⟨rfl,b⟩;have y:=ae (i.out.trans (b.mono i.out.size));have m0:=(b.cell (p:=⟨w.heap.size,0,none⟩) k).trans B;have m1:=(b.cell (p:=⟨w.heap.size,1,none⟩) k).trans A;have D:=b.size;have F:w.heap.size<z.heap.size:=by omega
 clear b B A s r;have q:xk (∀o,qh w.heap.size w (z.alloc o)):=ae fun o=>y.out.alloc (by omega) _;by_cases hc:c=0
 ·subst hc;by_cases m:go=of
  ·have f:(go==of)=true:=by simpa using m
   have l:xk (R=(G.toList==val.toList)):=ae (by rw [j.out,f,ZL];rfl);clear m;go_wp2_with fail;go_ret;exact⟨bf l.out.symm,q.out _⟩
  ·have f:(go==of)=false:=by simpa using m
   have l:xk (R=false):=ae (by rw [j.out,f];simp);clear m;go_wp2_with fail;go_ret;exact⟨bf l.out.symm,q.out _⟩
 ·have t:(c==0)=false:=by simpa using hc
  have l:xk (R=false):=ae (by rw [j.out,t];simp);clear hc;go_wp2_with fail;go_ret;exact⟨bf l.out.symm,q.out _⟩
theorem aaU(es:List aK)(k:Nat)(dn:Bool)(x:aK)(h:k<es.length):Pl.wE (es.drop k) dn x=(if !dn&& !mr (eF es k).key x.key then [x]else [])++((if(eF es k).key=x.key then []else [eF es k])++Pl.wE (es.drop (k+1)) (dn|| !mr (eF es k).key x.key) x):=by
 rw [xg es k h];rfl
theorem sD{w w':xn}{b off k:Nat}{es:List aK}{y:aK}(h:dN w b off es)(d:b<w.heap.size)(hw:qh w.heap.size w w')(a:eF es k=y)(c:k<es.length):
  w'.cell? ⟨b,off+k*4,none⟩=some (.string y.key)/\w'.cell? ⟨b,off+k*4+1,none⟩=some (.int .i64 y.gz)/\w'.cell? ⟨b,off+k*4+2,none⟩=some (.int .i64 y.org)/\w'.cell? ⟨b,off+k*4+3,none⟩=some (.string y.val):=by
 subst a;exact(h.below d hw) k c
theorem mY(a:Option Addr)(len cap:Nat)(es:List aK)(x:aK)(w:xn)(h:bI w a len cap es)(an:len<=60):
  Eb xh 131 #[.slice a len cap,.agg #[.string x.key,.int .i64 x.gz,.int .i64 x.org,.string x.val]] w
   fun e w'=>∃v,e= .returned v/\Own w' w.heap.size v (Pl.wE es false x)/\qh w.heap.size w w':=by
 obtain⟨hl,hc,hm,aa,u⟩:=h;unfold BG at hm;have W:=aaU es;have HS:xk _:=W;clear W;obtain⟨l,f,g,c⟩:=x;simp only;have K:qh w.heap.size w (w.alloc (.cells #[.string l,.int .i64 f,.int .i64 g,.string c] 55)):=(oP _ _).alloc (oC _) _;have H:xk _:=K;clear K;have HR:xk (es= []\/∃b off,a=some ⟨b,off,none⟩/\b<w.heap.size/\dN w b off es):=u;clear u;go_enter Tryz.func131,Tryz.ntmps131;go_wp2_with fail;go_loopw [5,6,7] (fun A d i wr=>∃(k:Nat) (ol:List aK) (dn:Bool) (P:BD),P=A/\k<=len/\i= .int .i64 k/\d= .bool dn/\xk (Own wr (w.heap.size+1) P ol)/\ol.length<=k+dn.toNat/\xk (Pl.wE es false ⟨l,f,g,c⟩=ol++Pl.wE (es.drop k) dn ⟨l,f,g,c⟩)/\qh (w.heap.size+1) (w.alloc (.cells #[.string l,.int .i64 f,.int .i64 g,.string c] 55)) wr) (fun _ _ i _=>len-(Iy i).toNat)
 case atStart=>exact⟨0,[],false,_,rfl,OG _,rfl,rfl,Own.nil _ _,by simp,rfl,oP _ _⟩
 case round=>
  obtain⟨k,ol,dn,A,rfl,hk,rfl,rfl,E,B,F,q⟩:=hrel;obtain⟨x0,x1,x2,x3⟩:=O9 q;have Z:=q.size;simp at Z;by_cases ad:k<len
  ·obtain⟨b,off,rfl,C,V⟩:∃b off,a=some ⟨b,off,none⟩/\b<w.heap.size/\dN w b off es:=by
    rcases HR.out with h|h
    ·rw [h]at hl;simp at hl;omega
    ·exact h
   have D:xk (dN w b off es):=V;clear V;have J:=D.out.below C (H.out.trans (q.mono (by omega)));obtain⟨T,S,R,Q⟩:=J k (by omega);clear J;have n:xk _:=HS.out k dn ⟨l,f,g,c⟩ (by omega);obtain⟨y,O⟩:=ai (eF es k);rw [O.out]at T S R Q n;have U:xk (k<es.length):=by show _<_;omega
   obtain⟨j,s,t,r⟩:=y;simp only at T S R Q
   cases dn
   ·simp only [Wq]at B;rcases Pl.tri j l with⟨t1,t2,t3⟩|rfl|⟨t1,t2,t3⟩
    ·have he:=kT t3;have o:xk (Pl.wE es false ⟨l,f,g,c⟩=(ol++ [⟨j,s,t,r⟩])++Pl.wE (es.drop (k+1)) false ⟨l,f,g,c⟩):=by
      show _=_;rw [F.out,n.out];simp [show mr j l=true from t1,t3]
     go_wp2_with fail;go_quiet (fail);go_wp2_with fail;go_quiet (fail);go_wp2_with (at_builtin;refine pg rfl (.tmp 38) (.tmp 43) rfl (w.heap.size+1) A ol ⟨j,s,t,r⟩ rfl E.out (by omega) rfl (by omega) ?_;intro G I p m);go_roundw
     case rel=>exact⟨k+1,ol++ [(⟨j,s,t,r⟩:aK)],false,_,rfl,by omega,by go_num,rfl,p,by simp;omega,o,q.trans m⟩
     case measure=>simp [Iy];omega
    ·have t1:Op.bytesLess j.toList j.toList=false:=kN j;have o:xk (Pl.wE es false ⟨j,f,g,c⟩=(ol++ [⟨j,f,g,c⟩])++Pl.wE (es.drop (k+1)) true ⟨j,f,g,c⟩):=by
      show _=_;rw [F.out,n.out];simp [show mr j j=false from t1]
     go_wp2_with fail;go_quiet (fail);go_wp2_with (at_builtin;refine pg rfl (.tmp 26) (.tmp 28) rfl (w.heap.size+1) A ol ⟨j,f,g,c⟩ rfl E.out (by omega) rfl (by omega) ?_;intro G I p m;have z:=q.trans m;obtain⟨c0,c1,c2,c3⟩:=O9 z;obtain⟨d0,d1,d2,d3⟩:=sD D.out C (H.out.trans (z.mono (by omega))) O.out U.out);go_quiet (fail);go_wp2_with fail;go_roundw
     case rel=>exact⟨k+1,ol++ [(⟨j,f,g,c⟩:aK)],true,_,rfl,by omega,by go_num,rfl,p,by simp;omega,o,below_drewN z _⟩
     case measure=>simp [Iy];omega
    ·have he:=kT t3;have o:xk (Pl.wE es false ⟨l,f,g,c⟩=((ol++ [⟨l,f,g,c⟩])++ [⟨j,s,t,r⟩])++Pl.wE (es.drop (k+1)) true ⟨l,f,g,c⟩):=by
      show _=_;rw [F.out,n.out];simp [show mr j l=false from t1,t3]
     go_wp2_with fail;go_quiet (fail);go_wp2_with (at_builtin;refine pg rfl (.tmp 26) (.tmp 28) rfl (w.heap.size+1) A ol ⟨l,f,g,c⟩ rfl E.out (by omega) rfl (by omega) ?_;intro G I p m;have z:=q.trans m;obtain⟨c0,c1,c2,c3⟩:=O9 z;obtain⟨d0,d1,d2,d3⟩:=sD D.out C (H.out.trans (z.mono (by omega))) O.out U.out;have Y:xk (Own I (w.heap.size+1) G (ol++ [⟨l,f,g,c⟩])):=p;clear p);have L:=z.size;simp at L;have ak:(ol++ [(⟨l,f,g,c⟩:aK)]).length<=k+1:=by simp;omega
     go_quiet (fail);go_wp2_with (at_builtin;refine qI rfl (.tmp 38) (.tmp 43) rfl (w.heap.size+1) G (ol++ [⟨l,f,g,c⟩]) ⟨j,s,t,r⟩ rfl (Own.drewN Y.out _) (by simp;omega) rfl (by omega) ?_;intro v8 w8 M N);go_roundw
     case rel=>exact⟨k+1,(ol++ [(⟨l,f,g,c⟩:aK)])++ [(⟨j,s,t,r⟩:aK)],true,_,rfl,by omega,by go_num,rfl,M,by simp;omega,o,(below_drewN z _).trans N⟩
     case measure=>simp [Iy];omega
   ·simp only [Bool.toNat_true]at B;by_cases t3:j=l
    ·subst t3;have o:xk (Pl.wE es false ⟨j,f,g,c⟩=ol++Pl.wE (es.drop (k+1)) true ⟨j,f,g,c⟩):=by
      show _=_;rw [F.out,n.out];simp
     go_wp2_with fail;go_quiet (fail);go_wp2_with fail;go_quiet (fail);go_wp2_with fail;go_roundw
     case rel=>exact⟨k+1,ol,true,_,rfl,by omega,by go_num,rfl,E,by simp;omega,o,below_drewN q _⟩
     case measure=>simp [Iy];omega
    ·have he:=kT t3;have o:xk (Pl.wE es false ⟨l,f,g,c⟩=(ol++ [⟨j,s,t,r⟩])++Pl.wE (es.drop (k+1)) true ⟨l,f,g,c⟩):=by
      show _=_;rw [F.out,n.out];simp [t3]
     go_wp2_with fail;go_quiet (fail);go_wp2_with fail;go_quiet (fail);go_wp2_with (at_builtin;refine pg rfl (.tmp 38) (.tmp 43) rfl (w.heap.size+1) A ol ⟨j,s,t,r⟩ rfl E.out (by omega) rfl (by omega) ?_;intro G I p m);go_roundw
     case rel=>exact⟨k+1,ol++ [(⟨j,s,t,r⟩:aK)],true,_,rfl,by omega,by go_num,rfl,p,by simp;omega,o,q.trans m⟩
     case measure=>simp [Iy];omega
  ·obtain rfl:k=len:=by omega
   have X:xk (es.drop k= []):=List.drop_eq_nil_of_le (by omega)
   cases dn
   ·simp only [Wq]at B;have o:xk (Pl.wE es false ⟨l,f,g,c⟩=ol++ [⟨l,f,g,c⟩]):=by
     show _=_;rw [F.out,X.out];rfl
    go_wp2_with (at_builtin;refine qI rfl (.tmp 47) (.tmp 49) rfl (w.heap.size+1) A ol ⟨l,f,g,c⟩ rfl E.out (by omega) rfl (by omega) ?_;intro G I p m);go_ret;exact⟨_,rfl,by rw [o.out];exact p.mono (by omega),H.out.trans ((q.trans m).mono (by omega))⟩
   ·have o:xk (Pl.wE es false ⟨l,f,g,c⟩=ol):=by
     show _=_;rw [F.out,X.out];simp [Pl.wE]
    go_wp2_with fail;go_ret;exact⟨_,rfl,by rw [o.out];exact E.out.mono (by omega),H.out.trans (q.mono (by omega))⟩
def Pl.A8(es:List aK)(key:ByteArray):Int:=if Pl.there es key then(eF es (Pl.pos es key)).gz+1 else 1
def Pl.eQ(es:List aK)(node:Int)(key val:ByteArray):Int:=
 if¬Pl.fault es=0 then Pl.fault es else if decide (0<=node/\node<=11)=false then 2 else if qE key=false then 4 else if 120<val.size then 1
 else if Pl.there es key=false/\60<=es.length then 1 else if 1099511627776<A8 es key then 2 else 0
def Pl.jH(es:List aK)(node:Int)(key val:ByteArray):List aK:=if eQ es node key val=0 then Pl.ins es ⟨key,A8 es key,node,val⟩else []
theorem Pl.jg{es:List aK}{node:Int}{key val:ByteArray}{c:Int}(h:eQ es node key val=c)(hc:¬c=0):jH es node key val= []:=by
 unfold jH;rw [h,ag hc]
theorem UK(a:Option Addr)(len cap:Nat)(es:List aK)(node:Int)(key val:ByteArray)(w:xn)(h:bI w a len cap es)(B:a=none->cap=0)(hk:key.size<=BG)(hv:val.size<=BG):
  Eb xh 166 #[.slice a len cap,.int .i64 node,.string key,.string val] w fun e w'=>∃v,e= .returned (.tuple #[v,.int .i64 (eQ es node key val)])/\Own w' w.heap.size v (jH es node key val)/\qh w.heap.size w w':=by
 have k:xk (bI w a len cap es):=h;have HN:xk (a=none->cap=0):=B;have hlen:es.length=len:=h.1;have aa:=h.2.1;have hm:=h.2.2.1;have D:xk (key.size<=BG):=hk;unfold BG at hm hv hk;clear h B;obtain⟨c,n⟩:=ai (Pl.fault es);obtain⟨nn,q⟩:=ai (decide (0<=node/\node<=11));obtain⟨kk,o⟩:=ai (qE key);obtain⟨t,m⟩:=ai (Pl.there es key);by_cases l:c=0
 case neg=>
  have av:(c != 0)=true:=by simp [l]
  have aw:(c==0)=false:=by simp [l]
  have f:xk (eQ es node key val=c/\¬c=0):=by
   refine⟨?_,l⟩;unfold eQ;rw [n.out,af l]
  clear l;go_enter Tryz.func166,Tryz.ntmps166;go_wp2_with fail;refine(dS _ _ _ es _ k.out).mono ?_;rw [n.out];rintro e E ⟨rfl,d⟩;go_wp2_with (first|(go_at_call 72;refine(aZ _ _).mono ?_;rw [q.out];rintro e w' ⟨rfl,rfl⟩)|(go_at_call 87;refine(nG _ _ D.out).mono ?_;rw [o.out];rintro e w' ⟨rfl,rfl⟩));go_ret2;exact⟨_,by rw [f.out.1];rfl,by rw [jg f.out.1 f.out.2];exact Own.nil _ _,d⟩
 case pos=>
 subst l;have M:¬¬Pl.fault es=0:=fun h=>h n.out;have G:xk (¬¬Pl.fault es=0):=M;clear M
 cases nn
 case false=>
  have f:xk (eQ es node key val=2):=by
   show _=_;unfold eQ;rw [ag G.out,af q.out]
  go_enter Tryz.func166,Tryz.ntmps166;go_wp2_with fail;refine(dS _ _ _ es _ k.out).mono ?_;rw [n.out];rintro e E ⟨rfl,d⟩;go_wp2_with (first|(go_at_call 72;refine(aZ _ _).mono ?_;rw [q.out];rintro e w' ⟨rfl,rfl⟩)|(go_at_call 87;refine(nG _ _ D.out).mono ?_;rw [o.out];rintro e w' ⟨rfl,rfl⟩));go_ret2;exact⟨_,by rw [f.out];rfl,by rw [jg f.out (by decide)];exact Own.nil _ _,d⟩
 case true=>
 have I:xk (¬decide (0<=node/\node<=11)=false):=by rw [q.out];exact fun h=>by cases h
 cases kk
 case false=>
  have f:xk (eQ es node key val=4):=by
   show _=_;unfold eQ;rw [ag G.out,ag I.out,af o.out]
  go_enter Tryz.func166,Tryz.ntmps166;go_wp2_with fail;refine(dS _ _ _ es _ k.out).mono ?_;rw [n.out];rintro e E ⟨rfl,d⟩;go_wp2_with (first|(go_at_call 72;refine(aZ _ _).mono ?_;rw [q.out];rintro e w' ⟨rfl,rfl⟩)|(go_at_call 87;refine(nG _ _ D.out).mono ?_;rw [o.out];rintro e w' ⟨rfl,rfl⟩));go_ret2;exact⟨_,by rw [f.out];rfl,by rw [jg f.out (by decide)];exact Own.nil _ _,d⟩
 case true=>
 have Q:xk (¬qE key=false):=by rw [o.out];exact fun h=>by cases h
 by_cases Z:120<val.size
 case pos=>
  have f:xk (eQ es node key val=1):=by
   show _=_;unfold eQ;rw [ag G.out,ag I.out,ag Q.out,af Z]
  go_enter Tryz.func166,Tryz.ntmps166;go_wp2_with fail;refine(dS _ _ _ es _ k.out).mono ?_;rw [n.out];rintro e E ⟨rfl,d⟩;go_wp2_with (first|(go_at_call 72;refine(aZ _ _).mono ?_;rw [q.out];rintro e w' ⟨rfl,rfl⟩)|(go_at_call 87;refine(nG _ _ D.out).mono ?_;rw [o.out];rintro e w' ⟨rfl,rfl⟩));go_ret2;exact⟨_,by rw [f.out];rfl,by rw [jg f.out (by decide)];exact Own.nil _ _,d⟩
 case neg=>
 have s:xk (¬120<val.size):=Z;have Y:xk (Pl.Good es):=(bK es).1 n.out;have U:xk (MV es):=(yG es).2 Y.out.2.2;have J:xk (len<=60):=by have:=Y.out.1;show _<=_;omega
 cases t
 case false=>
  by_cases ay:60<=len
  case pos=>
   have f:xk (eQ es node key val=1):=by
    show _=_;unfold eQ;rw [ag G.out,ag I.out,ag Q.out,ag s.out,af ⟨m.out,by omega⟩]
   go_enter Tryz.func166,Tryz.ntmps166;go_wp2_with fail;refine(dS _ _ _ es _ k.out).mono ?_;rw [n.out];rintro e E ⟨rfl,d⟩;go_wp2_with (first|(go_at_call 72;refine(aZ _ _).mono ?_;rw [q.out];rintro e w' ⟨rfl,rfl⟩)|(go_at_call 87;refine(nG _ _ D.out).mono ?_;rw [o.out];rintro e w' ⟨rfl,rfl⟩));refine(qF _ _ _ es key _ (k.out.below d) U.out J.out).mono ?_;rw [m.out];rintro e L ⟨rfl,i⟩;have j:=d.trans (i.mono d.size);have z:=j.size;go_wp2_with fail;go_ret2;exact⟨_,by rw [f.out];rfl,by rw [jg f.out (by decide)];exact Own.nil _ _,j⟩
  case neg=>
   have u:xk (A8 es key=1):=by show _=_;unfold A8;rw [m.out];rfl
   have f:xk (eQ es node key val=0):=by
    show _=_;unfold eQ;rw [ag G.out,ag I.out,ag Q.out,ag s.out,ag (fun h=>by omega),u.out,ag (by omega)]
   have X:xk (jH es node key val=Pl.ins es ⟨key,1,node,val⟩):=by show _=_;unfold jH;rw [af f.out,u.out]
   go_enter Tryz.func166,Tryz.ntmps166;go_wp2_with fail;refine(dS _ _ _ es _ k.out).mono ?_;rw [n.out];rintro e E ⟨rfl,d⟩;go_wp2_with (first|(go_at_call 72;refine(aZ _ _).mono ?_;rw [q.out];rintro e w' ⟨rfl,rfl⟩)|(go_at_call 87;refine(nG _ _ D.out).mono ?_;rw [o.out];rintro e w' ⟨rfl,rfl⟩));refine(qF _ _ _ es key _ (k.out.below d) U.out J.out).mono ?_;rw [m.out];rintro e L ⟨rfl,i⟩;have j:=d.trans (i.mono d.size);have z:=j.size;go_wp2_with fail;refine(Lu _ _ _ es (Pl.pos es key) false ⟨key,1,node,val⟩ _ (k.out.below (j.alloc z _)) HN.out J.out (by have:=Dl es key;omega) (fun h=>by cases h)).mono ?_;rintro e w3 ⟨v3,rfl,g,F⟩;have T:Own w3 w.heap.size v3 (Pl.ins es ⟨key,1,node,val⟩):=by
    have P:=E5 es ⟨key,1,node,val⟩;simp only [m.out]at P;rw [P]at g;exact g.mono (by simp;omega)
   have V:=ae T;clear g T;go_wp2_with fail;go_ret2;exact⟨_,by rw [f.out];rfl,by rw [X.out];exact V.out,(j.alloc z _).trans (F.mono (by simp;omega))⟩
 case true=>
  have A:Pl.pos es key<len:=by
   have:=m.out;unfold Pl.there at this;simp only [Ah,ik]at this;omega
  obtain⟨b,off,rfl,O,hr⟩:∃b off,a=some ⟨b,off,none⟩/\b<w.heap.size/\dN w b off es:=by
   rcases k.out.2.2.2.2 with h|h
   ·rw [h]at hlen;simp at hlen;omega
   ·exact h
  have R:xk (dN w b off es):=hr;clear hr;have r:1<=(eF es (Pl.pos es key)).gz/\(eF es (Pl.pos es key)).gz<=1099511627776:=by
   have:=Y.out.2.1 _ (lU es (Pl.pos es key) (by omega));unfold aK.may uQ at this;simp only [Ah,ik]at this;exact this.1.1.2
  have u:xk (A8 es key=(eF es (Pl.pos es key)).gz+1):=by show _=_;unfold A8;rw [m.out];rfl
  have W:xk (Pl.pos es key<es.length):=by show _<_;omega
  have S:xk (¬(Pl.there es key=false/\60<=es.length)):=by
   intro h;rw [m.out]at h
   cases h.1
  obtain⟨p,x⟩:=ai (Pl.pos es key);rw [x.out]at A r u W;obtain⟨y,H⟩:=ai (eF es p);rw [H.out]at r u;obtain⟨yk,K,yo,yx⟩:=y;simp only at r u;have ar:(p:Int)<(len:Int):=by omega
  have aq:decide ((p:Int)<0)=false:=Fb (by omega);have an:decide ((0:Int)<=(p:Int))=true:=zx (by omega);obtain⟨ak,ad⟩:=r;by_cases C:1099511627776<K+1
  case pos=>
   have f:xk (eQ es node key val=2):=by
    show _=_;unfold eQ;rw [ag G.out,ag I.out,ag Q.out,ag s.out,ag S.out,u.out,af C]
   go_enter Tryz.func166,Tryz.ntmps166;go_wp2_with fail;refine(dS _ _ _ es _ k.out).mono ?_;rw [n.out];rintro e E ⟨rfl,d⟩;go_wp2_with (first|(go_at_call 72;refine(aZ _ _).mono ?_;rw [q.out];rintro e w' ⟨rfl,rfl⟩)|(go_at_call 87;refine(nG _ _ D.out).mono ?_;rw [o.out];rintro e w' ⟨rfl,rfl⟩));refine(qF _ _ _ es key _ (k.out.below d) U.out J.out).mono ?_;rw [m.out,x.out];rintro e L ⟨rfl,i⟩;have j:=d.trans (i.mono d.size);have z:=j.size;have N:b<L.heap.size:=by omega
   obtain⟨j0,j1,j2,j3⟩:=sD R.out O j H.out W.out;go_wp2_with fail;go_ret2;exact⟨_,by rw [f.out];rfl,by rw [jg f.out (by decide)];exact Own.nil _ _,(j.alloc z _)⟩
  case neg=>
   have f:xk (eQ es node key val=0):=by
    show _=_;unfold eQ;rw [ag G.out,ag I.out,ag Q.out,ag s.out,ag S.out,u.out,ag C]
   have X:xk (jH es node key val=Pl.ins es ⟨key,K+1,node,val⟩):=by show _=_;unfold jH;rw [af f.out,u.out]
   go_enter Tryz.func166,Tryz.ntmps166;go_wp2_with fail;refine(dS _ _ _ es _ k.out).mono ?_;rw [n.out];rintro e E ⟨rfl,d⟩;go_wp2_with (first|(go_at_call 72;refine(aZ _ _).mono ?_;rw [q.out];rintro e w' ⟨rfl,rfl⟩)|(go_at_call 87;refine(nG _ _ D.out).mono ?_;rw [o.out];rintro e w' ⟨rfl,rfl⟩));refine(qF _ _ _ es key _ (k.out.below d) U.out J.out).mono ?_;rw [m.out,x.out];rintro e L ⟨rfl,i⟩;have j:=d.trans (i.mono d.size);have z:=j.size;have N:b<L.heap.size:=by omega
   obtain⟨j0,j1,j2,j3⟩:=sD R.out O j H.out W.out;go_wp2_with fail;refine(Lu _ _ _ es p true ⟨key,K+1,node,val⟩ _ (k.out.below (j.alloc z _)) HN.out J.out (by omega) (fun _=>A)).mono ?_;rintro e w3 ⟨v3,rfl,g,F⟩;have T:Own w3 w.heap.size v3 (Pl.ins es ⟨key,K+1,node,val⟩):=by
    have P:=E5 es ⟨key,K+1,node,val⟩;simp only [m.out,x.out]at P;rw [P]at g;exact g.mono (by simp;omega)
   have V:=ae T;clear g T;go_wp2_with fail;go_ret2;exact⟨_,by rw [f.out];rfl,by rw [X.out];exact V.out,(j.alloc z _).trans (F.mono (by simp;omega))⟩
theorem Kw(a:Option Addr)(len cap:Nat)(es:List aK)(node:Int)(key val:ByteArray)(w:xn)(h:bI w a len cap es)(W:key.size<=BG)(hv:val.size<=BG):
  Eb xh 84 #[.slice a len cap,.int .i64 node,.string key,.string val] w fun e w'=>∃v,e= .returned (.tuple #[v,.int .i64 (eQ es node key val)])/\Own w' w.heap.size v (jH es node key val)/\qh w.heap.size w w':=by
 have j:xk (bI w a len cap es):=h;have hlen:es.length=len:=h.1;have X:=h.2.1;have hm:=h.2.2.1;have z:xk (key.size<=BG):=W;unfold BG at hm hv W;clear h;obtain⟨c,l⟩:=ai (Pl.fault es);obtain⟨Z,n⟩:=ai (decide (0<=node/\node<=11));obtain⟨kk,m⟩:=ai (qE key);obtain⟨t,u⟩:=ai (Pl.there es key);by_cases k:c=0
 case neg=>
  have ar:(c != 0)=true:=by simp [k]
  have av:(c==0)=false:=by simp [k]
  have f:xk (eQ es node key val=c/\¬c=0):=by
   refine⟨?_,k⟩;unfold eQ;rw [l.out,af k]
  clear k;go_enter Tryz.func84,Tryz.ntmps84;go_wp2_with fail;refine(bM _ _ _ es _ j.out).mono ?_;rw [l.out];rintro e A ⟨rfl,d⟩;go_wp2_with (first|(go_at_call 73;refine(dZ _ _ _ _).mono ?_;rw [n.out];rintro e w' ⟨rfl,rfl⟩)|(go_at_call 132;refine(gZ _ _ z.out).mono ?_;rw [m.out];rintro e w' ⟨rfl,rfl⟩));go_ret2;exact⟨_,by rw [f.out.1];rfl,by rw [jg f.out.1 f.out.2];exact Own.nil _ _,d⟩
 case pos=>
 subst k;have H:¬¬Pl.fault es=0:=fun h=>h l.out;have C:xk (¬¬Pl.fault es=0):=H;clear H
 cases Z
 case false=>
  have f:xk (eQ es node key val=2):=by
   show _=_;unfold eQ;rw [ag C.out,af n.out]
  go_enter Tryz.func84,Tryz.ntmps84;go_wp2_with fail;refine(bM _ _ _ es _ j.out).mono ?_;rw [l.out];rintro e A ⟨rfl,d⟩;go_wp2_with (first|(go_at_call 73;refine(dZ _ _ _ _).mono ?_;rw [n.out];rintro e w' ⟨rfl,rfl⟩)|(go_at_call 132;refine(gZ _ _ z.out).mono ?_;rw [m.out];rintro e w' ⟨rfl,rfl⟩));go_ret2;exact⟨_,by rw [f.out];rfl,by rw [jg f.out (by decide)];exact Own.nil _ _,d⟩
 case true=>
 have F:xk (¬decide (0<=node/\node<=11)=false):=by rw [n.out];exact fun h=>by cases h
 cases kk
 case false=>
  have f:xk (eQ es node key val=4):=by
   show _=_;unfold eQ;rw [ag C.out,ag F.out,af m.out]
  go_enter Tryz.func84,Tryz.ntmps84;go_wp2_with fail;refine(bM _ _ _ es _ j.out).mono ?_;rw [l.out];rintro e A ⟨rfl,d⟩;go_wp2_with (first|(go_at_call 73;refine(dZ _ _ _ _).mono ?_;rw [n.out];rintro e w' ⟨rfl,rfl⟩)|(go_at_call 132;refine(gZ _ _ z.out).mono ?_;rw [m.out];rintro e w' ⟨rfl,rfl⟩));go_ret2;exact⟨_,by rw [f.out];rfl,by rw [jg f.out (by decide)];exact Own.nil _ _,d⟩
 case true=>
 have J:xk (¬qE key=false):=by rw [m.out];exact fun h=>by cases h
 by_cases U:120<val.size
 case pos=>
  have f:xk (eQ es node key val=1):=by
   show _=_;unfold eQ;rw [ag C.out,ag F.out,ag J.out,af U]
  go_enter Tryz.func84,Tryz.ntmps84;go_wp2_with fail;refine(bM _ _ _ es _ j.out).mono ?_;rw [l.out];rintro e A ⟨rfl,d⟩;go_wp2_with (first|(go_at_call 73;refine(dZ _ _ _ _).mono ?_;rw [n.out];rintro e w' ⟨rfl,rfl⟩)|(go_at_call 132;refine(gZ _ _ z.out).mono ?_;rw [m.out];rintro e w' ⟨rfl,rfl⟩));go_ret2;exact⟨_,by rw [f.out];rfl,by rw [jg f.out (by decide)];exact Own.nil _ _,d⟩
 case neg=>
 have r:xk (¬120<val.size):=U;have M:xk (Pl.Good es):=(bK es).1 l.out;have P:xk (MV es):=(yG es).2 M.out.2.2;have Y:xk (len<=60):=by have:=M.out.1;show _<=_;omega
 cases t
 case false=>
  by_cases aw:60<=len
  case pos=>
   have f:xk (eQ es node key val=1):=by
    show _=_;unfold eQ;rw [ag C.out,ag F.out,ag J.out,ag r.out,af ⟨u.out,by omega⟩]
   go_enter Tryz.func84,Tryz.ntmps84;go_wp2_with fail;refine(bM _ _ _ es _ j.out).mono ?_;rw [l.out];rintro e A ⟨rfl,d⟩;go_wp2_with (first|(go_at_call 73;refine(dZ _ _ _ _).mono ?_;rw [n.out];rintro e w' ⟨rfl,rfl⟩)|(go_at_call 132;refine(gZ _ _ z.out).mono ?_;rw [m.out];rintro e w' ⟨rfl,rfl⟩));have g:=d.size;refine(fK _ _ _ es key _ (j.out.below (d.alloc g _))).mono ?_;rw [jJ P.out,u.out];rintro e Q ⟨rfl,rfl⟩;go_wp2_with fail;go_ret2;exact⟨_,by rw [f.out];rfl,by rw [jg f.out (by decide)];exact Own.nil _ _,d.alloc g _⟩
  case neg=>
   have s:xk (A8 es key=1):=by show _=_;unfold A8;rw [u.out];rfl
   have f:xk (eQ es node key val=0):=by
    show _=_;unfold eQ;rw [ag C.out,ag F.out,ag J.out,ag r.out,ag (fun h=>by omega),s.out,ag (by omega)]
   have T:xk (jH es node key val=Pl.ins es ⟨key,1,node,val⟩):=by show _=_;unfold jH;rw [af f.out,s.out]
   go_enter Tryz.func84,Tryz.ntmps84;go_wp2_with fail;refine(bM _ _ _ es _ j.out).mono ?_;rw [l.out];rintro e A ⟨rfl,d⟩;go_wp2_with (first|(go_at_call 73;refine(dZ _ _ _ _).mono ?_;rw [n.out];rintro e w' ⟨rfl,rfl⟩)|(go_at_call 132;refine(gZ _ _ z.out).mono ?_;rw [m.out];rintro e w' ⟨rfl,rfl⟩));have g:=d.size;refine(fK _ _ _ es key _ (j.out.below (d.alloc g _))).mono ?_;rw [jJ P.out,u.out];rintro e Q ⟨rfl,rfl⟩;go_wp2_with fail;refine(mY _ _ _ es ⟨key,1,node,val⟩ _ (j.out.below (d.alloc g _)) Y.out).mono ?_;rintro e w3 ⟨v3,rfl,i,B⟩;have N:Own w3 w.heap.size v3 (Pl.ins es ⟨key,1,node,val⟩):=by
    rw [Fq es _ M.out.2.2]at i;exact i.mono (by simp;omega)
   have R:=ae N;clear i N;go_wp2_with fail;go_ret2;exact⟨_,by rw [f.out];rfl,by rw [T.out];exact R.out,(d.alloc g _).trans (B.mono (by simp;omega))⟩
 case true=>
  have G:Pl.pos es key<len:=by
   have:=u.out;unfold Pl.there at this;simp only [Ah,ik]at this;omega
  obtain⟨b,off,rfl,q,V⟩:∃b off,a=some ⟨b,off,none⟩/\b<w.heap.size/\dN w b off es:=by
   rcases j.out.2.2.2.2 with h|h
   ·rw [h]at hlen;simp at hlen;omega
   ·exact h
  have K:xk (dN w b off es):=V;clear V;have o:1<=(eF es (Pl.pos es key)).gz/\(eF es (Pl.pos es key)).gz<=1099511627776:=by
   have:=M.out.2.1 _ (lU es (Pl.pos es key) (by omega));unfold aK.may uQ at this;simp only [Ah,ik]at this;exact this.1.1.2
  have s:xk (A8 es key=(eF es (Pl.pos es key)).gz+1):=by show _=_;unfold A8;rw [u.out];rfl
  have S:xk (Pl.pos es key<es.length):=by show _<_;omega
  have L:xk (¬(Pl.there es key=false/\60<=es.length)):=by
   intro h;rw [u.out]at h
   cases h.1
  obtain⟨p,E⟩:=ai (Pl.pos es key);rw [E.out]at G o s S;obtain⟨y,D⟩:=ai (eF es p);rw [D.out]at o s;obtain⟨yk,O,yo,yx⟩:=y;simp only at o s;have aq:(p:Int)<(len:Int):=by omega
  have an:decide ((p:Int)<0)=false:=Fb (by omega);have ak:decide ((0:Int)<=(p:Int))=true:=zx (by omega);obtain⟨ad,aa⟩:=o;by_cases x:1099511627776<O+1
  case pos=>
   have f:xk (eQ es node key val=2):=by
    show _=_;unfold eQ;rw [ag C.out,ag F.out,ag J.out,ag r.out,ag L.out,s.out,af x]
   go_enter Tryz.func84,Tryz.ntmps84;go_wp2_with fail;refine(bM _ _ _ es _ j.out).mono ?_;rw [l.out];rintro e A ⟨rfl,d⟩;go_wp2_with (first|(go_at_call 73;refine(dZ _ _ _ _).mono ?_;rw [n.out];rintro e w' ⟨rfl,rfl⟩)|(go_at_call 132;refine(gZ _ _ z.out).mono ?_;rw [m.out];rintro e w' ⟨rfl,rfl⟩));have g:=d.size;refine(fK _ _ _ es key _ (j.out.below (d.alloc g _))).mono ?_;rw [jJ P.out,u.out,E.out];rintro e Q ⟨rfl,rfl⟩;have I:=Ee q g;obtain⟨j0,j1,j2,j3⟩:=sD K.out q d D.out S.out;go_wp2_with fail;go_ret2;exact⟨_,by rw [f.out];rfl,by rw [jg f.out (by decide)];exact Own.nil _ _,(d.alloc g _)⟩
  case neg=>
   have f:xk (eQ es node key val=0):=by
    show _=_;unfold eQ;rw [ag C.out,ag F.out,ag J.out,ag r.out,ag L.out,s.out,ag x]
   have T:xk (jH es node key val=Pl.ins es ⟨key,O+1,node,val⟩):=by show _=_;unfold jH;rw [af f.out,s.out]
   go_enter Tryz.func84,Tryz.ntmps84;go_wp2_with fail;refine(bM _ _ _ es _ j.out).mono ?_;rw [l.out];rintro e A ⟨rfl,d⟩;go_wp2_with (first|(go_at_call 73;refine(dZ _ _ _ _).mono ?_;rw [n.out];rintro e w' ⟨rfl,rfl⟩)|(go_at_call 132;refine(gZ _ _ z.out).mono ?_;rw [m.out];rintro e w' ⟨rfl,rfl⟩));have g:=d.size;refine(fK _ _ _ es key _ (j.out.below (d.alloc g _))).mono ?_;rw [jJ P.out,u.out,E.out];rintro e Q ⟨rfl,rfl⟩;have I:=Ee q g;obtain⟨j0,j1,j2,j3⟩:=sD K.out q d D.out S.out;go_wp2_with fail;refine(mY _ _ _ es ⟨key,O+1,node,val⟩ _ (j.out.below (d.alloc g _)) Y.out).mono ?_;rintro e w3 ⟨v3,rfl,i,B⟩;have N:Own w3 w.heap.size v3 (Pl.ins es ⟨key,O+1,node,val⟩):=by
    rw [Fq es _ M.out.2.2]at i;exact i.mono (by simp;omega)
   have R:=ae N;clear i N;go_wp2_with fail;go_ret2;exact⟨_,by rw [f.out];rfl,by rw [T.out];exact R.out,(d.alloc g _).trans (B.mono (by simp;omega))⟩
theorem Pl.xX{es:List aK}{node:Int}{key val:ByteArray}(h:eQ es node key val=0):Pl.Good (jH es node key val):=by
 have j:jH es node key val=Pl.ins es ⟨key,A8 es key,node,val⟩:=by unfold jH;rw [af h]
 rw [j];unfold eQ at h;by_cases d:Pl.fault es=0
 ·rw [ag (by simpa using d)]at h;by_cases g:decide (0<=node/\node<=11)=false
  ·rw [af g]at h;cases h
  ·rw [ag g]at h;by_cases f:qE key=false
   ·rw [af f]at h;cases h
   ·rw [ag f]at h;by_cases i:120<val.size
    ·rw [af i]at h;cases h
    ·rw [ag i]at h;by_cases c:Pl.there es key=false/\60<=es.length
     ·rw [af c]at h;cases h
     ·rw [ag c]at h;by_cases k:1099511627776<A8 es key
      ·rw [af k]at h;cases h
      ·have b:=(bK es).1 d;refine⟨?_,fun e he=> ?_,Ul b.2.2⟩
       ·rw [LH];have:=b.1;show(if Pl.there es key=true then es.length else es.length+1)<=60
        cases a:Pl.there es key
        ·rw [a]at c;simp at c⊢;omega
        ·simpa using this
       ·rcases Ls he with rfl|he
        ·show uQ key (A8 es key) node val=true;refine abE (by simpa using f) ?_ (by omega) (by simpa using g) (by omega);unfold A8;split
         ·rename_i a;have hm:eF es (Pl.pos es key)∈es:=by
           unfold Pl.there at a;simp only [Ah,ik]at a;rw [oD _ _ a.1];exact O6 _
          have:=b.2.1 _ hm;unfold aK.may uQ at this;simp at this;omega
         ·omega
        ·exact b.2.1 e he
 ·rw [af (by simpa using d)]at h;exact absurd h d
def Pl.putsS(es:List aK)(of:Int)(its:List (ByteArray×ByteArray)):Nat->Int×List aK×List ByteArray
 |0=>(0,es,[])
 |j+1=>
  let r:=Pl.putsS es of its j
  let t:=its.getD j (⟨#[]⟩,⟨#[]⟩)
  if r.1≠0 then r else if Pl.stands r.2.1 of t.1 t.2=true then r else if eQ r.2.1 of t.1 t.2≠0 then(eQ r.2.1 of t.1 t.2,r.2.1,r.2.2)else(0,jH r.2.1 of t.1 t.2,r.2.2++ [t.1])
theorem Pl.NR{es:List aK}{of:Int}{its:List (ByteArray×ByteArray)}{j:Nat}(h:(Pl.putsS es of its j).1≠0):∀m,j<=m->Pl.putsS es of its m=Pl.putsS es of its j:=by
 intro m hm;induction m with
 |zero=>rw [show j=0 by omega]
 |succ m a=>
  rcases MJ m j with g|g
  ·rw [show m+1=j by omega]
  ·have e:=a g;show(if(Pl.putsS es of its m).1≠0 then _ else _)=_;rw [af (by rw [e];exact h),e]
theorem yI{d c:TypeId}(b:d≠c){w:xn}{b1 n s1 s2 k j:Nat}{u v:BD}{xs i:List BD}(m:w.ownsRow b1 d s1 u k xs)(l:w.ownsRow n c s2 v j i):u.ownBlock=none\/u.ownBlock≠v.ownBlock:=by
 obtain⟨_,⟨rfl,_⟩|⟨g,cap,cur,rfl,_,hh,_⟩⟩:=m
 ·exact .inl rfl
 ·right;obtain⟨_,⟨rfl,_⟩|⟨o,h,f,rfl,_,a,_⟩⟩:=l
  ·simp [Xc]
  ·intro e;simp [Xc]at e;subst e;rw [hh]at a;simp at a;exact b a.2
def MC(w:xn)(tb:Nat)(its:List (ByteArray×ByteArray)):Prop:=tb<w.heap.size/\∀j,j<its.length->w.cell? ⟨tb,j*2,none⟩=some (.string (its.getD j (⟨#[]⟩,⟨#[]⟩)).1)/\w.cell? ⟨tb,j*2+1,none⟩=some (.string (its.getD j (⟨#[]⟩,⟨#[]⟩)).2)
def Pl.nR(s:Pl.Nt)(a:Nat)(its:List (ByteArray×ByteArray)):List ByteArray:=if(Pl.putsS (s.K a) a its its.length).1=0 then(Pl.putsS (s.K a) a its its.length).2.2 else []
def Pl.tJ(s:Pl.Nt)(a:Nat)(its:List (ByteArray×ByteArray)):Pl.Nt:=if(Pl.putsS (s.K a) a its its.length).1=0 then{s with K:=cZ s.K a (Pl.putsS (s.K a) a its its.length).2.1}else s
theorem QR(B:Nat)(s:Pl.Nt)(a:Nat)(X m tc:Nat)(its:List (ByteArray×ByteArray))(w:xn)(h:aT w B s)(ha:a<12)(hf:Pl.fault (s.K a)=0)(hm:its.length=m)(bR:m<=9)(bO:m<=tc)(F:MC w X its)(ad:∀t∈its,t.1.size<=BG/\t.2.size<=BG):
  Eb xh 164 #[.pointer (some ⟨B,0,none⟩),.int .i64 a,.slice (some ⟨X,0,none⟩) m tc] w fun e w'=>
   ∃vk,e= .returned (.agg #[.int .i64 (Pl.putsS (s.K a) a its its.length).1,.slice none 0 0,.int .i64 0,vk])/\bF w' w.heap.size vk (nR s a its)/\aT w' B (tJ s a its)/\bG B w w':=by
 have HN:=ae h;have b2:=h.lt;have HF:=ae hf;have bp:=ae F;have xJ:=ae ad;have HM:=ae hm;have aa:=F.1;clear h hf F ad hm;have bS:(a:Int)<12:=by omega
 obtain⟨cd,Z⟩:=ai ((Pl.putsS (s.K a) a its its.length).1);obtain⟨ks,uB⟩:=ai (nR s a its);obtain⟨sn,yQ⟩:=ai (tJ s a its);have Xf:xk (cd=0->ks=(Pl.putsS (s.K a) a its m).2.2/\sn={s with K:=cZ s.K a (Pl.putsS (s.K a) a its m).2.1}):=ae fun e=>by
  rw [<-uB.out,<-yQ.out];unfold nR tJ;rw [Z.out,af e,af e,HM.out];exact⟨rfl,rfl⟩
 have aM:xk (cd≠0->ks= []/\sn=s):=ae fun e=>by
  rw [<-uB.out,<-yQ.out];unfold nR tJ;rw [Z.out,ag e,ag e];exact⟨rfl,rfl⟩
 have M:xk ((Pl.putsS (s.K a) a its m).1=cd):=ae (by rw [<-HM.out];exact Z.out);rw [Z.out,uB.out,yQ.out];clear Z uB yQ;have xM:=ae (fun(c:Int) (W:xn)=>fJ c W);obtain⟨W1,u⟩:=aV (w.alloc (.cells #[.int .i64 0,.slice none 0 0,.int .i64 0,.slice none 0 0] 40));have nH:xk (W1.heap[w.heap.size]? =some (.cells #[.int .i64 0,.slice none 0 0,.int .i64 0,.slice none 0 0] 40)):=ae (by rw [u.out];exact bW _ _);have a6:xk (qh w.heap.size w W1):=ae (by rw [u.out];exact(oP _ _).alloc (oC _) _);have bE:W1.heap.size=w.heap.size+1:=by rw [u.out];simp
 have bt:B≠w.heap.size:=by omega
 have A:w.heap.size≠B:=by omega
 have hle:w.heap.size<=w.heap.size:=oC _;obtain⟨VP,VK,VT,T,h2,h3,h4,h5⟩:=HN.out.below a6.out;have bs:xk (Pl.Good (s.K a)):=ae ((bK _).1 HF.out);have g:=T.lq a ha;have S9:=ae (h3 a ha);obtain⟨bz,bx,ay⟩:=az S9.out;rw [ay]at g S9;obtain⟨bw,bk⟩:=ai ((s.K a).length);rw [bk.out]at g S9;have b6:=T.lt;have WY:=ae (T.soft (a*4+2));have Tj:=ae g;clear T h2 h3 h4 h5 ay;go_enter Tryz.func164,Tryz.ntmps164;go_wp2_with (rw [<-u.out]);clear g;go_loopw [7,8,22] (fun ul uk i wr=>∃(j:Nat) (vl vk:BD) (es:List aK) (f:List ByteArray),vl=ul/\vk=uk/\j<=m/\i= .int .i64 j/\xk (Pl.putsS (s.K a) a its j=(0,es,f))/\xk (Pl.Good es)/\xk (Own wr (B+1) vl es)/\xk (bF wr (w.heap.size+1) vk f)/\xk (f.length<=j)/\xk (qh (w.heap.size+1) W1 wr)) (fun _ _ i _=>m-(Iy i).toNat)
 case atStart=>exact⟨0,_,_,s.K a,[],rfl,rfl,by omega,rfl,ae rfl,bs,S9,ae (bF.nil _ _),ae (oC _),ae (oP _ _)⟩
 case round=>
  obtain⟨j,vl,vk,es,f,ba,bb,hj,rfl,L,aR,x,Y,y,E⟩:=hrel;subst ba;subst bb;obtain⟨la,lc,rfl,C,an,bg⟩:=x.out.shape aR.out.ok;obtain⟨P,O,rfl⟩:=az Y.out;have bN:=E.out.size;have H:xk (qh w.heap.size w wr):=ae (a6.out.trans (E.out.mono (by omega)));have q:=ae ((E.out.block w.heap.size (by omega)).trans nH.out);have bX:B<wr.heap.size:=by omega
  have g:=(E.out.cell (p:=⟨B,a*4+2,none⟩) (show B<w.heap.size+1 by omega)).trans Tj.out;have bc:=(E.out.frozen (p:=⟨B,a*4+2,none⟩) (show B<w.heap.size+1 by omega)).trans WY.out;have Jg:=ae (HN.out.below H.out);obtain⟨ne,Xw⟩:=ai (es.length);obtain⟨S,CE⟩:=ai (f.length);have Ar:=ae C;have lF:=ae an;rw [Xw.out]at Ar x⊢;rw [CE.out]at Y y⊢;clear C an bg;by_cases aq:j<m
  ·have b9:(j:Int)<(m:Int):=by omega
   obtain⟨c0,c1⟩:=bp.out.2 j (by rw [HM.out];exact aq);have MM:xk ((its.getD j (⟨#[]⟩,⟨#[]⟩)).1.size<=BG/\(its.getD j (⟨#[]⟩,⟨#[]⟩)).2.size<=BG):=ae (xJ.out _ (by
    rw [Qd,Ru (by rw [HM.out];exact aq)];exact O6 _))
   have b:xk (Pl.putsS (s.K a) a its (j+1)=if Pl.stands es a (its.getD j (⟨#[]⟩,⟨#[]⟩)).1 (its.getD j (⟨#[]⟩,⟨#[]⟩)).2=true then(0,es,f)else if eQ es a (its.getD j (⟨#[]⟩,⟨#[]⟩)).1 (its.getD j (⟨#[]⟩,⟨#[]⟩)).2≠0 then(eQ es a (its.getD j (⟨#[]⟩,⟨#[]⟩)).1 (its.getD j (⟨#[]⟩,⟨#[]⟩)).2,es,f)else(0,jH es a (its.getD j (⟨#[]⟩,⟨#[]⟩)).1 (its.getD j (⟨#[]⟩,⟨#[]⟩)).2,f++ [(its.getD j (⟨#[]⟩,⟨#[]⟩)).1])):=ae (by
    show(if(Pl.putsS (s.K a) a its j).1≠0 then _ else _)=_;rw [L.out,ag (by simp)])
   obtain⟨⟨k,v⟩,bo⟩:=ai (its.getD j (⟨#[]⟩,⟨#[]⟩));rw [bo.out]at c0 c1 MM b;simp only at c0 c1 MM b;have t0:=(H.out.cell (p:=⟨X,j*2,none⟩) aa).trans c0;have t1:=(H.out.cell (p:=⟨X,j*2+1,none⟩) aa).trans c1;have bL:X<wr.heap.size:=by have:=H.out.size;omega
   obtain⟨R,HR⟩:=ai (Pl.stands es a k v);obtain⟨Q,Xv⟩:=ai (eQ es a k v);rw [HR.out,Xv.out]at b;obtain⟨W2,r⟩:=aV (wr.alloc (.cells #[.string k,.string v] 223));have N:xk (qh wr.heap.size wr W2):=ae (by rw [r.out];exact(oP _ _).alloc (oC _) _);have bl:xk (W2.heap[wr.heap.size]? =some (.cells #[.string k,.string v] 223)):=ae (by rw [r.out];exact bW _ _);have bB:W2.heap.size=wr.heap.size+1:=by rw [r.out];simp
   obtain⟨m0,m1,a8,a7,ak⟩:=aQ bl.out;have I:=ae (Qs la ne lc es a k v W2 (Ar.out.below N.out));rw [HR.out]at I;clear c0 c1 g bc;go_wp2_with (rw [<-r.out]);refine I.out.mono ?_;rintro e w3 ⟨rfl,n⟩;have n0:=(n.cell (p:=⟨wr.heap.size,0,none⟩) ak).trans m0;have n1:=(n.cell (p:=⟨wr.heap.size,1,none⟩) ak).trans m1;have l:xk (qh wr.heap.size wr w3):=ae (N.out.trans (n.mono N.out.size));have bA:=n.size;have bd:wr.heap.size<w3.heap.size:=by omega
   clear n m0 m1 a8 a7
   cases R with
   |true=>
    have bm:xk (Pl.putsS (s.K a) a its (j+1)=(0,es,f)):=ae (by rw [b.out,af rfl]);go_wp2_with fail;go_roundw
    case rel=>exact⟨j+1,_,_,es,f,rfl,rfl,by omega,by go_num,bm,aR,ae (x.out.below l.out),ae (Y.out.below l.out),ae (by have:=y.out;have:=CE.out;omega),ae (E.out.trans (l.out.mono (by omega)))⟩
    case measure=>simp [Iy];omega
   |false=>
    rw [ag (by simp)]at b;have J:=ae (UK la ne lc es a k v w3 (Ar.out.below l.out) lF.out MM.out.1 MM.out.2);rw [Xv.out]at J;go_wp2_with fail;refine J.out.mono ?_;rintro e w4 ⟨vo,rfl,wX,o⟩;obtain⟨oa,oc,rfl⟩:=az wX;have l0:=(o.cell (p:=⟨wr.heap.size,0,none⟩) bd).trans n0;have z:xk (qh wr.heap.size wr w4):=ae (l.out.trans (o.mono l.out.size));have yw:=o.size;have b7:wr.heap.size<w4.heap.size:=by omega
    have sV:=ae (Own.mono wX (show B+1<=w3.heap.size by omega));obtain⟨no,UO⟩:=ai ((jH es a k v).length);rw [UO.out]at sV⊢;clear wX o n0 n1 J I;by_cases d:Q=0
    ·rw [ag (by simpa using d)]at b;have bq:xk (Pl.Good (jH es a k v)):=ae (xX (by rw [Xv.out,d]));subst d;have aD:=ae (Y.out.below z.out);go_wp2_with (at_builtin;refine uX rfl (.tmp 45) (.tmp 48) rfl (w.heap.size+1) (.slice P S O) f k rfl aD.out (by omega) rfl (by have:=y.out;have:=CE.out;omega) ?_;intro v5 w5 iW ar aw;have oL:=ae iW;have br:=ae ar;have jP:=ae aw;clear iW ar aw);go_roundw
     case rel=>
      refine⟨j+1,_,_,jH es a k v,f++ [k],rfl,rfl,by omega,by go_num,b,bq,ae ?_,oL,ae (by simp;have:=y.out;have:=CE.out;omega),ae ((E.out.trans (z.out.mono (by omega))).trans jP.out)⟩;exact aad (PW sV.out _) br.out (yI (by decide) sV.out aD.out)
     case measure=>simp [Iy];omega
    ·have b8:(Q != 0)=true:=by simpa using d
     rw [af d]at b;have XB:xk (cd=Q):=ae (by
      have T:=NR (es:=s.K a) (of:=a) (its:=its) (j:=j+1) (by rw [b.out];exact d) m (by omega);rw [<-M.out,T,b.out])
     obtain⟨V,U⟩:=aM.out (by rw [XB.out];exact d);have Fg:=ae V;have D9:=ae U;have aL:=ae ((z.out.block _ (aG q.out)).trans q.out);have aE:xk (qh w.heap.size w w4):=ae (H.out.trans (z.out.mono H.out.size));clear V U d l0;go_wp2_with fail;refine(xM.out Q _).mono ?_;rintro e w6 ⟨rfl,G⟩;have av:=(G.block _ (aG aL.out)).trans aL.out;have vW:=ae (aE.out.trans (G.mono aE.out.size));obtain⟨⟨y0,y1,y2,y3⟩,yf,yl⟩:=aS av;clear G av;go_wp2_with fail;have D:=(((vW.out.setCell (p:=⟨w.heap.size,0,none⟩) hle (.int .i64 Q)).setCell (p:=⟨w.heap.size,1,none⟩) hle (.slice none 0 0)).setCell (p:=⟨w.heap.size,2,none⟩) hle (.int .i64 0)).setCell (p:=⟨w.heap.size,3,none⟩) hle (.slice none 0 0)
     refine xx (v:= .agg #[.int .i64 Q,.slice none 0 0,.int .i64 0,.slice none 0 0]) (by simp [results,Tryz.results164,go_sem,y0,y1,y2,y3]) rfl ⟨_,by rw [XB.out],?_,?_,bG.of (aI.of D)⟩
     ·rw [Fg.out];exact bF.nil _ _
     ·rw [D9.out];exact HN.out.below D
  ·obtain rfl:j=m:=by omega
   have Na:xk (cd=0):=ae (by rw [<-M.out,L.out]);obtain⟨V,U⟩:=Xf.out Na.out;rw [L.out]at V U;have Fg:=ae V;have D9:=ae U;obtain⟨⟨y0,y1,y2,y3⟩,yf,yl⟩:=aS q.out;clear V U Xf aM M;go_wp2_with fail;obtain⟨WS,ET⟩:=aV (wr.setCell ⟨B,a*4+2,none⟩ (.slice la ne lc));have vU:xk (aI B wr WS):=ae (by rw [ET.out];exact(aI.refl B wr).setCell _ _);have yP:=ae ((vU.out.block _ yl A).trans q.out);rw [<-ET.out];obtain⟨Wf,uC⟩:=aV (jy WS w.heap.size (.int .i64 0) (.slice none 0 0) (.int .i64 0) (.slice P S O));have gX:aI w.heap.size WS Wf:=by rw [uC.out];exact jF (aI.refl w.heap.size WS) _ _ _ _
   have bj:Wf.heap[w.heap.size]? =some (.cells #[.int .i64 0,.slice none 0 0,.int .i64 0,.slice P S O] 40):=by
    rw [uC.out];exact lL yP.out _ _ _ _
   have bh:bF Wf w.heap.size (.slice P S O) f:=qx (Ud (World.dh Y.out (by omega)) vU.out (Jg.out.blk)) gX yP.out;obtain⟨⟨z0,z1,z2,z3⟩,_,_⟩:=aS bj;rw [show(((WS.setCell ⟨w.heap.size,0,none⟩ (.int .i64 0)).setCell ⟨w.heap.size,1,none⟩ (.slice none 0 0)).setCell ⟨w.heap.size,2,none⟩ (.int .i64 0)).setCell ⟨w.heap.size,3,none⟩ (.slice P S O)=Wf from uC.out.symm];refine xx (v:= .agg #[.int .i64 0,.slice none 0 0,.int .i64 0,.slice P S O]) (by simp [results,Tryz.results164,go_sem,z0,z1,z2,z3]) rfl ⟨_,by rw [Na.out],?_,?_,?_⟩
   ·rw [Fg.out];exact bh
   ·rw [D9.out];refine aT.ql ?_ gX yP.out A;rw [ET.out];exact Jg.out.wG a ha (.slice la ne lc) _ x.out
   ·exact bG.of (aI.over ((aI.of H.out:aI B w wr).trans vU.out) gX hle)
theorem Pl.FN{b:Int}(h:0<=b/\b<=8):1<=Pl.span b/\Pl.span b<=256:=by
 rcases Ic h with rfl|rfl|rfl|rfl|rfl|rfl|rfl|rfl|rfl<;>decide
theorem eX(a:Option Addr)(len cap:Nat)(ps:List (Int×Int))(w:xn)(h:di w a len cap ps):
  Eb xh 76 #[.slice a len cap] w fun e w'=>e= .returned (.int .i64 (fM ps))/\qh w.heap.size w w':=by
 obtain⟨hl,hc,hm,aw,u⟩:=h;unfold BG at hm;by_cases h6:6<len
 ·have M:=ae (Dp (ps:=ps) (by omega));go_enter Tryz.func76,Tryz.ntmps76;go_wp2;go_ret;exact⟨aF M.out.symm,oP _ _⟩
 go_enter Tryz.func76,Tryz.ntmps76;go_wp2;go_loopw [3] (fun i wr=>∃k:Nat,k<=len/\i= .int .i64 k/\xk (fM ps=Pl.pfxN ps (len-k) k)/\xk (∀j,j<k->iH (Pl.pr ps j)=0)/\qh w.heap.size w wr) (fun i _=>len-(Iy i).toNat)
 case atStart=>exact⟨0,OG _,rfl,by show _=_;rw [xY (by omega),hl];rfl,ae (by intro j hj;omega),oP _ _⟩
 case round=>
  obtain⟨k,hk,rfl,G,HV,A⟩:=hrel;by_cases ay:k<len
  ·obtain⟨b,off,rfl,V,hr⟩:∃b off,a=some ⟨b,off,none⟩/\b<w.heap.size/\eP w b off ps:=by
    rcases u with rfl|h
    ·simp at hl;omega
    ·exact h
   clear u;have I:=hr.below V A;obtain⟨c0,c1⟩:=I k (by omega);have O:=A.size;obtain⟨n,hn⟩:∃n,len-k=n+1:=⟨len-k-1,by omega⟩
   have F:xk (len-k=n+1):=hn;clear hn;have J:b<wr.heap.size:=by omega
   obtain⟨pp,P⟩:=ai (Pl.pr ps k);rw [P.out]at c0 c1;obtain⟨p1,p2⟩:=pp;simp only at c0 c1;obtain⟨R,o⟩:=ai (decide (0<=p2/\p2<=8));obtain⟨S,E⟩:=ai (decide (0<=p1/\p1<=255));by_cases s:(R&&S)=true
   ·simp only [Ah]at s;obtain⟨rfl,rfl⟩:=s;have t:=of_decide_eq_true o.out;have L:=of_decide_eq_true E.out;obtain⟨sp,Z⟩:=ai (Pl.span p2);have H:=FN t;rw [Z.out]at H;have C:xk (∀W,Eb xh 121 #[.int .i64 p2] W fun e w'=>e= .returned (.int .i64 sp)/\qh W.heap.size W w'):=by
     refine ae fun W=> ?_;have:=zH p2 W t;rw [Z.out]at this;exact this.mono fun e w' ⟨Y,D⟩=>⟨Y,D▸oP _ _⟩
    have N:xk (iH (Pl.pr ps k)=if p1%sp=0 then 0 else 4):=ae (by rw [P.out,Ub t L];simp only;rw [Z.out]);obtain⟨aL,aE⟩:=t;obtain⟨X,aM⟩:=L;obtain⟨ad,aa⟩:=H;have Rk:p1.tmod sp=p1%sp:=Qi X;have ak:(sp==0)=false:=by simp;omega
    have T:=Int.emod_nonneg p1 (show sp≠0 by omega);have U:=Int.emod_lt_of_pos p1 (show 0<sp by omega);obtain⟨rm,B⟩:=ai (p1%sp);rw [B.out]at Rk T U;by_cases r:rm=0
    ·subst r;have Q:xk (iH (Pl.pr ps k)=0):=ae (by rw [N.out,B.out];rfl);have ML:xk (∀j,j<k+1->iH (Pl.pr ps j)=0):=by
      refine ae fun j hj=> ?_;rcases MJ j k with h|h
      ·exact HV.out j h
      ·obtain rfl:j=k:=by omega
       exact Q.out
     rcases Nat.eq_zero_or_pos k with z|z
     ·have hd:decide (0<k)=false:=by simp;omega
      have CG:xk (k=0):=z;clear z;go_wp2_with (go_at_call 73;refine(dZ _ _ _ _).mono ?_;(first|rw [o.out]|rw [E.out]);rintro e w' ⟨rfl,rfl⟩);obtain⟨d,c⟩:∃d,d=wr.alloc (.cells #[.int .i64 p1,.int .i64 p2] 49):=⟨_,rfl⟩
      have x:d.cell? ⟨wr.heap.size,0,none⟩=some (.int .i64 p1):=by rw [c];simp
      have v:d.cell? ⟨wr.heap.size,1,none⟩=some (.int .i64 p2):=by rw [c];simp
      have xs:wr.heap.size<d.heap.size:=by rw [c];simp
      have g:qh w.heap.size w d:=by rw [c];exact A.alloc O _
      rw [<-c];clear c;have i0:=aC xs x;have i1:=aC xs v;have q:=dO d;refine aN (by kernel_rfl) (by kernel_rfl) ?_;repeat (go_big_quiet_step ((go_at_call 121;exact dP (C.out _))))
      refine WZ ?_;intro w5 l;have f:=eU l;clear l i0 i1 q;go_wp2_with fail;go_quiet (fail);go_wp2_with fail;go_roundw
      case rel=>exact⟨k+1,by omega,by go_num,by show _=_;have h:=F.out;rw [G.out,h];have hm:=Q.out;rw [CG.out]at hm⊢;rw [zM hm];congr 1;have h0:=CG.out;omega,ML,aO (g.trans (f.mono g.size)) _⟩
      case measure=>simp [Iy];omega
     ·obtain⟨m,rfl⟩:∃m,k=m+1:=⟨k-1,by omega⟩
      obtain⟨d0,d1⟩:=I m (by omega);obtain⟨qq,HQ⟩:=ai (Pl.pr ps m);have y:=gm (HV.out m (by omega));rw [HQ.out]at d0 d1 y;obtain⟨q1,q2⟩:=qq;simp only at d0 d1 y;obtain⟨⟨av,an⟩,ar,aq⟩:=y;have MP:xk (oz (Pl.pr ps m) (Pl.pr ps (m+1))=decide (10*p1+p2<=10*q1+q2)):=ae (by rw [HQ.out,P.out];rfl);by_cases hle:10*p1+p2<=10*q1+q2
      all_goals
       go_wp2_with (go_at_call 73;refine(dZ _ _ _ _).mono ?_;(first|rw [o.out]|rw [E.out]);rintro e w' ⟨rfl,rfl⟩);obtain⟨d,c⟩:∃d,d=wr.alloc (.cells #[.int .i64 p1,.int .i64 p2] 49):=⟨_,rfl⟩
       have x:d.cell? ⟨wr.heap.size,0,none⟩=some (.int .i64 p1):=by rw [c];simp
       have v:d.cell? ⟨wr.heap.size,1,none⟩=some (.int .i64 p2):=by rw [c];simp
       have xs:wr.heap.size<d.heap.size:=by rw [c];simp
       have K:qh wr.heap.size wr d:=by rw [c];exact(oP _ _).alloc (oC _) _
       have g:qh w.heap.size w d:=by rw [c];exact A.alloc O _
       rw [<-c];clear c;have i0:=aC xs x;have i1:=aC xs v;have q:=dO d;refine aN (by kernel_rfl) (by kernel_rfl) ?_;repeat (go_big_quiet_step ((go_at_call 121;exact dP (C.out _))))
       refine WZ ?_;intro w5 l;have f:=eU l;clear l i0 i1 q;have y0:=(f.cell (p:=⟨wr.heap.size,0,none⟩) xs).trans x;have y1:=(f.cell (p:=⟨wr.heap.size,1,none⟩) xs).trans v;have e0:=(f.cell (p:=⟨b,off+m*2,none⟩) (show b<d.heap.size by omega)).trans ((K.cell (p:=⟨b,off+m*2,none⟩) J).trans d0);have e1:=(f.cell (p:=⟨b,off+m*2+1,none⟩) (show b<d.heap.size by omega)).trans ((K.cell (p:=⟨b,off+m*2+1,none⟩) J).trans d1);have oq:=f.size;clear x v d0 d1;go_wp2_with fail;go_quiet (fail);go_wp2_with fail
      ·go_ret;exact⟨aF (by rw [G.out,F.out,F6 Q.out (by rw [MP.out];simpa using hle)]),aO (g.trans (f.mono g.size)) _⟩
      ·go_roundw
       case rel=>exact⟨m+1+1,by omega,by go_num,by show _=_;rw [G.out,F.out,KX Q.out (by rw [MP.out];simpa using hle)];congr 1;have:=F.out;omega,ML,aO (g.trans (f.mono g.size)) _⟩
       case measure=>simp [Iy];omega
    ·have M:xk (fM ps=4):=by
      refine ae ?_;have h4:iH (Pl.pr ps k)=4:=by rw [N.out,B.out,ag r]
      rw [G.out,F.out,Bd (by rw [h4];decide),h4]
     have aD:(rm==0)=false:=by simpa using r
     clear r;go_wp2_with (go_at_call 73;refine(dZ _ _ _ _).mono ?_;(first|rw [o.out]|rw [E.out]);rintro e w' ⟨rfl,rfl⟩);obtain⟨d,c⟩:∃d,d=wr.alloc (.cells #[.int .i64 p1,.int .i64 p2] 49):=⟨_,rfl⟩
     have x:d.cell? ⟨wr.heap.size,0,none⟩=some (.int .i64 p1):=by rw [c];simp
     have v:d.cell? ⟨wr.heap.size,1,none⟩=some (.int .i64 p2):=by rw [c];simp
     have xs:wr.heap.size<d.heap.size:=by rw [c];simp
     have g:qh w.heap.size w d:=by rw [c];exact A.alloc O _
     rw [<-c];clear c;have i0:=aC xs x;have i1:=aC xs v;have q:=dO d;refine aN (by kernel_rfl) (by kernel_rfl) ?_;repeat (go_big_quiet_step ((go_at_call 121;exact dP (C.out _))))
     refine WZ ?_;intro w5 l;have f:=eU l;clear l i0 i1 q;go_wp2_with fail;go_ret;exact⟨aF M.out.symm,g.trans (f.mono g.size)⟩
   ·have M:xk (fM ps=2):=by
     refine ae ?_;have D:iH (Pl.pr ps k)=2:=by
      rw [P.out];apply wO;have Y:=o.out;have D:=E.out
      cases R<;>cases S<;>simp at s Y D⊢<;>omega
     rw [G.out,F.out,Bd (by rw [D];decide),D]
    cases R
    all_goals cases S
    all_goals first|(exact absurd rfl s)|skip
    all_goals
     go_wp2_with (go_at_call 73;refine(dZ _ _ _ _).mono ?_;(first|rw [o.out]|rw [E.out]);rintro e w' ⟨rfl,rfl⟩);go_ret;exact⟨aF M.out.symm,A.alloc O _⟩
  ·obtain rfl:k=len:=by omega
   go_wp2;go_ret;exact⟨aF (by rw [G.out];simp [Pl.pfxN]),A⟩
def Pl.NJ(l:List UInt8):Int:=match iP 47 l with
 |none=>4
 |some ps=>fM ps
def Pl.Ej(l:List UInt8):List (Int×Int):=if NJ l=0 then(iP 47 l).getD []else []
theorem Un:(Tryz.prog.info? 49).map (fun i=>(i.zero,i.size,i.bytes))=some (some (.agg #[.int .i64 0,.int .i64 0]),2,16):=by kernel_rfl
theorem Pl.KT(l:List UInt8):∀p∈Ej l,dJ p:=by
 intro p hp;unfold Ej at hp;split at hp
 ·cases h:iP 47 l with
  |none=>rw [h]at hp;simp at hp
  |some a=>
   rw [h]at hp;exact(uK (m:=47) (l:=l) h).2 p hp
 ·simp at hp
theorem Pl.QN(m:UInt8)(l:List UInt8):iP m l=Pl.pairsP m (BN l):=by
 unfold iP BN;split<;>rfl
theorem Pl.Es(a:List ByteArray)(k:Nat)(h:k<a.length):Pl.lists (a.drop k)=a[k].data.toList::Pl.lists (a.drop (k+1)):=by
 rw [List.drop_eq_getElem_cons h];rfl
theorem D7(s:ByteArray)(w:xn)(X:s.size<=4398046511103):
  Eb xh 32 #[.string s] w fun e w'=>∃vl:BD,e= .returned (.tuple #[vl,.int .i64 (NJ s.data.toList)])/\
   aU 49 w' w.heap.size vl (Ej s.data.toList)/\qh w.heap.size w w':=by
 obtain⟨R,t⟩:=ai (iP 47 s.data.toList)
 cases R with
 |none=>
  have n:xk (NJ s.data.toList=4/\Ej s.data.toList= []):=by
   have h:NJ s.data.toList=4:=by unfold NJ;rw [t.out]
   refine ae ⟨h,?_⟩;unfold Ej;rw [h];rfl
  rw [n.out.1,n.out.2];go_enter Tryz.func32,Tryz.ntmps32;go_wp2_with fail;refine(ny s 47 _ (by omega)).mono ?_;rw [t.out];rintro e j ⟨v2,rfl,_,a⟩;go_wp2_with fail;go_ret2;exact⟨_,rfl,aU.nil _ _ _,a⟩
 |some ps=>
  obtain⟨r,A⟩:=ai (fM ps);have n:xk (NJ s.data.toList=r/\(r=0->Ej s.data.toList=ps)/\(r≠0->Ej s.data.toList= [])):=by
   have h:NJ s.data.toList=r:=by unfold NJ;rw [t.out];exact A.out
   refine ae ⟨h,fun h0=> ?_,fun h0=> ?_⟩
   ·unfold Ej;rw [h,h0,t.out];rfl
   ·unfold Ej;rw [h,ag h0]
  have p:=ae (uK (m:=47) (l:=s.data.toList) t.out);rw [n.out.1];go_enter Tryz.func32,Tryz.ntmps32;go_wp2_with fail;refine(ny s 47 _ (by omega)).mono ?_;rw [t.out];rintro e j ⟨v2,rfl,x,a⟩;obtain⟨a2,L,rfl,c,_,_⟩:=aU.shape (ps:=ps) x p.out.2;have E:=ae c;have hlen:ps.length<=s.size+1:=by
   have V:=p.out.1;rw [bT]at V;omega
  have J:=c.2.1;have y:=c.2.2.1;unfold BG at y;clear x c;go_wp2_with fail;go_loopw [6,19] (fun vl i wr=>∃(k:Nat) (G:BD),G=vl/\k<=ps.length/\i= .int .i64 k/\xk (aU 49 wr j.heap.size G (ps.take k))/\qh j.heap.size j wr) (fun _ i _=>ps.length-(Iy i).toNat)
  case atStart=>exact⟨0,_,rfl,OG _,rfl,ae (aU.nil _ _ _),oP _ _⟩
  case round=>
   obtain⟨k,vl,rfl,Y,rfl,F,z⟩:=hrel;by_cases o:k<ps.length
   ·obtain⟨b,off,rfl,C,I⟩:∃b off,a2=some ⟨b,off,none⟩/\b<j.heap.size/\eP j b off ps:=by
     rcases E.out.2.2.2.2 with rfl|h
     ·simp at o
     ·exact h
    obtain⟨c0,c1⟩:=(I.below C z) k o;have S:=z.size;have U:b<wr.heap.size:=by omega
    clear I;obtain⟨pp,u⟩:=ai (Pl.pr ps k);rw [u.out]at c0 c1;have P:=ae (F.out.below ((oP wr.heap.size wr).alloc (oC _) (.cells #[.int .i64 pp.1,.int .i64 pp.2] 118)));have B:(ps.take k).length=k:=by simp;omega
    go_wp2_with (at_builtin;refine dM UX Un rfl (.tmp 23) (.tmp 29) rfl j.heap.size vl (ps.take k) pp rfl P.out (by simp;omega) (by show OE (some ⟨wr.heap.size+1,0,none⟩) 1 1=_;simp) (by rw [B];omega) ?_;intro v5 W H D _;have Q:=ae H;clear H);go_roundw
    case rel=>exact⟨k+1,_,rfl,by omega,by go_num,ae (by show aU _ _ _ _ _;rw [EY ps k o,u.out];exact Q.out),(z.alloc S _).trans D⟩
    case measure=>simp [Iy];omega
   ·obtain rfl:k=ps.length:=by omega
    have M:xk (aU 49 wr j.heap.size vl ps):=by have h:=F.out;rw [List.take_length]at h;exact ae h
    obtain⟨a3,K,rfl,v,_,_⟩:=aU.shape M.out p.out.2;have N:=ae v;clear v F;have f:qh w.heap.size w wr:=a.trans (z.mono a.size);by_cases d:r=0
    ·subst d;have q:=ae (n.out.2.1 rfl);clear n;go_wp2_with fail;refine(dR _ _ _ ps _ N.out).mono ?_;rw [A.out];rintro e O ⟨rfl,g⟩;go_wp2_with fail;go_ret2;exact⟨_,rfl,by rw [q.out];exact aU.mono (M.out.below g) a.size,f.trans (g.mono f.size)⟩
    ·have q:=ae (n.out.2.2 d);clear n;have T:(r==0)=false:=by simpa using d
     clear d;go_wp2_with fail;refine(dR _ _ _ ps _ N.out).mono ?_;rw [A.out];rintro e O ⟨rfl,g⟩;go_wp2_with fail;go_ret2;exact⟨_,rfl,by rw [q.out];exact aU.nil _ _ _,f.trans (g.mono f.size)⟩
theorem Ip(s:ByteArray)(w:xn)(hs:s.size<=4398046511103):
  Eb xh 170 #[.string s] w fun e w'=>∃vl:BD,e= .returned (.tuple #[vl,.int .i64 (NJ s.data.toList)])/\
   aU 49 w' w.heap.size vl (Ej s.data.toList)/\qh w.heap.size w w':=by
 obtain⟨z,U⟩:=ai (iP 47 s.data.toList);obtain⟨rc,A⟩:=ai (NJ s.data.toList);obtain⟨rs,L⟩:=ai (Ej s.data.toList);rw [A.out,L.out];have r:xk (z=none->rc=4/\rs= []):=by
  refine ae fun h=> ?_;have hp:=U.out;rw [h]at hp;have N:NJ s.data.toList=4:=by unfold NJ;rw [hp]
  refine⟨A.out▸N,?_⟩;rw [<-L.out];unfold Ej;rw [N];rfl
 have o:xk (∀ps,z=some ps->rc=fM ps/\(rc=0->rs=ps)/\(rc≠0->rs= [])):=by
  refine ae fun ps h=> ?_;have hp:=U.out;rw [h]at hp;have N:NJ s.data.toList=fM ps:=by unfold NJ;rw [hp]
  refine⟨A.out▸N,fun h0=> ?_,fun h0=> ?_⟩
  ·rw [<-L.out];unfold Ej;rw [A.out,h0,hp];rfl
  ·rw [<-L.out];unfold Ej;rw [A.out,ag h0]
 go_enter Tryz.func170,Tryz.ntmps170;go_wp2_with fail;refine(O5 s _ (by omega)).mono ?_;rintro e v ⟨vk,c,rfl,D,F,E,ad,n⟩;obtain⟨ak,av,rfl,an,Q,G⟩:=nZ.shape D;clear D;have Qk:=ae G;clear G;have X:xk (∀x∈c,x.size<=BG):=ae fun x hx=>by have:=E x hx;unfold BG;omega
 clear E;unfold BG at Q;have vT:xk (z=Pl.pairsP 47 (Pl.lists c)):=ae (by rw [<-U.out,QN,F]);clear F;go_wp2_with fail;go_loopw [4,6] (fun vl i wr=>∃(k:Nat) (Z:BD) (acc:List (Int×Int)),Z=vl/\k<=c.length/\i= .int .i64 k/\xk (acc.length=k)/\xk (z=Pl.andThen acc (Pl.pairsP 47 (Pl.lists (c.drop k))))/\xk (aU 49 wr v.heap.size Z acc)/\qh v.heap.size v wr) (fun _ i _=>c.length-(Iy i).toNat)
 case atStart=>exact⟨0,_,[],rfl,OG _,rfl,ae rfl,ae (by rw [vT.out];cases h:Pl.pairsP 47 (Pl.lists c)<;>simp [Pl.andThen,h]),ae (aU.nil _ _ _),oP _ _⟩
 case round=>
  obtain⟨k,vl,acc,rfl,hk,rfl,H,W,V,M⟩:=hrel;have hz:=M.size;have j:qh w.heap.size w wr:=n.trans (M.mono n.size);by_cases f:k<c.length
  ·obtain⟨b,rfl,S,R,g⟩:∃b,ak=some ⟨b,0,none⟩/\w.heap.size<=b/\b<v.heap.size/\∀(i:Nat) (hi:i<c.length),v.cell? ⟨b,0+i,none⟩=some (.string c[i]):=by
    rcases Qk.out with rfl|h
    ·simp at f
    ·exact h
   have ar:b<wr.heap.size:=by omega
   have d:wr.cell? ⟨b,0+k,none⟩=some (.string c[k]):=(M.cell (p:=⟨b,0+k,none⟩) R).trans (g k f);clear g;rw [Nat.zero_add]at d;have u:=ae (X.out c[k] (O6 f));obtain⟨q,K⟩:=ai (Pl.pairL 47 c[k].data.toList);obtain⟨kk,Y⟩:=ai (c[k]);rw [Y.out]at d u K
   cases q with
   |none=>
    have O:=ae (r.out (by rw [W.out,Es c k f,Y.out,rD K.out];rfl));go_wp2_with fail;refine(uM kk 47 _ u.out).mono ?_;rw [K.out];rintro e w3 ⟨x,y,rfl,_,rfl⟩;go_wp2_with fail;go_ret2;exact⟨_,by rw [O.out.1];rfl,by rw [O.out.2];exact aU.nil _ _ _,j⟩
   |some p=>
    have O:xk (z=Pl.andThen (acc++ [p]) (Pl.pairsP 47 (Pl.lists (c.drop (k+1))))):=ae (by rw [W.out,Es c k f,Y.out,rC K.out]);go_wp2_with fail;refine(uM kk 47 _ u.out).mono ?_;rw [K.out];rintro e w3 ⟨x,y,rfl,B,rfl⟩;obtain rfl:=B p rfl;clear B;go_wp2_with (at_builtin;refine dM UX Un rfl (.tmp 30) (.tmp 34) rfl v.heap.size vl acc (x,y) rfl V.out hz rfl (by have:=H.out;omega) ?_;intro v5 w5 iW T _;have oL:=ae iW;clear iW);go_roundw
    case rel=>exact⟨k+1,_,acc++ [(x,y)],rfl,by omega,by go_num,ae (by simp [H.out]),O,oL,M.trans T⟩
    case measure=>simp [Iy];omega
  ·obtain rfl:k=c.length:=by omega
   have I:xk (z=some acc):=ae (by rw [W.out];simp [Pl.lists,Pl.pairsP,Pl.andThen]);have J:=ae (o.out acc I.out);have lD:xk (∀p∈acc,dJ p):=ae fun p hp=>gp (xZ (m:=47) (ps:=Pl.lists c) (a:=acc) (by rw [<-vT.out,I.out]) p hp);obtain⟨a3,aa,rfl,C,_,_⟩:=aU.shape V.out lD.out;have Ea:=ae C;clear C;obtain⟨cc,P⟩:=ai (fM acc);obtain rfl:rc=cc:=by rw [J.out.1,P.out]
   by_cases d:rc=0
   ·subst d;have t:=ae (J.out.2.1 rfl);clear J r o;go_wp2_with fail;refine(eX _ _ _ acc _ Ea.out).mono ?_;rw [P.out];rintro e w4 ⟨rfl,l⟩;go_wp2_with fail;go_ret2;exact⟨_,rfl,by rw [t.out];exact aU.mono (V.out.below l) n.size,j.trans (l.mono j.size)⟩
   ·have t:=ae (J.out.2.2 d);clear J r o;have aq:(rc==0)=false:=by simpa using d
    clear d;go_wp2_with fail;refine(eX _ _ _ acc _ Ea.out).mono ?_;rw [P.out];rintro e w4 ⟨rfl,l⟩;go_wp2_with fail;go_ret2;exact⟨_,rfl,by rw [t.out];exact aU.nil _ _ _,j.trans (l.mono j.size)⟩
def Pl.tP(es:List aK)(n:Nat):List (Int×Int):=Ej (iT es (aW n)).val.data.toList
theorem vI(n:Int)(w:xn)(h0:0<=n)(c:n<=1000)(hT:Ff w):
  Eb xh 105 #[.int .i64 n] w fun e w'=>e= .returned (.string (aW n))/\qh w.heap.size w w':=by
 have d:=ae hT;have h:=jK n h0 c;clear hT;have b:=ae (Ci n w h0 (by omega) d.out);have f:xk (aW n=⟨#[112,58]⟩++Pl.dec n):=ae rfl;generalize Pl.dec n=s at*;go_enter Tryz.func105,Tryz.ntmps105;go_wp2_with fail;refine b.out.mono ?_;rintro e g ⟨rfl,a⟩;go_wp2_with fail;go_ret;exact⟨by rw [f.out];rfl,a⟩
theorem DZ(a:Option Addr)(len cap:Nat)(es:List aK)(n:Nat)(w:xn)(h:bI w a len cap es)(z:n<12)(hT:Ff w):
  Eb xh 64 #[.slice a len cap,.int .i64 (n:Int)] w fun e w'=>∃vl:BD,e= .returned vl/\
   aU 49 w' w.heap.size vl (Pl.tP es n)/\qh w.heap.size w w':=by
 have x:=ae h;have v:=ae hT;clear h hT;have r:(iT es (aW n)).val.size<=120:=BH _ _;obtain⟨g,o⟩:=ai (iT es (aW n));have u:xk (Pl.tP es n=Ej g.val.data.toList):=ae (by unfold Pl.tP;rw [o.out]);rw [o.out]at r;rw [u.out];obtain⟨gk,t,go,j⟩:=g;simp only at r⊢;have d:decide (0<=(n:Int)/\(n:Int)<=11)=true:=by simp;omega
 obtain⟨rc,s⟩:=ai (NJ j.data.toList);obtain⟨rs,q⟩:=ai (Ej j.data.toList);rw [q.out];go_enter Tryz.func64,Tryz.ntmps64;go_wp2_with (go_at_call 72;refine(aZ _ _).mono ?_;rw [d];rintro e w' ⟨rfl,c⟩;rw [c];clear c w');refine(vI n _ (by omega) (by omega) v.out).mono ?_;rintro e y ⟨rfl,b⟩;go_wp2_with fail;refine(MR _ _ _ es (aW n) _ (x.out.below b)).mono ?_;rw [o.out];rintro e p ⟨rfl,f⟩;have i:xk (qh w.heap.size w p):=ae (b.trans (f.mono b.size));have m:xk (qh w.heap.size w (p.alloc (.cells #[.string gk,.int .i64 t,.int .i64 go,.string j] 55))):=ae (i.out.alloc i.out.size _);clear b f;go_wp2_with fail;refine(D7 j _ (by omega)).mono ?_;rw [s.out,q.out];rintro e w3 ⟨v3,rfl,k,l⟩;go_wp2_with fail;go_ret
 exact⟨v3,rfl,k.mono m.out.size,m.out.trans (l.mono m.out.size)⟩
theorem adf(w:xn)(b v1 a v2:ByteArray):MC (w.alloc (.cells #[.string b,.string v1,.string a,.string v2] 223)) w.heap.size [(b,v1),(a,v2)]:=by
 refine⟨by simp,fun j c=> ?_⟩;have d:=bW w (.cells #[.string b,.string v1,.string a,.string v2] 223);have c:j=0\/j=1:=by simp at c;omega
 rcases c with rfl|rfl
 ·obtain⟨⟨c0,c1,c2,e⟩,_,_⟩:=aS d;exact⟨c0,c1⟩
 ·obtain⟨⟨c0,c1,c2,e⟩,_,_⟩:=aS d;exact⟨c2,e⟩
def SV.afc(its:List (ByteArray×ByteArray)):SV:=⟨fun u W=>∃tb,u= .slice (some ⟨tb,0,none⟩) 2 2/\MC W tb its,fun _ _ _ hb ⟨tb,e,h1,h2⟩=>⟨tb,e,Ee h1 hb.size,fun j hj=>⟨(hb.cell (p:=⟨tb,j*2,none⟩) h1).trans (h2 j hj).1,(hb.cell (p:=⟨tb,j*2+1,none⟩) h1).trans (h2 j hj).2⟩⟩⟩
def ZV(w0:xn)(B a:Nat)(s:Pl.Nt)(its:List (ByteArray×ByteArray))(v:BD)(W':xn):Prop:=∃W vk,v= .agg #[.int .i64 (Pl.putsS (s.K a) a its 2).1,.slice none 0 0,.int .i64 0,vk]/\qh w0.heap.size w0 W/\bF W' W.heap.size vk (nR s a its)/\aT W' B (tJ s a its)/\bG B W W'
def agu(w0:xn)(B a:Nat)(s:Pl.Nt)(its:List (ByteArray×ByteArray))(a0:Act)(xb:Nat)(listed:Array Bool)(a':Act)(W:xn):Prop:=
 (listed.getD 14 false=true/\listed.getD 15 false=false/\listed.size=16/\∃xs,xs.length=15/\a'={a0 with tmps:=setFrom a0.tmps 36 xs}/\ZV w0 B a s its (xs.getD 14 rU) W)\/
 (listed.getD 15 false=true/\∃xs c k W',xs.length=15/\a'={a0 with tmps:=setFrom a0.tmps 36 xs}/\ZV w0 B a s its (.agg #[c,.slice none 0 0,.int .i64 0,k]) W'/\W'.heap[xb+1]? =some (.cells #[.int .i64 0,.slice none 0 0,.int .i64 0,.slice none 0 0] 40)/\W=jy W' (xb+1) c (.slice none 0 0) (.int .i64 0) k)
def abZ(w0:xn)(B xb a:Nat)(s:Pl.Nt)(t1 t2:ByteArray)(a0:Act)(listed:Array Bool)(a':Act)(W:xn):Prop:=
 (listed.getD 14 false=false/\kC a0 36 15 16 (fun k=>if k<15 then some k else none) (SV.V [SV.eq (.pointer (some ⟨B,0,none⟩)),SV.eq (.pointer (some ⟨xb,1,none⟩)),SV.eq (.int .i64 a),SV.eq (.pointer (some ⟨xb,1,none⟩)),SV.eq (.int .i64 a),SV.eq (.string (aY a)),SV.eq (.string t1),SV.eq (.agg #[.string (aY a),.string t1]),SV.eq (.pointer (some ⟨xb,1,none⟩)),SV.eq (.int .i64 a),SV.eq (.string (aW a)),SV.eq (.string t2),SV.eq (.agg #[.string (aW a),.string t2]),SV.afc [(aY a,t1),(aW a,t2)],SV.any]) (fun W=>qh w0.heap.size w0 W) listed a' W)\/agu w0 B a s [(aY a,t1),(aW a,t2)] a0 xb listed a' W
theorem Yw{Q:Exit->Act->xn->Prop}{a0:Act}{A:xn}{B xb a:Nat}{s:Pl.Nt}{t1 t2:ByteArray}
  (Z:a0.tmps.size=51)(q0:a0.tmps[0]?.getD rU= .pointer (some ⟨B,0,none⟩))(q3:a0.tmps[3]?.getD rU= .pointer (some ⟨xb,0,none⟩))(q4:a0.tmps[4]?.getD rU= .pointer (some ⟨xb+1,0,none⟩))(q5:a0.tmps[5]?.getD rU= .string t1)(q7:a0.tmps[7]?.getD rU= .string t2)
  (hx:xb<A.heap.size)(X1:A.cell? ⟨xb,1,none⟩=some (.int .i64 a))(HX:A.heap[xb+1]? =some (.cells #[.int .i64 0,.slice none 0 0,.int .i64 0,.slice none 0 0] 40))(ad:xb+1≠B)(ha:a<12)(hN:aT A B s)(hf:Pl.fault (s.K a)=0)(hT:Ff A)(av:∀t∈ [(aY a,t1),(aW a,t2)],t.1.size<=BG/\t.2.size<=BG)
  (hQ:∀xs C c k,xs.length=15->ZV A B a s [(aY a,t1),(aW a,t2)] (.agg #[c,.slice none 0 0,.int .i64 0,k]) C->C.heap[xb+1]? =some (.cells #[.int .i64 0,.slice none 0 0,.int .i64 0,.slice none 0 0] 40)->Q .normal {a0 with tmps:=setFrom a0.tmps 36 xs} (jy C (xb+1) c (.slice none 0 0) (.int .i64 0) k)):
  ∀ops,dX aaj 7=some ops->(aae 7 ops true).wp xh Q a0 A:=by
 intro ops aH;have eo:=Rz (aH.symm.trans (rfl:dX aaj 7=some _));subst eo;clear aH;have l:36+15<=a0.tmps.size:=by omega
 refine Tf (by kernel_rfl) ?_;refine cO (abZ A B xb a s t1 t2 a0) ?_ ?_ _ _ _ _ (by decide+kernel) ?_ (bn _ _ _)
 ·rintro i listed r W hi q hinv;rw [aab]at hi;obtain⟨J,o,I,d⟩:=hi;have sN:i<16:=(Array.getElem?_eq_some_iff.1 I).1;have L:i=0\/i=1\/i=2\/i=3\/i=4\/i=5\/i=6\/i=7\/i=8\/i=9\/i=10\/i=11\/i=12\/i=13\/i=14\/i=15:=by omega
  rcases hinv with⟨N,b⟩|hF
  ·have F:listed.getD 15 false=false:=by
    cases h:listed.getD 15 false with
    |false=>rfl
    |true=>
     have e:=q 15 _ rfl h ⟨14,.data⟩ (by simp) rfl;rw [N]at e
     cases e
   have u:∀k,k≠14->(listed.setIfInBounds k true).getD 14 false=false:=fun k O=>by rw [IA false O];exact N
   have o0:=(b.out (k:=0) (by omega)).trans q0;have Y:=(b.out (k:=3) (by omega)).trans q3;have o5:=(b.out (k:=5) (by omega)).trans q5;have o7:=(b.out (k:=7) (by omega)).trans q7;have V:=(b.cw.cell (p:=⟨xb,1,none⟩) hx).trans X1;rcases L with rfl|rfl|rfl|rfl|rfl|rfl|rfl|rfl|rfl|rfl|rfl|rfl|rfl|rfl|rfl|rfl
   all_goals
    simp at I;subst I;refine au rfl rfl ?_
   ·simp [qL,go_sem,o0];exact GM ⟨u 0 (by decide),b.put (i:=0) (j:=0) rfl (by omega) (fun _ _ h=>h) rfl b.cw⟩
   ·simp [qL,go_sem,Y];exact GM ⟨u 1 (by decide),b.put (i:=1) (j:=1) rfl (by omega) (fun _ _ h=>h) rfl b.cw⟩
   ·have e1:r.tmps[37]?.getD rU= .pointer (some ⟨xb,1,none⟩):=b.at (k:=1) (j:=1) l rfl (by omega) (d ⟨1,.data⟩ (by simp) rfl);simp [qL,go_sem,e1,V];exact GM ⟨u 2 (by decide),b.put (i:=2) (j:=2) rfl (by omega) (fun _ _ h=>h) rfl b.cw⟩
   ·simp [qL,go_sem,Y];exact GM ⟨u 3 (by decide),b.put (i:=3) (j:=3) rfl (by omega) (fun _ _ h=>h) rfl b.cw⟩
   ·have e3:r.tmps[39]?.getD rU= .pointer (some ⟨xb,1,none⟩):=b.at (k:=3) (j:=3) l rfl (by omega) (d ⟨3,.data⟩ (by simp) rfl);simp [qL,go_sem,e3,V];exact GM ⟨u 4 (by decide),b.put (i:=4) (j:=4) rfl (by omega) (fun _ _ h=>h) rfl b.cw⟩
   ·have S:r.tmps[40]?.getD rU= .int .i64 a:=b.at (k:=4) (j:=4) l rfl (by omega) (d ⟨4,.data⟩ (by simp) rfl);simp [qL,go_sem,S];refine(IB (a:Int) W (by omega) (by omega) (hT.below b.cw)).mono ?_;rintro e C ⟨rfl,n⟩;exact GM ⟨u 5 (by decide),b.put (i:=5) (j:=5) rfl (by omega) (SV.grow n) rfl (b.cw.trans (n.mono b.cw.size))⟩
   ·simp [qL,go_sem,o5];exact GM ⟨u 6 (by decide),b.put (i:=6) (j:=6) rfl (by omega) (fun _ _ h=>h) rfl b.cw⟩
   ·have R:r.tmps[41]?.getD rU= .string (aY a):=b.at (k:=5) (j:=5) l rfl (by omega) (d ⟨5,.data⟩ (by simp) rfl);have e6:r.tmps[42]?.getD rU= .string t1:=b.at (k:=6) (j:=6) l rfl (by omega) (d ⟨6,.data⟩ (by simp) rfl);simp [qL,go_sem,R,e6];exact GM ⟨u 7 (by decide),b.put (i:=7) (j:=7) rfl (by omega) (fun _ _ h=>h) rfl b.cw⟩
   ·simp [qL,go_sem,Y];exact GM ⟨u 8 (by decide),b.put (i:=8) (j:=8) rfl (by omega) (fun _ _ h=>h) rfl b.cw⟩
   ·have e8:r.tmps[44]?.getD rU= .pointer (some ⟨xb,1,none⟩):=b.at (k:=8) (j:=8) l rfl (by omega) (d ⟨8,.data⟩ (by simp) rfl);simp [qL,go_sem,e8,V];exact GM ⟨u 9 (by decide),b.put (i:=9) (j:=9) rfl (by omega) (fun _ _ h=>h) rfl b.cw⟩
   ·have P:r.tmps[45]?.getD rU= .int .i64 a:=b.at (k:=9) (j:=9) l rfl (by omega) (d ⟨9,.data⟩ (by simp) rfl);simp [qL,go_sem,P];refine(vI (a:Int) W (by omega) (by omega) (hT.below b.cw)).mono ?_;rintro e C ⟨rfl,n⟩;exact GM ⟨u 10 (by decide),b.put (i:=10) (j:=10) rfl (by omega) (SV.grow n) rfl (b.cw.trans (n.mono b.cw.size))⟩
   ·simp [qL,go_sem,o7];exact GM ⟨u 11 (by decide),b.put (i:=11) (j:=11) rfl (by omega) (fun _ _ h=>h) rfl b.cw⟩
   ·have z:r.tmps[46]?.getD rU= .string (aW a):=b.at (k:=10) (j:=10) l rfl (by omega) (d ⟨10,.data⟩ (by simp) rfl);have H:r.tmps[47]?.getD rU= .string t2:=b.at (k:=11) (j:=11) l rfl (by omega) (d ⟨11,.data⟩ (by simp) rfl);simp [qL,go_sem,z,H];exact GM ⟨u 12 (by decide),b.put (i:=12) (j:=12) rfl (by omega) (fun _ _ h=>h) rfl b.cw⟩
   ·have M:r.tmps[43]?.getD rU= .agg #[.string (aY a),.string t1]:=b.at (k:=7) (j:=7) l rfl (by omega) (d ⟨7,.data⟩ (by simp) rfl);have x:r.tmps[48]?.getD rU= .agg #[.string (aW a),.string t2]:=b.at (k:=12) (j:=12) l rfl (by omega) (d ⟨12,.data⟩ (by simp) rfl);simp [qL,go_sem,M,x];have n:qh W.heap.size W (W.alloc (.cells #[.string (aY a),.string t1,.string (aW a),.string t2] 223)):=(oP _ _).alloc (oC _) _;exact GM ⟨u 13 (by decide),b.put (i:=13) (j:=13) rfl (by omega) (SV.grow n) ⟨W.heap.size,rfl,adf _ _ _ _ _⟩ (b.cw.trans (n.mono b.cw.size))⟩
   ·have e0:r.tmps[36]?.getD rU= .pointer (some ⟨B,0,none⟩):=b.at (k:=0) (j:=0) l rfl (by omega) (d ⟨0,.data⟩ (by simp) rfl);have T:r.tmps[38]?.getD rU= .int .i64 a:=b.at (k:=2) (j:=2) l rfl (by omega) (d ⟨2,.data⟩ (by simp) rfl);obtain⟨tb,ev,aq⟩:=b.at (k:=13) (j:=13) l rfl (by omega) (d ⟨13,.data⟩ (by simp) rfl);have ev:r.tmps[49]?.getD rU= .slice (some ⟨tb,0,none⟩) 2 2:=ev;simp [qL,go_sem,e0,T,ev];refine(QR B s a tb 2 2 [(aY a,t1),(aW a,t2)] W (hN.below b.cw) ha hf rfl (by omega) (by omega) aq av).mono ?_;rintro e C ⟨vk,rfl,an,ak,aa⟩;obtain⟨xs,v,ar,_⟩:=b.fr;refine Or.inr (GM ⟨?_,?_,by simp [b.ls],xs.set 14 (.agg #[.int .i64 (Pl.putsS (s.K a) a [(aY a,t1),(aW a,t2)] 2).1,.slice none 0 0,.int .i64 0,vk]),by simp [v],?_,⟨W,vk,by simp [aak,v],b.cw,an,ak,aa⟩⟩)
    ·have:14<listed.size:=by rw [b.ls];omega
     simp [this]
    ·rw [IA false (by omega)];exact F
    ·rw [ar];show({a0 with tmps:=(setFrom a0.tmps 36 xs).setIfInBounds (36+14) (.agg #[.int .i64 (Pl.putsS (s.K a) a [(aY a,t1),(aW a,t2)] 2).1,.slice none 0 0,.int .i64 0,vk])}:Act)=_;rw [iV xs a0.tmps 36 14 _ (by omega)]
   ·have e:=d ⟨14,.data⟩ (by simp) rfl;rw [N]at e
    cases e
  ·have U:listed.getD 14 false=true:=by
    rcases hF with⟨h,_⟩|⟨h,_⟩
    ·exact h
    ·exact q 15 _ rfl h ⟨14,.data⟩ (by simp) rfl
   have e0:=q 14 _ rfl U ⟨0,.data⟩ (by simp) rfl;have T:=q 14 _ rfl U ⟨2,.data⟩ (by simp) rfl;have G:=q 14 _ rfl U ⟨13,.data⟩ (by simp) rfl;have e1:=q 2 _ rfl T ⟨1,.data⟩ (by simp) rfl;have M:=q 13 _ rfl G ⟨7,.data⟩ (by simp) rfl;have x:=q 13 _ rfl G ⟨12,.data⟩ (by simp) rfl;have R:=q 7 _ rfl M ⟨5,.data⟩ (by simp) rfl;have e6:=q 7 _ rfl M ⟨6,.data⟩ (by simp) rfl;have S:=q 5 _ rfl R ⟨4,.data⟩ (by simp) rfl;have e3:=q 4 _ rfl S ⟨3,.data⟩ (by simp) rfl;have z:=q 12 _ rfl x ⟨10,.data⟩ (by simp) rfl;have H:=q 12 _ rfl x ⟨11,.data⟩ (by simp) rfl;have P:=q 10 _ rfl z ⟨9,.data⟩ (by simp) rfl;have e8:=q 9 _ rfl P ⟨8,.data⟩ (by simp) rfl;have f:∀(h:listed.getD i false=true),False:=fun h=>by
    rcases MJ i listed.size with g|g
    ·simp [g]at J h;rw [J]at h
     cases h
    ·simp [Rw g]at h
   rcases L with rfl|rfl|rfl|rfl|rfl|rfl|rfl|rfl|rfl|rfl|rfl|rfl|rfl|rfl|rfl|rfl
   ·exact(f e0).elim
   ·exact(f e1).elim
   ·exact(f T).elim
   ·exact(f e3).elim
   ·exact(f S).elim
   ·exact(f R).elim
   ·exact(f e6).elim
   ·exact(f M).elim
   ·exact(f e8).elim
   ·exact(f P).elim
   ·exact(f z).elim
   ·exact(f H).elim
   ·exact(f x).elim
   ·exact(f G).elim
   ·exact(f U).elim
   ·rcases hF with⟨_,_,E,xs,v,rfl,W1,vk,hv,hb,O,hn,hp⟩|⟨h,_⟩
    ·simp at I;subst I;refine au rfl rfl ?_;have o4:(setFrom a0.tmps 36 xs)[4]?.getD rU= .pointer (some ⟨xb+1,0,none⟩):=by rw [fH xs a0.tmps 36 4 (by omega)];exact q4
     have X:(setFrom a0.tmps 36 xs)[50]?.getD rU= .agg #[.int .i64 (Pl.putsS (s.K a) a [(aY a,t1),(aW a,t2)] 2).1,.slice none 0 0,.int .i64 0,vk]:=by
      rw [show(50:Nat)=36+14 from rfl,gu xs a0.tmps 36 14 (by omega) (by omega)];simpa [aak]using hv
     have D:=(hb.block _ (aG HX)).trans HX;have y:W.heap[xb+1]? =some (.cells #[.int .i64 0,.slice none 0 0,.int .i64 0,.slice none 0 0] 40):=(hp.block _ (aG D) ad (.inr (by intro cur m e;rw [D]at e;simp at e))).trans D;obtain⟨⟨y0,y1,y2,y3⟩,yf,yl⟩:=aS y;obtain⟨ka,kc,rfl⟩:=az O;simp [qL,go_sem,o4,X,y0,y1,y2,y3,yf];refine Or.inr (Or.inr ⟨?_,xs,_,_,W,v,rfl,⟨W1,_,rfl,hb,O,hn,hp⟩,y,rfl⟩);have:15<listed.size:=by rw [E];omega
     simp [this]
    ·exact(f h).elim
 ·rintro listed r W hr hinv;rcases hinv with⟨N,b⟩|hF
  ·have w:=dm (by decide+kernel) b.ls hr 14 (by decide);rw [N]at w
   cases w
  ·rcases hF with⟨_,F,E,_⟩|⟨_,xs,c,k,C,v,rfl,hP,y,rfl⟩
   ·have w:=dm (by decide+kernel) E hr 15 (by decide);rw [F]at w
    cases w
   ·exact hQ xs C c k v hP y
 ·exact GM ⟨by simp,kC.start l (oP _ _).drew⟩
def SF(p:Int×Int)(m:ByteArray)(R:Nat)(v0:BD)(w:xn):Nat->BD->Prop
 |0,v=>v=v0
 |1,v=>v= .pointer (some ⟨R,0,none⟩)
 |2,v=>v= .int .i64 p.1
 |3,v=>v= .string (Pl.dec p.1)
 |4,v=>v= .string m
 |5,v=>v= .string (Pl.dec p.1++m)
 |6,v=>v= .pointer (some ⟨R,1,none⟩)
 |7,v=>v= .int .i64 p.2
 |8,v=>v= .string (Pl.dec p.2)
 |9,v=>v= .string (iC m p)
 |10,v=>∃b,v= .slice (some ⟨b,0,none⟩) 1 1/\b<w.heap.size/\w.cell? ⟨b,0,none⟩=some (.string (iC m p))
 |_,_=>True
theorem SF.mono{p:Int×Int}{m:ByteArray}{R:Nat}{v0:BD}{w w':xn}{k:Nat}{v:BD}(h:SF p m R v0 w k v)(a:qh w.heap.size w w'):SF p m R v0 w' k v:=by
 have f:=a.size;match k,h with
 |10,⟨b,e,d,c⟩=>exact⟨b,e,by omega,((uy a).1 b 0 d).trans c⟩
 |0,h=>exact h
 |1,h=>exact h
 |2,h=>exact h
 |3,h=>exact h
 |4,h=>exact h
 |5,h=>exact h
 |6,h=>exact h
 |7,h=>exact h
 |8,h=>exact h
 |9,h=>exact h
 |n+11,h=>exact h
structure ZX(p:Int×Int)(m:ByteArray)(R base:Nat)(v0:BD)(ks:List ByteArray)(W0:xn)(L:List (Nat×BD))(listed:Array Bool)(a:Act)(w:xn):Prop where
 ls:listed.size=13
 sz:a.tmps.size=29
 df:a.defers= []
 keep:∀x∈L,a.tmps[x.1]?.getD rU=x.2
 s5:listed.getD 12 false=false->a.tmps[5]?.getD rU=v0
 f:listed.getD 11 false=false->∀k,k<11->listed.getD k false=true->SF p m R v0 w k (a.tmps[k+14]?.getD rU)
 nb:listed.getD 11 false=false->qh W0.heap.size W0 w
 al:listed.getD 12 false=true->listed.getD 11 false=true
 ap:listed.getD 11 false=true->listed.getD 12 false=false->∃v1,a.tmps[25]?.getD rU=v1/\nZ w base v1 (ks++ [iC m p])/\qh base W0 w
 dn:listed.getD 12 false=true->∃v1,a.tmps[5]?.getD rU=v1/\nZ w base v1 (ks++ [iC m p])/\qh base W0 w
theorem ZX.put{p:Int×Int}{m:ByteArray}{R base:Nat}{v0:BD}{l:List ByteArray}{q:xn}{L:List (Nat×BD)}(t:∀x∈L,x.1≠5/\(x.1<14\/25<x.1)){listed:Array Bool}{a:Act}{w w':xn}{i:Nat}{v:BD}
  (h:ZX p m R base v0 l q L listed a w)(u:i<11)(g:listed.getD 11 false=false)(c:listed.getD 12 false=false)(o:qh w.heap.size w w')(r:SF p m R v0 w' i v):
  ZX p m R base v0 l q L (listed.setIfInBounds i true) (a.put (some (i+14)) v) w':=by
 have j:(listed.setIfInBounds i true).getD 11 false=false:=by rw [IA false (by omega)];exact g
 have e:(listed.setIfInBounds i true).getD 12 false=false:=by rw [IA false (by omega)];exact c
 refine⟨by simp [h.ls],by simp [Act.put,h.sz],h.df,?_,?_,?_,fun _=> ?_,(fun b=>by rw [e]at b;cases b),(fun b=>by rw [j]at b;cases b),(fun b=>by rw [e]at b;cases b)⟩
 ·intro x n;have:=t x n;rw [jT (by omega)];exact h.keep x n
 ·intro _;rw [jT (by omega)];exact h.s5 c
 ·intro _ k s hl;by_cases d:i=k
  ·subst d;rw [eval_eq (by rw [h.sz];omega)];exact r
  ·rw [IA false d]at hl;rw [jT (by omega)];exact(h.f g k s hl).mono o
 ·have:=h.nb g;exact this.trans (o.mono this.size)
theorem ags(xs:Array BD)(h:xs.size=29):∃t0 t1 t2 t3 t4 t5 t6 t7 t8 t9 t10 t11 t12 t13 t14 t15 t16 t17 t18 t19 t20 t21 t22 t23 t24 t25 t26 t27 t28,xs=#[t0,t1,t2,t3,t4,t5,t6,t7,t8,t9,t10,t11,t12,t13,t14,t15,t16,t17,t18,t19,t20,t21,t22,t23,t24,t25,t26,t27,t28]:=by
 obtain⟨l⟩:=xs;simp at h;match l,h with
 | [t0,t1,t2,t3,t4,t5,t6,t7,t8,t9,t10,t11,t12,t13,t14,t15,t16,t17,t18,t19,t20,t21,t22,t23,t24,t25,t26,t27,t28],_=>exact⟨t0,t1,t2,t3,t4,t5,t6,t7,t8,t9,t10,t11,t12,t13,t14,t15,t16,t17,t18,t19,t20,t21,t22,t23,t24,t25,t26,t27,t28,rfl⟩
theorem Pl.wu(ps:List (Int×Int))(k:Nat)(h:k<ps.length):ps.take (k+1)=ps.take k++ [Pl.pr ps k]:=by
 rw [List.take_succ_eq_append_getElem h,jI ps k h]
theorem Pl.Uj(B:Nat):∀(xs:List (List UInt8)),(∀x∈xs,x.length<=B)->Zf xs<=xs.length*B
 | [],_=>by simp [Zf]
 |x::r,h=>by
  have b:=Uj B r (fun y a=>h y (by simp [a]));have c:=h x (by simp);simp only [Zf,List.map_cons,List.sum_cons,OO]at b⊢;rw [aaf];omega
theorem Pl.join_le(B:Nat)(xs:List (List UInt8))(sep:List UInt8)(h:∀x∈xs,x.length<=B):(Tn xs sep).length<=xs.length*(B+sep.length):=by
 cases xs with
 |nil=>simp [Lib.join_nil]
 |cons x r=>
  rw [Lib.join_cons,Uz,Lib.joinTail_length];have c:=Uj B r (fun y a=>h y (by simp [a]));have b:=h x (by simp);rw [OO,aaf,Nat.mul_add,Nat.mul_comm sep.length];omega
theorem Pl.XR(m:ByteArray)(ps:List (Int×Int))(b:∀p∈ps,Pl.small p)(hm:m.size<=100)(hl:ps.length<=100):(Tn ((ps.map (iC m)).map (·.data.toList)) (⟨#[44]⟩:ByteArray).data.toList).length<=140737488355328:=by
 refine OI (Pl.join_le 142 _ _ ?_) ?_
 ·intro x a;simp only [List.mem_map]at a;obtain⟨y,⟨p,hp,rfl⟩,rfl⟩:=a;have:=FO m p (b p hp);have e:(iC m p).data.toList.length=(iC m p).size:=by simp
  omega
 ·simp only [List.length_map];show ps.length*(142+1)<=_;omega
theorem zg(a:Option Addr)(len cap:Nat)(ps:List (Int×Int))(m:ByteArray)(w:xn)(h:di w a len cap ps)(hs:∀p∈ps,Pl.small p)(hl:len<=100)(hm:m.size<=100)(hT:Ff w):
  Eb xh 189 #[.slice a len cap,.string m] w fun e w'=>e= .returned (.string (gJ m ps))/\qh w.heap.size w w':=by
 have HH:=ae h;have HS:=ae hs;have HT:=ae hT;have hlen:=h.1;have bw:=h.2.1;have aE:=h.2.2.1;unfold BG at aE;clear h hs hT;go_enter Tryz.func189,Tryz.ntmps189;go_wp2_with fail;go_loopw [5,10] (fun vl i wr=>∃(k:Nat) (vv:BD),vv=vl/\k<=len/\i= .int .i64 k/\xk (nZ wr w.heap.size vv ((ps.take k).map (iC m)))/\qh w.heap.size w wr) (fun _ i _=>len-(Iy i).toNat)
 case atStart=>exact⟨0,_,rfl,OG _,rfl,ae (nZ.nil _ _),oP _ _⟩
 case round=>
  obtain⟨k,vl,rfl,hk,rfl,HO,hb⟩:=hrel;have hz:=hb.size;by_cases bg:k<len
  ·obtain⟨b,off,rfl,bq,hr⟩:∃b off,a=some ⟨b,off,none⟩/\b<w.heap.size/\eP w b off ps:=by
    rcases HH.out.2.2.2.2 with rfl|h
    ·simp at hlen;omega
    ·exact h
   obtain⟨c0,c1⟩:=(hr.below bq hb) k (by omega);have bE:b<wr.heap.size:=by omega
   clear hr;obtain⟨pp,Q⟩:=ai (Pl.pr ps k);rw [Q.out]at c0 c1;have a8:Pl.small pp:=by rw [<-Q.out];exact HS.out _ (uJ ps k (by omega))
   go_wp2_with fail;refine Tf (by kernel_rfl) ?_;obtain⟨D,I⟩:∃D:xn,D=wr.alloc (.cells #[.int .i64 pp.1,.int .i64 pp.2] 118):=⟨_,rfl⟩
   have hR:wr.heap.size<D.heap.size:=by rw [I];simp
   have d0:D.cell? ⟨wr.heap.size,0,none⟩=some (.int .i64 pp.1):=by rw [I];simp
   have d1:D.cell? ⟨wr.heap.size,1,none⟩=some (.int .i64 pp.2):=by rw [I];simp
   have aM:qh wr.heap.size wr D:=by rw [I];exact(oP _ _).alloc (oC _) _
   have a6:xk (nZ D w.heap.size vl ((ps.take k).map (iC m))):=ae (HO.out.below aM);have P:qh w.heap.size w D:=hb.trans (aM.mono hz);have aR:xk (Ff D):=ae (HT.out.below P);obtain⟨Z,uB⟩:=ai ((ps.take k).map (iC m));rw [uB.out]at a6;have bB:Z.length=k:=by rw [<-uB.out];simp;omega
   obtain⟨aw,bc,av,ba⟩:=a8;have bz:=jK pp.1 aw bc;have bx:=jK pp.2 av ba;obtain⟨L,t⟩:∃L,L= [(0,OE (some ⟨b,off,none⟩) len cap),(1,Jk m),(7,Value.pointer (some ⟨wr.heap.size,0,none⟩)),(8,OE (some ⟨b,off,none⟩) len cap),(9,Rq .i64 (len:Int)),(10,Rq .i64 (k:Int)),(2,rU),(3,rU),(4,Jk ⟨#[]⟩),(6,rU),(27,rU),(28,rU)]:=⟨_,rfl⟩
   have C:∀x∈L,x.1≠5/\(x.1<14\/25<x.1):=by
    intro x B;rw [t]at B;simp at B;rcases B with rfl|rfl|rfl|rfl|rfl|rfl|rfl|rfl|rfl|rfl|rfl|rfl<;>simp
   refine cO (ZX pp m wr.heap.size w.heap.size vl Z D L) ?_ ?_ _ _ _ _ (by decide+kernel) ?_ (bn _ _ _)
   ·intro i listed a W hi hC c;rw [aab]at hi;obtain⟨hl,o,ho,d⟩:=hi;have bg:i<13:=(Array.getElem?_eq_some_iff.1 ho).1;have N:listed.getD i false=false:=by
     have O:=c.ls;have bm:i<listed.size:=by omega
     simp [bm]at hl⊢;exact hl
    have g:i<11->listed.getD 11 false=false:=by
     intro bO
     cases r:listed.getD 11 false with
     |false=>rfl
     |true=>
      exfalso;have aa:=hC 11 _ rfl r ⟨10,.data⟩ (by simp) rfl;have q0:=hC 11 _ rfl r ⟨0,.data⟩ (by simp) rfl;have q9:=hC 10 _ rfl aa ⟨9,.data⟩ (by simp) rfl;have q8:=hC 9 _ rfl q9 ⟨8,.data⟩ (by simp) rfl;have q5:=hC 9 _ rfl q9 ⟨5,.data⟩ (by simp) rfl;have q7:=hC 8 _ rfl q8 ⟨7,.data⟩ (by simp) rfl;have q6:=hC 7 _ rfl q7 ⟨6,.data⟩ (by simp) rfl;have q3:=hC 5 _ rfl q5 ⟨3,.data⟩ (by simp) rfl;have q4:=hC 5 _ rfl q5 ⟨4,.data⟩ (by simp) rfl;have q2:=hC 3 _ rfl q3 ⟨2,.data⟩ (by simp) rfl;have q1:=hC 2 _ rfl q2 ⟨1,.data⟩ (by simp) rfl;simp only at aa q0 q9 q8 q5 q7 q6 q3 q4 q2 q1;have U:i=0\/i=1\/i=2\/i=3\/i=4\/i=5\/i=6\/i=7\/i=8\/i=9\/i=10:=by omega
      rcases U with rfl|rfl|rfl|rfl|rfl|rfl|rfl|rfl|rfl|rfl|rfl<;>simp_all
    have A:i<12->listed.getD 12 false=false:=by
     intro bR
     cases z:listed.getD 12 false with
     |false=>rfl
     |true=>
      exfalso;have y:=c.al z;rcases MJ i 11 with h|h
      ·rw [g h]at y;cases y
      ·obtain rfl:i=11:=by omega
       rw [y]at N;cases N
    have U:i=0\/i=1\/i=2\/i=3\/i=4\/i=5\/i=6\/i=7\/i=8\/i=9\/i=10\/i=11\/i=12:=by omega
    rcases U with rfl|rfl|rfl|rfl|rfl|rfl|rfl|rfl|rfl|rfl|rfl|rfl|rfl
    all_goals
     simp at ho;subst ho;refine au rfl rfl ?_
    ·have l:=c.s5 (A (by omega));simp [qL,go_sem,l];exact c.put C (i:=0) (by omega) (g (by omega)) (A (by omega)) (oP _ _) rfl
    ·have l:a.tmps[7]?.getD rU= .pointer (some ⟨wr.heap.size,0,none⟩):=c.keep (7,_) (by rw [t];simp);simp [qL,go_sem,l];exact c.put C (i:=1) (by omega) (g (by omega)) (A (by omega)) (oP _ _) rfl
    ·have l:a.tmps[15]?.getD rU= .pointer (some ⟨wr.heap.size,0,none⟩):=c.f (g (by omega)) 1 (by omega) (d ⟨1,.data⟩ (by simp) rfl);have M:=((uy (c.nb (g (by omega)))).1 wr.heap.size 0 hR).trans d0;simp [qL,go_sem,l,M];exact c.put C (i:=2) (by omega) (g (by omega)) (A (by omega)) (oP _ _) rfl
    ·have l:a.tmps[16]?.getD rU= .int .i64 pp.1:=c.f (g (by omega)) 2 (by omega) (d ⟨2,.data⟩ (by simp) rfl);simp [qL,go_sem,l];refine(Ci pp.1 W aw (by omega) (aR.out.below (c.nb (g (by omega))))).mono ?_;rintro e w1 ⟨rfl,X⟩;exact c.put C (i:=3) (by omega) (g (by omega)) (A (by omega)) X rfl
    ·have l:a.tmps[1]?.getD rU= .string m:=c.keep (1,_) (by rw [t];simp);simp [qL,go_sem,l];exact c.put C (i:=4) (by omega) (g (by omega)) (A (by omega)) (oP _ _) rfl
    ·have l:a.tmps[17]?.getD rU= .string (Pl.dec pp.1):=c.f (g (by omega)) 3 (by omega) (d ⟨3,.data⟩ (by simp) rfl);have M:a.tmps[18]?.getD rU= .string m:=c.f (g (by omega)) 4 (by omega) (d ⟨4,.data⟩ (by simp) rfl);simp [qL,go_sem,l,M];rw [ag (by omega),Xh];exact c.put C (i:=5) (by omega) (g (by omega)) (A (by omega)) (oP _ _) rfl
    ·have l:a.tmps[7]?.getD rU= .pointer (some ⟨wr.heap.size,0,none⟩):=c.keep (7,_) (by rw [t];simp);simp [qL,go_sem,l];exact c.put C (i:=6) (by omega) (g (by omega)) (A (by omega)) (oP _ _) rfl
    ·have l:a.tmps[20]?.getD rU= .pointer (some ⟨wr.heap.size,1,none⟩):=c.f (g (by omega)) 6 (by omega) (d ⟨6,.data⟩ (by simp) rfl);have M:=((uy (c.nb (g (by omega)))).1 wr.heap.size 1 hR).trans d1;simp [qL,go_sem,l,M];exact c.put C (i:=7) (by omega) (g (by omega)) (A (by omega)) (oP _ _) rfl
    ·have l:a.tmps[21]?.getD rU= .int .i64 pp.2:=c.f (g (by omega)) 7 (by omega) (d ⟨7,.data⟩ (by simp) rfl);simp [qL,go_sem,l];refine(Ci pp.2 W av (by omega) (aR.out.below (c.nb (g (by omega))))).mono ?_;rintro e w1 ⟨rfl,X⟩;exact c.put C (i:=8) (by omega) (g (by omega)) (A (by omega)) X rfl
    ·have l:a.tmps[19]?.getD rU= .string (Pl.dec pp.1++m):=c.f (g (by omega)) 5 (by omega) (d ⟨5,.data⟩ (by simp) rfl);have M:a.tmps[22]?.getD rU= .string (Pl.dec pp.2):=c.f (g (by omega)) 8 (by omega) (d ⟨8,.data⟩ (by simp) rfl);simp [qL,go_sem,l,M];rw [ag (by omega),Xh];exact c.put C (i:=9) (by omega) (g (by omega)) (A (by omega)) (oP _ _) rfl
    ·have l:a.tmps[23]?.getD rU= .string (iC m pp):=c.f (g (by omega)) 9 (by omega) (d ⟨9,.data⟩ (by simp) rfl);simp [qL,go_sem,l];exact c.put C (i:=10) (by omega) (g (by omega)) (A (by omega)) ((oP _ _).alloc (oC _) _) ⟨W.heap.size,rfl,by simp,by simp⟩
    ·have hn:listed.getD 11 false=false:=N;have l:a.tmps[14]?.getD rU=vl:=c.f hn 0 (by omega) (d ⟨0,.data⟩ (by simp) rfl);obtain⟨bb,M,bL,bp⟩:=c.f hn 10 (by omega) (d ⟨10,.data⟩ (by simp) rfl);simp only [Nat.reduceAdd]at M;have T:=c.nb hn;have ay:nZ W w.heap.size vl Z:=a6.out.below T;have F:=aac ay;have H:w.heap.size<=W.heap.size:=OI P.size T.size;obtain⟨i0,bo,a7,ar,aq⟩:=partsOf OC;refine wp_append_own W (.tmp 14) (.tmp 24) 38 rfl w.heap.size 9 i0 _ 1 16 Tryz.underlying38 bo a7 ar aq rfl (by decide) vl Z.length (Z.map Jk) (by simpa [go_sem]using l) ay ⟨bb,0,none⟩ 1 1 [.string (iC m pp)] (by simpa [go_sem]using M) rfl ?_ ?_ (by unfold BG;omega) (by omega) H ?_
     ·intro j u hj;match j,hj with
      |0,hj=>simp at hj;subst hj;rw [bD];exact bp
     ·intro u hu;simp at hu;subst hu;rfl
     ·intro v' w' R hg _;have s:qh w.heap.size D w':=(T.mono P.size).grown hg H (fun k hk=>(F k hk).1);have r:(listed.setIfInBounds 11 true).getD 11 false=true:=by
       have O:=c.ls;simp [O]
      have z:(listed.setIfInBounds 11 true).getD 12 false=false:=by rw [IA false (by omega)];exact A (by omega)
      show ZX pp m wr.heap.size w.heap.size vl Z D L (listed.setIfInBounds 11 true) (a.put (some 25) v') w';refine⟨by simp [c.ls],by simp [Act.put,c.sz],c.df,?_,?_,(fun q=>by rw [r]at q;cases q),(fun q=>by rw [r]at q;cases q),(fun q=>by rw [z]at q;cases q),?_,(fun q=>by rw [z]at q;cases q)⟩
      ·intro x B;have:=C x B;rw [jT (by omega)];exact c.keep x B
      ·intro _;rw [jT (by omega)];exact c.s5 (A (by omega))
      ·intro _ _;refine⟨v',eval_eq (by rw [c.sz];omega),?_,s⟩;unfold nZ;simpa using R
    ·have hn:listed.getD 12 false=false:=N;have y:=d ⟨11,.data⟩ (by simp) rfl;simp only at y;obtain⟨v1,l,S,s⟩:=c.ap y hn;simp [qL,go_sem,l];have z:(listed.setIfInBounds 12 true).getD 12 false=true:=by
      have O:=c.ls;simp [O]
     have r:(listed.setIfInBounds 12 true).getD 11 false=true:=by rw [IA false (by omega)];exact y
     refine⟨by simp [c.ls],by simp [c.sz],c.df,?_,(fun q=>by rw [z]at q;cases q),(fun q=>by rw [r]at q;cases q),(fun q=>by rw [r]at q;cases q),(fun _=>r),(fun _ q=>by rw [z]at q;cases q),?_⟩
     ·intro x B;have:=C x B;have h:=jT (a:=a) (m:=5) (n:=x.1) (v:=v1) (by omega);exact h.trans (c.keep x B)
     ·intro _;exact⟨v1,eval_eq (a:=a) (m:=5) (v:=v1) (by rw [c.sz];omega),S,s⟩
   ·intro listed a W hr c;rename_i K hK;have bt:=mX (by decide+kernel) c.ls hr 12 (by decide);obtain⟨v1,e5,S,s⟩:=c.dn bt;have k0:=c.keep (0,OE (some ⟨b,off,none⟩) len cap) (by rw [t];simp);have k1:=c.keep (1,Jk m) (by rw [t];simp);have k8:=c.keep (8,OE (some ⟨b,off,none⟩) len cap) (by rw [t];simp);have k9:=c.keep (9,Rq .i64 (len:Int)) (by rw [t];simp);have an:=c.keep (10,Rq .i64 (k:Int)) (by rw [t];simp);have k2:=c.keep (2,rU) (by rw [t];simp);have k3:=c.keep (3,rU) (by rw [t];simp);have k4:=c.keep (4,Jk ⟨#[]⟩) (by rw [t];simp);have k6:=c.keep (6,rU) (by rw [t];simp);have ak:=c.keep (27,rU) (by rw [t];simp);have ad:=c.keep (28,rU) (by rw [t];simp);have aL:=c.df
    obtain⟨t0,t1,t2,t3,t4,t5,t6,t7,t8,t9,t10,t11,t12,t13,t14,t15,t16,t17,t18,t19,t20,t21,t22,t23,t24,t25,t26,t27,t28,Rk⟩:=ags a.tmps c.sz;obtain⟨tm,df⟩:=a;simp only at Rk aL;subst Rk aL;simp at k0 k1 k8 k9 an e5 k2 k3 k4 k6 ak ad;subst k0 k1 k8 k9 an e5 k2 k3 k4 k6 ak ad;have nI:xk (nZ W w.heap.size t5 ((ps.take (k+1)).map (iC m))):=by
     refine ae ?_;rw [wu ps k (by omega),List.map_append,uB.out,Q.out];exact S
    have br:qh w.heap.size w W:=P.trans s;refine hK _ W ?_;clear c hr;go_wp2_with fail;go_roundw
    case rel=>exact⟨k+1,t5,rfl,by omega,by go_num,nI,br⟩
    case measure=>simp [Iy];omega
   ·rw [<-I];refine⟨by rfl,by rfl,rfl,?_,(fun _=>rfl),?_,(fun _=>Below.drew (oP _ _)),?_,?_,?_⟩
    ·intro x B;rw [t]at B;simp at B;rcases B with rfl|rfl|rfl|rfl|rfl|rfl|rfl|rfl|rfl|rfl|rfl|rfl<;>rfl
    ·intro _ k hk h;have:(GX 13 false).getD k false=true:=h;rw [show(GX 13 false).getD k false=false from by by_cases bj:k<13<;>simp [bj]]at this
     cases this
    ·intro h;have:(GX 13 false).getD 12 false=true:=h;simp at this
    ·intro h;have:(GX 13 false).getD 11 false=true:=h;simp at this
    ·intro h;have:(GX 13 false).getD 12 false=true:=h;simp at this
  ·obtain rfl:k=len:=by omega
   obtain⟨xs,yP⟩:=ai (ps.map (iC m));have E:xs.length=k:=by rw [<-yP.out];simpa using hlen
   have Td:xk (nZ wr w.heap.size vl xs):=by
    have h:=HO.out;rw [List.take_of_length_le (by omega),yP.out]at h;exact ae h
   have Y:xk (gJ m ps=⟨(Tn (xs.map (·.data.toList)) (⟨#[44]⟩:ByteArray).data.toList).toArray⟩):=ae (by unfold gJ;rw [yP.out]);obtain⟨a2,J,rfl,V,bA,bd⟩:=nZ.shape Td.out;have Ar:=ae (XR m ps HS.out hm (by omega));rw [yP.out]at Ar;rcases bd with aD|⟨b2,rfl,bN,F,G⟩
   ·subst aD;have bh:k=0:=by simpa using E.symm
    clear hlen E V;subst bh;go_wp2_with fail;refine(Tryz.strings_Join_none a2 J _ _).mono ?_;rintro e w3 ⟨rfl,rfl⟩;go_wp2_with fail;go_ret;exact⟨by rw [Y.out];rfl,hb⟩
   ·have HJ:xk (Eb xh 215 #[.slice (some ⟨b2,0,none⟩) k J,.string ⟨#[44]⟩] wr fun e w'=>e= .returned (.string (gJ m ps))/\qh wr.heap.size wr w'):=by
     refine ae ?_;have h:=Tryz.strings_Join b2 0 J xs ⟨#[44]⟩ wr (by
      intro j x hj;obtain⟨bl,bk⟩:=List.getElem?_eq_some_iff.1 hj;rw [<-bk];exact G j bl) F (by omega) V Ar.out
     rw [E,<-Y.out]at h;exact h
    rw [E];clear G hlen E V Ar Y yP;go_wp2_with fail;refine HJ.out.mono ?_;rintro e w3 ⟨rfl,bs⟩;go_wp2_with fail;go_ret;exact⟨rfl,hb.trans (bs.mono hz)⟩
end Go.Proofs.YtjjelkdajdeikaaGreatDoor
