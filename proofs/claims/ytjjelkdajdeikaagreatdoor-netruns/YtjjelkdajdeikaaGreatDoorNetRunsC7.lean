/-
  Facts put together.
-/
import Derived.Test.YtjjelkdajdeikaaGreatDoorNetRunsC6
import Derived.Lib.Overlaps
import Derived.Lib.AppendZerosOnto
open Go.Proofs.Tryz renaming prog→oC,underlying30→Jj,underlying29→Z5,underlying114→aaD,f115→abx
open Nat renaming le_refl→oP,zero_le→BD,eq_zero_or_pos→OE,lt_succ_self→OI,lt_or_ge→OM,le_trans→OO,lt_of_lt_of_le→Tn,zero_add→Uz,add_zero→UQ,min_def→aaf,eq_or_lt_of_le→aaH,min→aaK
open Go.RowKit.Below renaming refl→qh,heap_alloc→aae
open List renaming take_of_length_le→qL,take_append_of_le_length→xk,getElem?_append_right→OG,getElem?_take→Pe,take_take→Qe,append_assoc→Qi,length_append→Tf,take_append_drop→VB,take_zero→WZ,getElem_of_mem→Xh,take_succ_eq_append_getElem→aac,foldl_append→aad,nil_append→aag,map_append→aah,getD_eq_getElem?_getD→aam,getElem_append_right→aao,length_filter_le→aat,take_eq_nil_iff→aav,mem_of_mem_take→aaw,length_take_le→aax,filter_append→aaE,length_set→aaN,length_map→aaO,toArray→abt
open Go.RowKit renaming Below→rU,Hid→xn,intOf→Eb,ownsRow_setCell_below→X6
open Go renaming World→xh,Value→xx,Calls→Ah,maxLen→Ee,wpQuiet_nil→Iy,undef→Tq,setRow_heap→Zf,Operand→aab,run_storeCells_at→aaj,bodyPost_ret→aak,run_underlying→aap,TypeId→aas,wpList_plain→aaG,run_append_fits→abw
open Go.Oper renaming wp→BG
open ByteArray renaming data_append→GM,size_append→aan,size→aaB,ext→aaF
open Go.Value.slice renaming injEq→GX
open Go.Builtin renaming zeroCells→IA,clear_→UX,firstCells→aau,copy_→aaM
open Go.Region renaming wanted→Jk
open Go.Act renaming eval→LM,put→Rz
open Option.some renaming injEq→MJ,inj→aby
open Go.IntKind renaming i64→O6,wrap_i64→Rq
open Go.Result renaming andThen→PW
open Int renaming eq_ofNat_of_zero_le→Qd,toNat_natCast→aaL
open Go.Addr.mk renaming injEq→Ru
open Go.World.ownsRow renaming kept→Rw,lt→abv
open Go.Value renaming int→SN,ownBlock→SQ,agg→Wq,slice→aaq
open Go.World renaming frozen?→Xc,ownsRow_nil→aaC,shape?→abp,cell?→abr
open Bool renaming eq_iff_iff→aai
open Go.Lib renaming itoa_nonneg→aal,join→abq,join_cons→abu
open UInt8 renaming ofNat→aar
open Go.Extern.SlicesOverlaps renaming overlaps→aay
open Prod.mk renaming injEq→aaJ
set_option maxHeartbeats 8000000
namespace Go.Proofs.YtjjelkdajdeikaaGreatDoor
open Pl
open Go.RowKit
set_option maxRecDepth 20000
theorem Pl.J7{n:Nat}(h:n<10):Pl.dec (n:Int)=⟨#[aar (48+n)]⟩:=by
 unfold Pl.dec;rw [aal,Lib.decDigits_one h]
theorem Pl.Wl{n:Nat}(h:¬n<10):Pl.dec (n:Int)=Pl.dec ((n/10:Nat):Int)++Pl.dec ((n%10:Nat):Int):=by
 have a:Pl.dec ((n%10:Nat):Int)=⟨#[aar (48+n%10)]⟩:=J7 (by omega);rw [a];unfold Pl.dec;rw [aal,aal,Lib.decDigits,dif_neg h];apply aaF;simp [GM]
theorem nC:∀(n:Nat) (w:xh),n<=100000->
  Ah oC 80 #[.int .i64 (n:Int)] w fun e w'=>e= .returned (.string (Pl.dec (n:Int)))/\rU w.heap.size w w':=by
 intro n;induction n using Nat.strongRecOn with
 |_ n h=>
  intro w B;by_cases g:n<10
  ·have a:=ae (J7 g);obtain⟨c,hc⟩:∃c,c=aar (48+n):=⟨_,rfl⟩
   rw [<-hc]at a;have e:(c.toNat:Int)=48+(n:Int):=by
    rw [hc,UInt8.toNat_ofNat'];omega
   clear hc;have l:(convert 105 9 (.slice (some ⟨w.heap.size,0,none⟩) 1 1)).run oC (w.alloc (.cells #[.int .u8 (48+(n:Int))] 5))= .ok (.string ⟨#[c]⟩) (w.alloc (.cells #[.int .u8 (48+(n:Int))] 5)):=by
    have:=run_convert_bytes_back (P:=oC) (w.alloc (.cells #[.int .u8 (48+(n:Int))] 5)) 105 9 5 ⟨w.heap.size,0,none⟩ 1 [c] Tryz.underlying105 Tryz.underlying5 Tryz.underlying9 ?_
    ·simpa using this
    ·intro j u;obtain rfl:j=0:=by simpa using u
     simp [bD,e]
   clear e;clear h;go_enter Tryz.func80,Tryz.ntmps80;go_wp2_with fail;go_ret;exact⟨by rw [a.out];rfl,(qh _ _).alloc (oP _) _⟩
  ·have a:=ae (Wl g);have t:((n:Int)).tdiv 10=((n/10:Nat):Int):=by rw [Int.tdiv_eq_ediv_of_nonneg (by omega)];omega
   have s:((n:Int)).tmod 10=((n%10:Nat):Int):=by rw [Int.tmod_eq_emod_of_nonneg (by omega)];omega
   have q:=ae (h (n/10) (by omega));have p:=ae (h (n%10) (by omega));have k:=BL ((n/10:Nat):Int) (by omega) (by omega);have i:=BL ((n%10:Nat):Int) (by omega) (by omega);obtain⟨s1,y⟩:=ai (Pl.dec ((n/10:Nat):Int));obtain⟨s2,o⟩:=ai (Pl.dec ((n%10:Nat):Int));rw [y.out]at q k a;rw [o.out]at p i a;have x:¬(n:Int)<10:=by omega
   obtain⟨nq,d⟩:∃c,c=n/10:=⟨_,rfl⟩
   obtain⟨r,b⟩:∃c,c=n%10:=⟨_,rfl⟩
   have b1:nq<=100000:=by omega
   have v:r<=100000:=by omega
   rw [<-d]at t q;rw [<-b]at s p;clear h d b;go_enter Tryz.func80,Tryz.ntmps80;go_wp2_with fail;refine(q.out _ b1).mono ?_;rintro e A ⟨rfl,f⟩;go_wp2_with fail;refine(p.out _ v).mono ?_;rintro e z ⟨rfl,m⟩;go_wp2_with fail;go_ret;exact⟨by rw [a.out];rfl,f.trans (m.mono f.size)⟩
theorem Pl.Md(ps:List (Int×Int)):∀(n i:Nat),i+n=ps.length->Pl.adjN ps n i=0->∀j,i<=j->j<ps.length->lJ (Pl.pr ps j).1 (Pl.pr ps j).2=true/\(0<j->(Pl.pr ps (j-1)).1<(Pl.pr ps j).1)
 |0,i,h,_,j,a,b=>by omega
 |n+1,i,h,h0,j,a,b=>by
  rw [Pl.adjN]at h0;by_cases g1:lJ (Pl.pr ps i).1 (Pl.pr ps i).2=true
  ·rw [af g1]at h0;by_cases g2:0<i/\(Pl.pr ps i).1<=(Pl.pr ps (i-1)).1
   ·rw [af g2]at h0;cases h0
   ·rw [ag g2]at h0;rcases aaH a with e|a
    ·subst e;exact⟨g1,fun hp=>by omega⟩
    ·exact Md ps n (i+1) (by omega) h0 j a b
  ·rw [ag g1]at h0;cases h0
theorem Pl.UJ{ps:List (Int×Int)}(h:qU ps=0):ps.length<=12/\∀p∈ps,Pl.small p:=by
 have c:=Md ps ps.length 0 (by omega) h;have a:∀j,j<ps.length->0<=(Pl.pr ps j).1/\(Pl.pr ps j).1<=11/\1<=(Pl.pr ps j).2/\(Pl.pr ps j).2<=1000:=by
  intro j b;have:=(c j (by omega) b).1;unfold lJ at this;simp at this;omega
 have b:∀j,j<ps.length->(j:Int)<=(Pl.pr ps j).1:=by
  intro j;induction j with
  |zero=>intro h;have:=a 0 h;omega
  |succ j f=>
   intro h;have g:=f (by omega);have e:=(c (j+1) (by omega) h).2 (by omega);simp at e;omega
 refine⟨?_,?_⟩
 ·rcases OM 12 ps.length with h|h
  ·have g:=b 12 h;have e:=a 12 h;omega
  ·exact h
 ·intro p hp;obtain⟨i,d,rfl⟩:=Xh hp;have:=a i d;rw [jI ps i d]at this;exact⟨this.1,by omega,by omega,by omega⟩
theorem Pl.VF(xs:List (List UInt8))(y sep:List UInt8)(h:xs≠ []):abq (xs++ [y]) sep=abq xs sep++sep++y:=by
 cases xs with
 |nil=>exact absurd rfl h
 |cons x r=>
  rw [List.cons_append,abu,abu];simp [Lib.joinTail,Qi]
theorem Pl.Kq{a b:ByteArray}(h:a.data.toList=b.data.toList):a=b:=by
 apply aaF;apply Array.toList_inj.1;exact h
theorem Pl.qg(m:ByteArray)(ps:List (Int×Int)):(gJ m ps).data.toList=abq ((ps.map (iC m)).map (·.data.toList)) [44]:=by simp [gJ]
theorem Pl.xR(m:ByteArray):gJ m []=⟨#[]⟩:=rfl
theorem Pl.JA(m:ByteArray)(p:Int×Int):gJ m [p]=iC m p:=by
 apply Kq;rw [qg];simp [Lib.join_one]
theorem Pl.FQ(m:ByteArray)(ps:List (Int×Int))(p:Int×Int)(h:ps≠ []):gJ m (ps++ [p])=gJ m ps++⟨#[44]⟩++iC m p:=by
 apply Kq;rw [qg,aah,aah];rw [show List.map (fun x:ByteArray=>x.data.toList) (List.map (iC m) [p])= [(iC m p).data.toList]from rfl,VF _ _ _ (by simpa using h),<-qg];simp [GM]
theorem Pl.zI(m:ByteArray)(ps:List (Int×Int))(b:∀p∈ps,Pl.small p)(hm:m.size<=100):(gJ m ps).size<=ps.length*143:=by
 have h:(gJ m ps).size=(gJ m ps).data.toList.length:=by simp
 rw [h,qg];refine OO (Pl.join_le 142 _ _ ?_) (by simp);intro x a;simp only [List.mem_map]at a;obtain⟨y,⟨p,hp,rfl⟩,rfl⟩:=a;have:=FO m p (b p hp);have e:(iC m p).data.toList.length=(iC m p).size:=by simp
 omega
def Pl.iF(d:Bool)(ps:List (Int×Int)):ByteArray:=if qU ps=0 then(if d then⟨#[33]⟩++gJ ⟨#[61]⟩ ps else gJ ⟨#[61]⟩ ps)else⟨#[]⟩
theorem Qa(d:Bool)(a:Option Addr)(len cap:Nat)(ps:List (Int×Int))(w:xh)(h:di w a len cap ps):
  Ah oC 77 #[.agg #[.bool d,.slice a len cap]] w fun e w'=>e= .returned (.tuple #[.string (iF d ps),.int .i64 (qU ps)])/\rU w.heap.size w w':=by
 have HH:=ae h;have hlen:=h.1;have ad:=h.2.1;have G:=h.2.2.1;unfold Ee at G;clear h;obtain⟨cc,B⟩:=ai (qU ps);rw [B.out];have b1:rU w.heap.size w (w.alloc (.cells #[.bool d,.slice a len cap] 141)):=(qh _ _).alloc (oP _) _;have I:=ae (HH.out.below b1);by_cases x:cc=0
 ·subst x;have N:=ae (UJ B.out);have aa:len<=12:=by have:=N.out.1;omega
  go_enter Tryz.func77,Tryz.ntmps77;go_wp2_with fail;refine(pK _ _ _ _ ps _ I.out).mono ?_;rw [B.out];rintro e Z ⟨rfl,l⟩;have oW:rU (w.heap.size+1) (w.alloc (.cells #[.bool d,.slice a len cap] 141)) Z:=by simpa using l
  clear l b1;go_wp2_with fail;go_loopw [5,6] (fun s i wr=>∃(k:Nat) (t:ByteArray),k<=len/\i= .int .i64 k/\s= .string t/\t.size<=2000/\xn (t=gJ ⟨#[61]⟩ (ps.take k))/\rU (w.heap.size+1) (w.alloc (.cells #[.bool d,.slice a len cap] 141)) wr) (fun _ i _=>len-(Eb i).toNat)
  case atStart=>exact⟨0,⟨#[]⟩,BD _,rfl,rfl,by decide,ae (by rw [WZ,xR]),oW⟩
  case round=>
   obtain⟨k,t,hk,rfl,rfl,ak,M,S⟩:=hrel;obtain⟨Y,L,xs,y⟩:=vK S;by_cases an:k<len
   ·obtain⟨b,off,rfl,R,hr⟩:∃b off,a=some ⟨b,off,none⟩/\b<w.heap.size/\eP w b off ps:=by
     rcases HH.out.2.2.2.2 with rfl|h
     ·simp at hlen;omega
     ·exact h
    obtain⟨c0,c1⟩:=(hr.below R y) k (by omega);have j:b<wr.heap.size:=by omega
    clear hr;obtain⟨pp,u⟩:=ai (Pl.pr ps k);rw [u.out]at c0 c1;obtain⟨p1,p2⟩:=pp;simp only at c0 c1;have Q:Pl.small (p1,p2):=by rw [<-u.out];exact N.out.2 _ (uJ ps k (by omega))
    obtain⟨r,F,q,E⟩:=Q;simp only at r F q E;have P:=jK p1 r F;have O:=jK p2 q E;obtain⟨s1,U⟩:=ai (Pl.dec p1);obtain⟨s2,A⟩:=ai (Pl.dec p2);rw [U.out]at P;rw [A.out]at O;have K:xn (∀W,Ah oC 80 #[.int .i64 p1] W fun e w'=>e= .returned (.string s1)/\rU W.heap.size W w'):=by
     refine ae fun W=> ?_;obtain⟨n,rfl⟩:=Qd r;rw [<-U.out];exact nC n W (by omega)
    have J:xn (∀W,Ah oC 80 #[.int .i64 p2] W fun e w'=>e= .returned (.string s2)/\rU W.heap.size W w'):=by
     refine ae fun W=> ?_;obtain⟨n,rfl⟩:=Qd q;rw [<-A.out];exact nC n W (by omega)
    have X:xn ((gJ ⟨#[61]⟩ (ps.take (k+1))).size<=2000):=by
     refine ae ?_;have:=zI ⟨#[61]⟩ (ps.take (k+1)) (fun p hp=>N.out.2 p (aaw hp)) (by simp [aaB]);simp at this;omega
    have V:xn (∀o:ByteArray,(k=0->o=t)->(0<k->o=t++⟨#[44]⟩)->o++s1++⟨#[61]⟩++s2=gJ ⟨#[61]⟩ (ps.take (k+1))):=by
     refine ae fun o h0 h1=> ?_;have D:iC ⟨#[61]⟩ (p1,p2)=s1++⟨#[61]⟩++s2:=by unfold iC;rw [U.out,A.out]
     rw [wu ps k (by omega),u.out];rcases OE k with c|c
     ·rw [h0 c,M.out];subst c;rw [WZ,aag,JA,xR,D];apply Kq;simp [GM]
     ·rw [h1 c,M.out,FQ _ _ _ (by intro e;rw [aav]at e;rcases e with e|e;exact absurd e (by omega);rw [e]at hlen;simp at hlen;omega),D];apply Kq;simp [GM]
    rcases OE k with c|c
    ·have g:=V.out t (fun _=>rfl) (by omega);have C:=ae g;have hd:decide (0<k)=false:=by simp;omega
     have CG:=ae c;clear c g;go_wp2_with fail;have i0:=aC xs L;have i1:=aC j c0;have i2:=aC j c1;have v:=dO wr;refine aN (by kernel_rfl) (by kernel_rfl) ?_;repeat (go_big_quiet_step ((first|(go_at_call_of 80 (SN O6 p1);exact dP (K.out _))|(go_at_call_of 80 (SN O6 p2);exact dP (J.out _)))))
     refine Iy ?_;intro w5 f;have z:=eU f;clear f i0 i1 i2 v Y L c0 c1;go_wp2_with fail;go_roundw
     case rel=>exact⟨k+1,_,by omega,by go_num,rfl,by rw [C.out];exact X.out,C,S.trans (z.mono (by omega))⟩
     case measure=>simp [Eb];omega
    ·have g:=V.out (t++⟨#[44]⟩) (by omega) (fun _=>rfl);have C:=ae g;have T:(t++(⟨#[44]⟩:ByteArray)).size<=2001:=by rw [aan];show t.size+1<=2001;omega
     clear g;obtain⟨o,H⟩:∃o,xn (t++⟨#[44]⟩=o):=⟨_,ae rfl⟩
     go_wp2_with fail;rw [H.out];rw [H.out]at C T;have i0:=aC xs L;have i1:=aC j c0;have i2:=aC j c1;have v:=dO wr;refine aN (by kernel_rfl) (by kernel_rfl) ?_;repeat (go_big_quiet_step ((first|(go_at_call_of 80 (SN O6 p1);exact dP (K.out _))|(go_at_call_of 80 (SN O6 p2);exact dP (J.out _)))))
     refine Iy ?_;intro w5 f;have z:=eU f;clear f i0 i1 i2 v Y L c0 c1;go_wp2_with fail;go_roundw
     case rel=>exact⟨k+1,_,by omega,by go_num,rfl,by rw [C.out];exact X.out,C,S.trans (z.mono (by omega))⟩
     case measure=>simp [Eb];omega
   ·obtain rfl:k=len:=by omega
    have H:xn (t=gJ ⟨#[61]⟩ ps):=ae (by have h:=M.out;rw [qL (by omega)]at h;exact h);have m:xn (iF d ps=if d then⟨#[33]⟩++t else t):=ae (by unfold iF;rw [af B.out,H.out]);clear M H
    cases d
    ·go_wp2_with fail;go_ret2;exact⟨by rw [m.out];rfl,y⟩
    ·go_wp2_with fail;go_ret2;exact⟨by rw [m.out];rfl,y⟩
 ·have m:xn (iF d ps=⟨#[]⟩):=ae (by unfold iF;rw [ag (by rw [B.out];exact x)]);have aq:(cc==0)=false:=by simpa using x
  go_enter Tryz.func77,Tryz.ntmps77;go_wp2_with fail;refine(pK _ _ _ _ ps _ I.out).mono ?_;rw [B.out];rintro e Z ⟨rfl,l⟩;go_wp2_with fail;go_ret2;exact⟨by rw [m.out];rfl,b1.trans (l.mono b1.size)⟩
theorem Pl.TZ(ps:List (Int×Int)):∀(n i:Nat),i+n=ps.length->Pl.pfxN ps n i=0->∀j,i<=j->j<ps.length->iH (Pl.pr ps j)=0
 |0,i,h,_,j,a,b=>by omega
 |n+1,i,h,h0,j,a,b=>by
  rw [Pl.pfxN]at h0;by_cases g1:iH (Pl.pr ps i)=0
  ·rw [af g1]at h0;split at h0
   ·cases h0
   ·rcases aaH a with e|a
    ·subst e;exact g1
    ·exact TZ ps n (i+1) (by omega) h0 j a b
  ·rw [ag g1]at h0;exact absurd h0 g1
theorem Pl.KY{ps:List (Int×Int)}(h:fM ps=0):ps.length<=6/\∀p∈ps,Pl.small p:=by
 unfold fM at h;split at h
 ·rename_i hl;refine⟨hl,fun p hp=> ?_⟩;obtain⟨i,a,rfl⟩:=Xh hp;have:=gm (TZ ps ps.length 0 (by omega) h i (by omega) a);rw [jI ps i a]at this;exact⟨by omega,by omega,by omega,by omega⟩
 ·cases h
def Pl.fB(ps:List (Int×Int)):ByteArray:=if fM ps=0 then gJ ⟨#[47]⟩ ps else⟨#[]⟩
theorem D8(a:Option Addr)(len cap:Nat)(ps:List (Int×Int))(w:xh)(h:di w a len cap ps):
  Ah oC 78 #[.slice a len cap] w fun e w'=>e= .returned (.tuple #[.string (fB ps),.int .i64 (fM ps)])/\rU w.heap.size w w':=by
 have R:=ae h;have hlen:=h.1;have Y:=h.2.1;have F:=h.2.2.1;unfold Ee at F;clear h;obtain⟨Z,z⟩:=ai (fM ps);rw [z.out];by_cases r:Z=0
 ·subst r;have L:=ae (KY z.out);have X:len<=6:=by have:=L.out.1;omega
  go_enter Tryz.func78,Tryz.ntmps78;go_wp2_with fail;refine(eX _ _ _ ps _ R.out).mono ?_;rw [z.out];rintro e w1 ⟨rfl,v⟩;go_wp2_with fail;go_loopw [5,6] (fun s i wr=>∃(k:Nat) (t:ByteArray),k<=len/\i= .int .i64 k/\s= .string t/\t.size<=2000/\xn (t=gJ ⟨#[47]⟩ (ps.take k))/\rU w.heap.size w wr) (fun _ i _=>len-(Eb i).toNat)
  case atStart=>exact⟨0,⟨#[]⟩,BD _,rfl,rfl,by decide,ae (by rw [WZ,xR]),v⟩
  case round=>
   obtain⟨k,t,hk,rfl,rfl,aa,K,G⟩:=hrel;have B:=G.size;by_cases ad:k<len
   ·obtain⟨b,off,rfl,P,V⟩:∃b off,a=some ⟨b,off,none⟩/\b<w.heap.size/\eP w b off ps:=by
     rcases R.out.2.2.2.2 with rfl|h
     ·simp at hlen;omega
     ·exact h
    obtain⟨c0,c1⟩:=(V.below P G) k (by omega);have g:b<wr.heap.size:=by omega
    clear V;obtain⟨pp,o⟩:=ai (Pl.pr ps k);rw [o.out]at c0 c1;obtain⟨p1,p2⟩:=pp;simp only at c0 c1;have O:Pl.small (p1,p2):=by rw [<-o.out];exact L.out.2 _ (uJ ps k (by omega))
    obtain⟨m,E,l,D⟩:=O;simp only at m E l D;have N:=jK p1 m E;have M:=jK p2 l D;obtain⟨s1,S⟩:=ai (Pl.dec p1);obtain⟨s2,x⟩:=ai (Pl.dec p2);rw [S.out]at N;rw [x.out]at M;have J:xn (∀W,Ah oC 80 #[.int .i64 p1] W fun e w'=>e= .returned (.string s1)/\rU W.heap.size W w'):=by
     refine ae fun W=> ?_;obtain⟨n,rfl⟩:=Qd m;rw [<-S.out];exact nC n W (by omega)
    have I:xn (∀W,Ah oC 80 #[.int .i64 p2] W fun e w'=>e= .returned (.string s2)/\rU W.heap.size W w'):=by
     refine ae fun W=> ?_;obtain⟨n,rfl⟩:=Qd l;rw [<-x.out];exact nC n W (by omega)
    have U:xn ((gJ ⟨#[47]⟩ (ps.take (k+1))).size<=2000):=by
     refine ae ?_;have:=zI ⟨#[47]⟩ (ps.take (k+1)) (fun p hp=>L.out.2 p (aaw hp)) (by simp [aaB]);simp at this;omega
    have T:xn (∀j:ByteArray,(k=0->j=t)->(0<k->j=t++⟨#[44]⟩)->j++s1++⟨#[47]⟩++s2=gJ ⟨#[47]⟩ (ps.take (k+1))):=by
     refine ae fun j h0 h1=> ?_;have C:iC ⟨#[47]⟩ (p1,p2)=s1++⟨#[47]⟩++s2:=by unfold iC;rw [S.out,x.out]
     rw [wu ps k (by omega),o.out];rcases OE k with c|c
     ·rw [h0 c,K.out];subst c;rw [WZ,aag,JA,xR,C];apply Kq;simp [GM]
     ·rw [h1 c,K.out,FQ _ _ _ (by intro e;rw [aav]at e;rcases e with e|e;exact absurd e (by omega);rw [e]at hlen;simp at hlen;omega),C];apply Kq;simp [GM]
    rcases OE k with c|c
    ·have f:=T.out t (fun _=>rfl) (by omega);have A:=ae f;have hd:decide (0<k)=false:=by simp;omega
     have CG:=ae c;clear c f;go_wp2_with fail;have i1:=aC g c0;have i2:=aC g c1;have q:=dO wr;refine aN (by kernel_rfl) (by kernel_rfl) ?_;repeat (go_big_quiet_step ((first|(go_at_call_of 80 (SN O6 p1);exact dP (J.out _))|(go_at_call_of 80 (SN O6 p2);exact dP (I.out _)))))
     refine Iy ?_;intro w5 d;have u:=eU d;clear d i1 i2 q c0 c1;go_wp2_with fail;go_roundw
     case rel=>exact⟨k+1,_,by omega,by go_num,rfl,by rw [A.out];exact U.out,A,G.trans (u.mono B)⟩
     case measure=>simp [Eb];omega
    ·have f:=T.out (t++⟨#[44]⟩) (by omega) (fun _=>rfl);have A:=ae f;have Q:(t++(⟨#[44]⟩:ByteArray)).size<=2001:=by rw [aan];show t.size+1<=2001;omega
     clear f;obtain⟨j,H⟩:∃j,xn (t++⟨#[44]⟩=j):=⟨_,ae rfl⟩
     go_wp2_with fail;rw [H.out];rw [H.out]at A Q;have i1:=aC g c0;have i2:=aC g c1;have q:=dO wr;refine aN (by kernel_rfl) (by kernel_rfl) ?_;repeat (go_big_quiet_step ((first|(go_at_call_of 80 (SN O6 p1);exact dP (J.out _))|(go_at_call_of 80 (SN O6 p2);exact dP (I.out _)))))
     refine Iy ?_;intro w5 d;have u:=eU d;clear d i1 i2 q c0 c1;go_wp2_with fail;go_roundw
     case rel=>exact⟨k+1,_,by omega,by go_num,rfl,by rw [A.out];exact U.out,A,G.trans (u.mono B)⟩
     case measure=>simp [Eb];omega
   ·obtain rfl:k=len:=by omega
    have H:xn (t=gJ ⟨#[47]⟩ ps):=ae (by have h:=K.out;rw [qL (by omega)]at h;exact h);have y:xn (fB ps=t):=ae (by unfold fB;rw [af z.out,H.out]);clear K H;go_wp2_with fail;go_ret2;exact⟨by rw [y.out];rfl,G⟩
 ·have y:xn (fB ps=⟨#[]⟩):=ae (by unfold fB;rw [ag (by rw [z.out];exact r)]);have ak:(Z==0)=false:=by simpa using r
  go_enter Tryz.func78,Tryz.ntmps78;go_wp2_with fail;refine(eX _ _ _ ps _ R.out).mono ?_;rw [z.out];rintro e w1 ⟨rfl,v⟩;go_wp2_with fail;go_ret2;exact⟨by rw [y.out];rfl,v⟩
theorem VI:(Tryz.prog.info? 118).map (fun i=>(i.zero,i.size,i.bytes))=some (some (.agg #[.int .i64 0,.int .i64 0]),2,16):=by kernel_rfl
theorem Pl.U9{p:Int×Int}(h:Pl.small p):dJ p:=gp ⟨h.1,by have:=h.2.1;omega,h.2.2.1,by have:=h.2.2.2;omega⟩
theorem D5(a:Option Addr)(len cap:Nat)(ps:List (Int×Int))(w:xh)(h:di w a len cap ps)(hT:Ff w):
  Ah oC 163 #[.slice a len cap] w fun e w'=>e= .returned (.tuple #[.string (fB ps),.int .i64 (fM ps)])/\rU w.heap.size w w':=by
 have D:=ae h;have B:=ae hT;have hlen:=h.1;have I:=h.2.1;have o:=h.2.2.1;unfold Ee at o;clear h hT;obtain⟨J,m⟩:=ai (fM ps);rw [m.out];by_cases f:J=0
 ·subst f;have s:=ae (KY m.out);have H:len<=6:=by have:=s.out.1;omega
  go_enter Tryz.func163,Tryz.ntmps163;go_wp2_with fail;refine(dR _ _ _ ps _ D.out).mono ?_;rw [m.out];rintro e l ⟨rfl,c⟩;go_wp2_with fail;go_loopw [5,15] (fun vl i wr=>∃(k:Nat) (E:xx),E=vl/\k<=len/\i= .int .i64 k/\xn (aU 118 wr l.heap.size E (ps.take k))/\rU l.heap.size l wr) (fun _ i _=>len-(Eb i).toNat)
  case atStart=>exact⟨0,_,rfl,BD _,rfl,ae (aU.nil _ _ _),qh _ _⟩
  case round=>
   obtain⟨k,vl,rfl,W,rfl,C,r⟩:=hrel;have M:=r.size;have Q:=c.size;by_cases N:k<len
   ·obtain⟨b,off,rfl,v,G⟩:∃b off,a=some ⟨b,off,none⟩/\b<w.heap.size/\eP w b off ps:=by
     rcases D.out.2.2.2.2 with rfl|h
     ·simp at hlen;omega
     ·exact h
    obtain⟨c0,c1⟩:=(G.below v (c.trans (r.mono c.size))) k (by omega);have P:b<wr.heap.size:=by omega
    clear G;obtain⟨pp,n⟩:=ai (Pl.pr ps k);rw [n.out]at c0 c1;have K:=ae (C.out.below ((qh wr.heap.size wr).alloc (oP _) (.cells #[.int .i64 pp.1,.int .i64 pp.2] 49)));have u:(ps.take k).length=k:=by simp;omega
    go_wp2_with (at_builtin;refine dM aaD VI rfl (.tmp 19) (.tmp 25) rfl l.heap.size vl (ps.take k) pp rfl K.out (by simp;omega) (by show aaq (some ⟨wr.heap.size+1,0,none⟩) 1 1=_;simp) (by rw [u];omega) ?_;intro v5 U F x _;have L:=ae F;clear F);go_roundw
    case rel=>exact⟨k+1,_,rfl,by omega,by go_num,ae (by show aU _ _ _ _ _;rw [wu ps k (by omega),n.out];exact L.out),(r.alloc M _).trans x⟩
    case measure=>simp [Eb];omega
   ·obtain rfl:k=len:=by omega
    have R:xn (aU 118 wr l.heap.size vl ps):=by have h:=C.out;rw [qL (by omega)]at h;exact ae h
    obtain⟨a3,q,rfl,d,_,_⟩:=aU.shape R.out (fun p hp=>U9 (s.out.2 p hp));rw [hlen]at d⊢;have T:=ae d;have g:rU w.heap.size w wr:=c.trans (r.mono Q);have A:=ae (B.out.below g);have S:=ae (zg a3 k q ps ⟨#[47]⟩ wr T.out s.out.2 (by omega) (by decide) A.out);have j:xn (fB ps=gJ ⟨#[47]⟩ ps):=ae (by unfold fB;rw [af m.out]);generalize gJ ⟨#[47]⟩ ps=t at*;clear d C hlen;go_wp2_with fail;refine S.out.mono ?_;rintro e V ⟨rfl,y⟩;go_wp2_with fail;go_ret2;exact⟨by rw [j.out];rfl,g.trans (y.mono g.size)⟩
 ·have j:xn (fB ps=⟨#[]⟩):=ae (by unfold fB;rw [ag (by rw [m.out];exact f)]);have O:(J==0)=false:=by simpa using f
  go_enter Tryz.func163,Tryz.ntmps163;go_wp2_with fail;refine(dR _ _ _ ps _ D.out).mono ?_;rw [m.out];rintro e l ⟨rfl,z⟩;go_wp2_with fail;go_ret2;exact⟨by rw [j.out];rfl,z⟩
theorem Yx{Q:Exit->Act->xh->Prop}{a0:Act}{g:xh}{B xb a pl m:Nat}{n:Option Addr}{ps:List (Int×Int)}
  (t:a0.tmps.size=51)
  (K:a0.tmps[0]?.getD Tq= .pointer (some ⟨B,0,none⟩))
  (J:a0.tmps[3]?.getD Tq= .pointer (some ⟨xb,0,none⟩))
  (T:B<g.heap.size)
  (O:xb<g.heap.size)
  (X:g.cell? ⟨xb,1,none⟩=some (.int .i64 a))
  (Y:g.cell? ⟨B,a*4+1,none⟩=some (.slice n pl m))
  (ha:(a:Int)<12)
  (Z:di g n pl m ps)
  (hT:Ff g)
  (S:∀xs W,xs.length=26->(xs.getD 1 Tq)= .string (fB ps)->(xs.getD 0 Tq)= .int .i64 (fM ps)->rU g.heap.size g W->Q .normal {a0 with tmps:=setFrom a0.tmps 6 xs} W):
  ∀ops,dX abx 4=some ops->(Code.region 4 ops true).wp oC Q a0 g:=by
 intro ops aH;have U:=aby (aH.symm.trans (rfl:dX abx 4=some _));subst U;clear aH;have d:6+26<=a0.tmps.size:=by omega
 refine wp_region_any (by kernel_rfl) ?_;refine cO (kC a0 6 26 14 (fun k=>some (([15,16,17,18,19,20,21,22,23,14,24,25,1,0]:List Nat).getD k 0)) (SV.V [SV.eq (.int .i64 (fM ps)),SV.eq (.string (fB ps)),SV.any,SV.any,SV.any,SV.any,SV.any,SV.any,SV.any,SV.any,SV.any,SV.any,SV.any,SV.any,SV.two (SV.eq (.string (fB ps))) (fM ps),SV.eq (.pointer (some ⟨B,0,none⟩)),SV.eq (.pointer (some ⟨xb,1,none⟩)),SV.eq (.int .i64 a),SV.eq (.pointer (some ⟨B,0,none⟩)),SV.eq (.pointer (some ⟨B,0,none⟩)),SV.eq (.pointer (some ⟨B,a*4,none⟩)),SV.eq (.pointer (some ⟨B,a*4+1,none⟩)),SV.eq (.slice n pl m),SV.two (SV.eq (.string (fB ps))) (fM ps),SV.eq (.string (fB ps)),SV.eq (.int .i64 (fM ps))]) (fun W=>rU g.heap.size g W)) ?_ ?_ _ _ _ _ (by decide+kernel) ?_ (bn _ _ _)
 ·rintro i listed f W G jS b;rw [mem_ready]at G;obtain⟨R,o,u,c⟩:=G;have sN:i<14:=(Array.getElem?_eq_some_iff.1 u).1;have N:=(b.out (k:=0) (by omega)).trans K;have M:=(b.out (k:=3) (by omega)).trans J;have I:=(b.cw.cell (p:=⟨xb,1,none⟩) O).trans X;have L:=(b.cw.cell (p:=⟨B,a*4+1,none⟩) T).trans Y;have v:i=0\/i=1\/i=2\/i=3\/i=4\/i=5\/i=6\/i=7\/i=8\/i=9\/i=10\/i=11\/i=12\/i=13:=by omega
  rcases v with rfl|rfl|rfl|rfl|rfl|rfl|rfl|rfl|rfl|rfl|rfl|rfl|rfl|rfl
  all_goals
   simp at u;subst u
  ·refine au rfl rfl ?_;simp [BG,go_sem,N];exact b.put (i:=0) (j:=15) rfl (by omega) (fun _ _ h=>h) rfl b.cw
  ·refine au rfl rfl ?_;simp [BG,go_sem,M];exact b.put (i:=1) (j:=16) rfl (by omega) (fun _ _ h=>h) rfl b.cw
  ·refine au rfl rfl ?_;have E:f.tmps[22]?.getD Tq= .pointer (some ⟨xb,1,none⟩):=b.at (k:=1) (j:=16) d rfl (by omega) (c ⟨1,.data⟩ (by simp) rfl);simp [BG,go_sem,E,I];exact b.put (i:=2) (j:=17) rfl (by omega) (fun _ _ h=>h) rfl b.cw
  ·refine au rfl rfl ?_;have F:f.tmps[21]?.getD Tq= .pointer (some ⟨B,0,none⟩):=b.at (k:=0) (j:=15) d rfl (by omega) (c ⟨0,.data⟩ (by simp) rfl);simp [BG,go_sem,F];exact b.put (i:=3) (j:=18) rfl (by omega) (fun _ _ h=>h) rfl b.cw
  ·refine au rfl rfl ?_;have C:f.tmps[24]?.getD Tq= .pointer (some ⟨B,0,none⟩):=b.at (k:=3) (j:=18) d rfl (by omega) (c ⟨3,.data⟩ (by simp) rfl);simp [BG,go_sem,C];exact b.put (i:=4) (j:=19) rfl (by omega) (fun _ _ h=>h) rfl b.cw
  ·refine au rfl rfl ?_;have A:f.tmps[25]?.getD Tq= .pointer (some ⟨B,0,none⟩):=b.at (k:=4) (j:=19) d rfl (by omega) (c ⟨4,.data⟩ (by simp) rfl);have D:f.tmps[23]?.getD Tq= .int .i64 a:=b.at (k:=2) (j:=17) d rfl (by omega) (c ⟨2,.data⟩ (by simp) rfl);simp [BG,go_sem,A,D,ha];exact b.put (i:=5) (j:=20) rfl (by omega) (fun _ _ h=>h) rfl b.cw
  ·refine au rfl rfl ?_;have z:f.tmps[26]?.getD Tq= .pointer (some ⟨B,a*4,none⟩):=b.at (k:=5) (j:=20) d rfl (by omega) (c ⟨5,.data⟩ (by simp) rfl);simp [BG,go_sem,z];exact b.put (i:=6) (j:=21) rfl (by omega) (fun _ _ h=>h) rfl b.cw
  ·refine au rfl rfl ?_;have y:f.tmps[27]?.getD Tq= .pointer (some ⟨B,a*4+1,none⟩):=b.at (k:=6) (j:=21) d rfl (by omega) (c ⟨6,.data⟩ (by simp) rfl);simp [BG,go_sem,y,L];exact b.put (i:=7) (j:=22) rfl (by omega) (fun _ _ h=>h) rfl b.cw
  ·refine au rfl rfl ?_;have x:f.tmps[28]?.getD Tq= .slice n pl m:=b.at (k:=7) (j:=22) d rfl (by omega) (c ⟨7,.data⟩ (by simp) rfl);simp [BG,go_sem,x];refine(D5 n pl m ps W (Z.below b.cw) (hT.below b.cw)).mono ?_;rintro e W' ⟨rfl,q⟩;exact b.put (i:=8) (j:=23) rfl (by omega) (SV.grow q) ⟨_,rfl,rfl⟩ (b.cw.trans (q.mono b.cw.size))
  ·refine au rfl rfl ?_;obtain⟨l,hl,hp⟩:=b.at (k:=8) (j:=23) d rfl (by omega) (c ⟨8,.data⟩ (by simp) rfl);have hl:f.tmps[29]?.getD Tq=_:=hl;simp [BG,go_sem,hl];exact b.put (i:=9) (j:=14) rfl (by omega) (fun _ _ h=>h) ⟨l,rfl,hp⟩ b.cw
  ·refine au rfl rfl ?_;obtain⟨l,hl,hp⟩:=b.at (k:=9) (j:=14) d rfl (by omega) (c ⟨9,.data⟩ (by simp) rfl);have hl:f.tmps[20]?.getD Tq=_:=hl;simp [BG,go_sem,hl];exact b.put (i:=10) (j:=24) rfl (by omega) (fun _ _ h=>h) hp b.cw
  ·refine au rfl rfl ?_;obtain⟨l,hl,hp⟩:=b.at (k:=9) (j:=14) d rfl (by omega) (c ⟨9,.data⟩ (by simp) rfl);have hl:f.tmps[20]?.getD Tq=_:=hl;simp [BG,go_sem,hl];exact b.put (i:=11) (j:=25) rfl (by omega) (fun _ _ h=>h) rfl b.cw
  ·refine au rfl rfl ?_;have h0:=b.at (k:=10) (j:=24) d rfl (by omega) (c ⟨10,.data⟩ (by simp) rfl);simp [BG,go_sem];exact b.put (i:=12) (j:=1) rfl (by omega) (fun _ _ h=>h) h0 b.cw
  ·refine au rfl rfl ?_;have w:f.tmps[31]?.getD Tq= .int .i64 (fM ps):=b.at (k:=11) (j:=25) d rfl (by omega) (c ⟨11,.data⟩ (by simp) rfl);simp [BG,go_sem,w];exact b.put (i:=13) (j:=0) rfl (by omega) (fun _ _ h=>h) rfl b.cw
 ·rintro listed f W P b;have r:=dm (by decide+kernel) b.ls P;obtain⟨xs,s,rfl,H⟩:=b.fr;exact S xs W s (H 12 1 rfl (r 12 (by decide))) (H 13 0 rfl (r 13 (by decide))) b.cw
 ·exact kC.start d (qh _ _).drew
def Pl.sidesK(L:Nat->Int):Nat->List (Int×Int)
 |0=> []
 |k+1=>if 0<L k then Pl.sidesK L k++ [((k:Int),L k)]else Pl.sidesK L k
theorem Pl.uG(L:Nat->Int):∀k,(Pl.sidesK L k).length<=k
 |0=>oP _
 |k+1=>by
  have:=uG L k;unfold Pl.sidesK;split
  ·simp;omega
  ·omega
theorem fG.row{w B D P K T L}(h:fG w B D P K T L)(a:Nat)(ha:a<12):w.rangeAt B (48+a*12) (iQ (L a)):=aj.range h _ _ (by simp [iQ];omega) fun j b=>by
 simp only [iQ,aaO,List.length_range]at b;unfold gG;rw [ag (by omega),show(48+a*12+j-48)/12=a by omega,show(48+a*12+j-48)%12=j by omega];simp [iQ]
theorem JS:(Tryz.prog.info? 143).map (fun i=>(i.zero,i.size,i.bytes))=some (some (.agg #[.int .i64 0,.int .i64 0]),2,16):=by kernel_rfl
theorem QV(B:Nat)(D:Nat->Bool)(P K T:Nat->xx)(L:Nat->Nat->Int)(a:Nat)(w:xh)(h:fG w B D P K T L)(ha:a<12):
  Ah oC 162 #[.pointer (some ⟨B,0,none⟩),.int .i64 a] w fun e w'=>∃v,e= .returned (.agg #[.bool (D a),v])/\aU 143 w' w.heap.size v (Pl.sidesK (L a) 12)/\rU w.heap.size w w':=by
 have HN:=ae h;have ad:=h.lt;have aa:(a:Int)<12:=by omega
 clear h;obtain⟨d,V⟩:=ai (D a);obtain⟨M,U⟩:=ai (L a);rw [V.out,U.out];obtain⟨g,t⟩:=aV (w.alloc (.cells #[.bool false,.slice none 0 0] 141));have q:xn (rU w.heap.size w g):=ae (by rw [t.out];exact(qh _ _).alloc (oP _) _);have N:g.heap.size=w.heap.size+1:=by rw [t.out];simp
 have I:xn (g.heap[w.heap.size]? =some (.cells #[.bool false,.slice none 0 0] 141)):=ae (by rw [t.out];exact bW _ _);have H:=ae (HN.out.below q.out);have G:=H.out.yB a ha;rw [V.out]at G;have ak:=H.out.lt;have J:xn ((g.alloc (.cells #[.bool d,.slice none 0 0] 141)).rangeAt B (48+a*12) (iQ M)):=ae (by
  rw [<-U.out];exact World.rangeAt_alloc (H.out.row a ha) _)
 go_enter Tryz.func162,Tryz.ntmps162;go_wp2_with (first|(rw [<-t.out])|(refine wpList_load_mid rfl 31 (.tmp 20) rfl B (48+a*12) rfl (iQ M) _ J.out Tryz.underlying31 rfl GG ?_));go_loopw [22] (fun i wr=>∃(j:Nat) (A:xx),j<=12/\i= .int .i64 j/\xn (wr.heap[w.heap.size+1]? =some (.cells #[.bool d,A] 141))/\xn (aU 143 wr (w.heap.size+2) A (Pl.sidesK M j))/\xn (rU (w.heap.size+1) g wr)) (fun i _=>12-(Eb i).toNat)
 case atStart=>exact⟨0,.slice none 0 0,by omega,rfl,ae (by rw [<-N];exact bW _ _),ae (aU.nil _ _ _),ae (by rw [<-N];exact(qh _ _).alloc (oP _) _)⟩
 case round=>
  obtain⟨j,A,hj,rfl,x,o,k⟩:=hrel;obtain⟨a3,b,rfl⟩:=az o.out;have hlen:=uG M j;obtain⟨r,R⟩:=ai ((Pl.sidesK M j).length);rw [R.out]at x o hlen;obtain⟨z0,z1,f0,f1,an⟩:=aQ x.out;have oq:=k.out.size;by_cases C:j<12
  ·have Z:=fun w=>qj M j C w;obtain⟨c,u⟩:=ai (M j);rw [u.out]at Z;have ar:(j:Int)<12:=by omega
   by_cases hc:0<c
   ·have E:decide (0<c)=true:=by simpa using hc
    have y:xn (Pl.sidesK M (j+1)=Pl.sidesK M j++ [((j:Int),c)]):=ae (by rw [<-u.out];show(if _ then _ else _)=_;rw [af (by rw [u.out];exact hc)]);clear hc;go_wp2_with (at_builtin;refine dM Tryz.underlying139 JS rfl (.tmp 29) (.tmp 33) rfl (w.heap.size+2) (.slice a3 r b) (Pl.sidesK M j) ((j:Int),c) rfl o.out (by omega) rfl (by have:=R.out;omega) ?_;intro v5 w5 s f _;obtain⟨a5,n,rfl⟩:=az s;obtain⟨X,S⟩:=ai ((Pl.sidesK M j++ [((j:Int),c)]).length);rw [S.out]at s;have W:=ae s;have z:=ae f;have F:=(f.block (w.heap.size+1) (OI _)).trans x.out;obtain⟨Q,O,g0,g1,aq⟩:=aQ F;have H5:=ae F;rw [S.out];clear s f F);go_roundw
    case rel=>
     refine⟨j+1,.slice a5 X n,by omega,by go_num,ae (gK H5.out _),ae ?_,ae ((k.out.trans (z.out.mono (Nat.le_succ _))).setCell (p:=⟨w.heap.size+1,1,none⟩) (oP _) _)⟩;rw [y.out];exact X6 W.out (OI _) _
    case measure=>simp [Eb];omega
   ·have E:decide (0<c)=false:=by simpa using hc
    have y:xn (Pl.sidesK M (j+1)=Pl.sidesK M j):=ae (by show(if _ then _ else _)=_;rw [ag (by rw [u.out];exact hc)]);clear hc;go_wp2_with fail;go_roundw
    case rel=>exact⟨j+1,.slice a3 r b,by omega,by go_num,x,ae (by rw [y.out];exact o.out),k⟩
    case measure=>simp [Eb];omega
  ·obtain rfl:j=12:=by omega
   have Ky:=ae ((k.out.block w.heap.size (by omega)).trans I.out);obtain⟨Q,O,g0,g1,Y⟩:=aQ Ky.out;have z:xn (rU w.heap.size w wr):=ae (q.out.trans (k.out.mono (by omega)));go_wp2_with fail;have hle:w.heap.size<=w.heap.size:=oP _;have m:=(z.out.setCell (p:=⟨w.heap.size,0,none⟩) hle (.bool d)).setCell (p:=⟨w.heap.size,1,none⟩) hle (.slice a3 r b);refine aak (v:= .agg #[.bool d,.slice a3 r b]) (by simp [results,Tryz.results162,go_sem,Q,O]) rfl ⟨_,rfl,?_,m⟩;have l:w.heap.size<w.heap.size+2:=by omega
   exact aU.mono (X6 (X6 o.out l _) l _) (by omega)
theorem VJ:(Tryz.prog.info? 118).map (fun i=>(i.zero,i.size,i.bytes))=some (some (.agg #[.int .i64 0,.int .i64 0]),2,16):=by kernel_rfl
theorem Pl.XN{p:Int×Int}(h:Pl.small p):dJ p:=gp ⟨h.1,by have:=h.2.1;omega,h.2.2.1,by have:=h.2.2.2;omega⟩
theorem PH(d:Bool)(a:Option Addr)(len cap:Nat)(ps:List (Int×Int))(w:xh)(h:di w a len cap ps)(hT:Ff w):
  Ah oC 161 #[.agg #[.bool d,.slice a len cap]] w fun e w'=>e= .returned (.tuple #[.string (iF d ps),.int .i64 (qU ps)])/\rU w.heap.size w w':=by
 have P:=ae h;have F:=ae hT;have hlen:=h.1;have N:=h.2.1;have q:=h.2.2.1;unfold Ee at q;clear h hT;obtain⟨O,m⟩:=ai (qU ps);rw [m.out];have b1:rU w.heap.size w (w.alloc (.cells #[.bool d,.slice a len cap] 141)):=(qh _ _).alloc (oP _) _;have u:=ae (P.out.below b1);by_cases j:O=0
 ·subst j;have v:=ae (UJ m.out);have M:len<=12:=by have:=v.out.1;omega
  go_enter Tryz.func161,Tryz.ntmps161;go_wp2_with fail;refine(pJ _ _ _ _ ps _ u.out).mono ?_;rw [m.out];rintro e f ⟨rfl,c⟩;have J:rU (w.heap.size+1) (w.alloc (.cells #[.bool d,.slice a len cap] 141)) f:=by simpa using c
  obtain⟨S,R,qs,n⟩:=vK J;clear c b1;go_wp2_with fail;go_loopw [5,17] (fun vl i wr=>∃(k:Nat) (I:xx),I=vl/\k<=len/\i= .int .i64 k/\xn (aU 118 wr f.heap.size I (ps.take k))/\rU f.heap.size f wr) (fun _ i _=>len-(Eb i).toNat)
  case atStart=>exact⟨0,_,rfl,BD _,rfl,ae (aU.nil _ _ _),qh _ _⟩
  case round=>
   obtain⟨k,vl,rfl,hk,rfl,G,x⟩:=hrel;have U:=x.size;by_cases W:k<len
   ·obtain⟨b,off,rfl,A,L⟩:∃b off,a=some ⟨b,off,none⟩/\b<w.heap.size/\eP w b off ps:=by
     rcases P.out.2.2.2.2 with rfl|h
     ·simp at hlen;omega
     ·exact h
    obtain⟨c0,c1⟩:=(L.below A (n.trans (x.mono n.size))) k (by omega);have Y:b<wr.heap.size:=by omega
    clear L;obtain⟨pp,o⟩:=ai (Pl.pr ps k);rw [o.out]at c0 c1;have Q:=ae (G.out.below ((qh wr.heap.size wr).alloc (oP _) (.cells #[.int .i64 pp.1,.int .i64 pp.2] 143)));have y:(ps.take k).length=k:=by simp;omega
    go_wp2_with (at_builtin;refine dM aaD VJ rfl (.tmp 21) (.tmp 27) rfl f.heap.size vl (ps.take k) pp rfl Q.out (by simp;omega) (by show aaq (some ⟨wr.heap.size+1,0,none⟩) 1 1=_;simp) (by rw [y];omega) ?_;intro v5 w5 K C _;have T:=ae K;clear K);go_roundw
    case rel=>exact⟨k+1,_,rfl,by omega,by go_num,ae (by show aU _ _ _ _ _;rw [wu ps k (by omega),o.out];exact T.out),(x.alloc U _).trans C⟩
    case measure=>simp [Eb];omega
   ·obtain rfl:k=len:=by omega
    have Z:xn (aU 118 wr f.heap.size vl ps):=by have h:=G.out;rw [qL (by omega)]at h;exact ae h
    obtain⟨a3,s,rfl,g,_,_⟩:=aU.shape Z.out (fun p hp=>XN (v.out.2 p hp));rw [hlen]at g⊢;have Ea:=ae g;have r:rU (w.heap.size+1) (w.alloc (.cells #[.bool d,.slice a k cap] 141)) wr:=J.trans (x.mono (by omega));obtain⟨y0,y1,ys,B⟩:=vK r;have E:=ae (F.out.below B);have MZ:=ae (zg a3 k s ps ⟨#[61]⟩ wr Ea.out v.out.2 (by omega) (by decide) E.out);have H:=ae (zI ⟨#[61]⟩ ps v.out.2 (by decide));have l:xn (iF d ps=if d then⟨#[33]⟩++gJ ⟨#[61]⟩ ps else gJ ⟨#[61]⟩ ps):=ae (by unfold iF;rw [af m.out]);generalize gJ ⟨#[61]⟩ ps=t at*;have V:t.size<=2000:=by have:=H.out;omega
    clear g G H S R hlen
    cases d
    all_goals
     go_wp2_with fail;refine MZ.out.mono ?_;rintro e w4 ⟨rfl,D⟩;obtain⟨z0,z1,zs,z⟩:=vK (r.trans (D.mono (by omega)));go_wp2_with fail;go_ret2;exact⟨by rw [l.out];rfl,z⟩
 ·have l:xn (iF d ps=⟨#[]⟩):=ae (by unfold iF;rw [ag (by rw [m.out];exact j)]);have X:(O==0)=false:=by simpa using j
  go_enter Tryz.func161,Tryz.ntmps161;go_wp2_with fail;refine(pJ _ _ _ _ ps _ u.out).mono ?_;rw [m.out];rintro e f ⟨rfl,c⟩;go_wp2_with fail;go_ret2;exact⟨by rw [l.out];rfl,b1.trans (c.mono b1.size)⟩
def Pl.kX(s:Pl.Nt)(a:Nat):List (ByteArray×ByteArray):= [(aY a,iF (s.D a) (Pl.sidesK (s.L a) 12)),(aW a,fB (s.P a))]
theorem Oe(B:Nat)(s:Pl.Nt)(x:Pl.Ac)(a:Nat)(w:xh)(h:aT w B s)(C:x.a=a)(ha:a<12)(hf:Pl.fault (s.K a)=0)(hs:qU (Pl.sidesK (s.L a) 12)=0)(Q:∀p∈Pl.sidesK (s.L a) 12,dJ p)(hp:fM (s.P a)=0)(Y0:∀p∈s.P a,dJ p)(R:∀t∈kX s a,t.1.size<=Ee/\t.2.size<=Ee)(hT:Ff w):
  Ah oC 115 #[.pointer (some ⟨B,0,none⟩),.agg #[.int .i64 x.kind,.int .i64 x.a,.int .i64 x.b,.int .i64 x.n,.int .i64 x.m,.int .i64 x.p.1,.int .i64 x.p.2,.string x.key,.string x.val]] w fun e w'=>
   ∃vk,e= .returned (.agg #[.int .i64 (Pl.putsS (s.K a) a (kX s a) 2).1,.slice none 0 0,.int .i64 0,vk])/\bF w' w.heap.size vk (nR s a (kX s a))/\aT w' B (tJ s a (kX s a))/\bG B w w':=by
 have HN:=ae h;have bc:=h.lt;have HF:=ae hf;have EU:=ae hT;have HS:=ae hs;have aw:=ae Q;have HP:=ae hp;have Xb:=ae Y0;have xJ:=ae R;have T:xn (kX s a= [(aY a,iF (s.D a) (Pl.sidesK (s.L a) 12)),(aW a,fB (s.P a))]):=ae rfl;clear h hf hT hs Q hp Y0 R;obtain⟨kind,xa,b,n,m,⟨p1,p2⟩,key,val⟩:=x;simp only at C⊢;subst C;have aq:(a:Int)<12:=by omega
 obtain⟨t1,V⟩:=ai (iF (s.D a) (Pl.sidesK (s.L a) 12));obtain⟨t2,U⟩:=ai (fB (s.P a));rw [V.out,U.out]at T;rw [T.out]at xJ⊢;obtain⟨b0,b1,bz,bb⟩:=two (w:=w) (.cells #[.int .i64 kind,.int .i64 (a:Int),.int .i64 b,.int .i64 n,.int .i64 m,.int .i64 p1,.int .i64 p2,.string key,.string val] 51) (.cells #[.int .i64 0,.slice none 0 0,.int .i64 0,.slice none 0 0] 40);obtain⟨u,S⟩:=aV ((w.alloc (.cells #[.int .i64 kind,.int .i64 (a:Int),.int .i64 b,.int .i64 n,.int .i64 m,.int .i64 p1,.int .i64 p2,.string key,.string val] 51)).alloc (.cells #[.int .i64 0,.slice none 0 0,.int .i64 0,.slice none 0 0] 40));rw [<-S.out]at b0 b1 bz bb;obtain⟨q0,q1,q2,q3,q4,q5,q6,q7,q8⟩:=kz b0;have nH:=ae b1;have sU:=ae bb;have Q1:=ae q1;have A:w.heap.size<u.heap.size:=by omega
 have hle:w.heap.size<=w.heap.size+1:=by omega
 have l:w.heap.size+1≠B:=by omega
 obtain⟨VP,VK,VT,r,Y,h3,h4,h5⟩:=HN.out.below sU.out;have ay:=ae (QV B s.D VP VK VT s.L a u r ha);clear q0 q2 q3 q4 q5 q6 q7 q8 b0 b1 bb r Y h3 h4 h5;go_enter Tryz.func115,Tryz.ntmps115;go_wp2_with fail;rw [<-S.out];refine ay.out.mono ?_;rintro e w3 ⟨v3,rfl,H,i⟩;obtain⟨sa,sc,rfl,E,_,_⟩:=H.shape aw.out;have q:xn (rU w.heap.size w w3):=ae (sU.out.trans (i.mono sU.out.size));have W:=ae (PH (s.D a) sa _ sc (Pl.sidesK (s.L a) 12) w3 E (EU.out.below q.out));rw [HS.out,V.out]at W;have pG:=ae i;have ba:=i.size;clear H i E q1;go_wp2_with fail;refine W.out.mono ?_;rintro e w4 ⟨rfl,g⟩;have j:xn (rU w.heap.size w w4):=ae (q.out.trans (g.mono q.out.size));have Tt:xn (rU u.heap.size u w4):=ae (pG.out.trans (g.mono pG.out.size));have yw:=g.size;clear g;go_wp2_with fail;rename_i K hK
 obtain⟨VP,VK,VT,r,Y,h3,h4,h5⟩:=HN.out.below j.out;obtain⟨pa,pc,ev,F,_,_⟩:=(Y a ha).shape Xb.out;have o:=r.jh a ha;rw [ev]at o;have av:=r.lt;have N:=(Tt.out.cell (p:=⟨w.heap.size,1,none⟩) A).trans Q1.out;refine Yx (B:=B) (xb:=w.heap.size) (a:=a) rfl rfl rfl av (by omega) N o aq F (EU.out.below j.out) ?_ _ (by kernel_rfl);rw [HP.out,U.out];intro xs W5 GI ho hc f;obtain⟨x0,x1,x2,x3,x4,x5,x6,x7,x8,x9,an,ak,ad,pM,aa,a8,a7,a6,aR,aM,aL,zF,Au,EX,aE,aD,rfl⟩:=aba xs GI;have ho:x1= .string t2:=ho;have hc:x0= .int .i64 0:=hc;subst ho;subst hc;have X:xn (rU w.heap.size w W5):=ae (j.out.trans (f.mono j.out.size));have O:xn (rU u.heap.size u W5):=ae (Tt.out.trans (f.mono Tt.out.size));have oq:=f.size;clear GI f r Y h3 h4 h5 ev F o N;simp only [dC,spl];refine hK _ W5 ?_
 clear hK;go_wp2_with fail;rename_i K2 ar;refine Yw (B:=B) (xb:=w.heap.size) (a:=a) (s:=s) (t1:=t1) (t2:=t2) rfl rfl rfl rfl rfl rfl (by omega) ((O.out.cell (p:=⟨w.heap.size,1,none⟩) A).trans Q1.out) ((O.out.block _ (by omega)).trans nH.out) l ha (HN.out.below X.out) HF.out (EU.out.below X.out) xJ.out ?_ _ (by kernel_rfl);intro xs W6 c k Rj hP d;obtain⟨W7,vk,hv,M,Uw,I,G⟩:=hP;obtain⟨z,y,rfl⟩:=az Uw
 cases hv;obtain⟨x0,x1,x2,x3,x4,x5,x6,x7,x8,x9,an,ak,ad,pM,aa,rfl⟩:=abe xs Rj;have IJ:xn (rU w.heap.size w W7):=ae (X.out.trans (M.mono X.out.size));have J:=lL d (.int .i64 (Pl.putsS (s.K a) a [(aY a,t1),(aW a,t2)] 2).1) (.slice none 0 0) (.int .i64 0) (.slice z (nR s a [(aY a,t1),(aW a,t2)]).length y);have Z:=jF (aI.refl (w.heap.size+1) W6) (.int .i64 (Pl.putsS (s.K a) a [(aY a,t1),(aW a,t2)] 2).1) (.slice none 0 0) (.int .i64 0) (.slice z (nR s a [(aY a,t1),(aW a,t2)]).length y);generalize jy W6 (w.heap.size+1) (.int .i64 (Pl.putsS (s.K a) a [(aY a,t1),(aW a,t2)] 2).1) (.slice none 0 0) (.int .i64 0) (.slice z (nR s a [(aY a,t1),(aW a,t2)]).length y)=Wf at*
 have pz:xn (bF Wf w.heap.size (.slice z (nR s a [(aY a,t1),(aW a,t2)]).length y) (nR s a [(aY a,t1),(aW a,t2)])/\aT Wf B (tJ s a [(aY a,t1),(aW a,t2)])/\bG B w Wf):=ae ⟨qx (World.dh Uw IJ.out.size) Z d,I.ql Z d l,((bG.of (aI.of IJ.out)).trans G).over Z hle⟩;obtain⟨⟨z0,z1,z2,z3⟩,_,_⟩:=aS J;clear Rj M Uw I G Z J d;simp only [dC,spl];refine ar _ Wf ?_;go_wp2_with fail;exact aak (v:= .agg #[.int .i64 (Pl.putsS (s.K a) a [(aY a,t1),(aW a,t2)] 2).1,.slice none 0 0,.int .i64 0,.slice z (nR s a [(aY a,t1),(aW a,t2)]).length y]) (by simp [results,Tryz.results115,go_sem,z0,z1,z2,z3]) rfl ⟨_,rfl,pz.out⟩
theorem Ig(p1 p2 a b:Int)(w:xh):
  Ah oC 120 #[.agg #[.int .i64 p1,.int .i64 p2],.agg #[.int .i64 a,.int .i64 b]] w fun e w'=>e= .returned (.bool (dw (a,b) (p1,p2)))/\rU w.heap.size w w':=by
 obtain⟨R,g⟩:=ai (dw (a,b) (p1,p2));rw [g.out];have d:xn (R=decide (a<p1\/a=p1/\b<p2)):=ae (by rw [<-g.out];rfl);by_cases h:a<p1
 ·go_enter Tryz.func120,Tryz.ntmps120;go_wp2;go_ret;exact⟨bf (by rw [d.out];simp [h]),((qh _ _).alloc (oP _) _).alloc (by simp) _⟩
 ·obtain⟨e,he⟩:∃c,(p1==a)=c:=⟨_,rfl⟩
  cases e
  ·have f:xn (R=false):=ae (by rw [d.out];simp at he;simp;omega);go_enter Tryz.func120,Tryz.ntmps120;go_wp2;go_ret;exact⟨bf f.out.symm,((qh _ _).alloc (oP _) _).alloc (by simp) _⟩
  ·have f:xn (R=decide (b<p2)):=ae (by rw [d.out,aai];simp only [ik];have:=eq_of_beq he;omega);go_enter Tryz.func120,Tryz.ntmps120;go_wp2;go_ret;exact⟨bf f.out.symm,((qh _ _).alloc (oP _) _).alloc (by simp) _⟩
def Pl.OL(r:Pl.Rt):Bool:=decide (iH r.p=0)&&decide (0<=r.cost/\r.cost<=1048576)&& !(r.here&&decide (0<r.cost))&& !(r.here==decide (0<r.aH.length))
theorem Pl.Em(r:Pl.Rt):dW r=(OL r&&fP r.aH):=by
 unfold dW OL;rw [aai]
 cases hh:r.here
 ·simp [List.length_pos_iff]
 ·simp only [Bool.and_eq_true,ik,if_true,Bool.true_and,Bool.not_eq_true',Ja];constructor
  ·rintro⟨⟨⟨d,c⟩,f,a⟩,b⟩;refine⟨⟨⟨⟨d,c⟩,by omega⟩,?_⟩,b⟩;rw [a];simp
  ·rintro⟨⟨⟨⟨d,c⟩,f⟩,a⟩,b⟩;refine⟨⟨⟨d,c⟩,by omega,?_⟩,b⟩
   cases e:r.aH with
   |nil=>rfl
   |cons z l=>rw [e]at a;simp at a
theorem acP{w w3:xh}{k:Nat}{c0 c1 c2 b a:xx}{T:aas}{o:Obj}(c:rU (w.heap.size+1+k) ((w.alloc (.cells #[c0,c1,c2,b,a] T)).alloc o) w3):
  w3.cell? ⟨w.heap.size,0,none⟩=some c0/\w3.cell? ⟨w.heap.size,1,none⟩=some c1/\w3.cell? ⟨w.heap.size,2,none⟩=some c2/\w3.cell? ⟨w.heap.size,3,none⟩=some b/\w3.cell? ⟨w.heap.size,4,none⟩=some a:=by
 refine⟨?_,?_,?_,?_,?_⟩
 all_goals
  rw [c.cell (show w.heap.size<_ by omega)];simp
theorem Ad{B:Nat}{w w3:xh}{k:Nat}{o a:Obj}(b:rU (w.heap.size+1+k) ((w.alloc o).alloc a) w3)(h:B<=w.heap.size):rU B w w3:=
 (((qh _ _).alloc h _).alloc (by simp;omega) _).trans (b.mono (by omega))
theorem Pl.OJ(c cost:Int)(a here:Bool)(hl:Nat):(decide (c=0)&&a&& !(here&&decide (0<cost))&& !(here==decide (0<hl)))=true↔(c=0/\a=true/\(¬(here=true/\0<cost))/\here= !decide (0<hl)):=by
 generalize decide (0<hl)=x
 cases a<;>cases here<;>cases x<;>simp
theorem qJ(a:Option Addr)(len cap:Nat)(hs:List Pl.RH)(rs:List Pl.Rt)(w:xh)(h:jw w a len cap hs)(N:ReadsAll w hs rs):
  Ah oC 171 #[.slice a len cap] w fun e w'=>e= .returned (.int .i64 (gB rs))/\rU w.heap.size w w':=by
 have HH:=ae h;have HD:=ae N;have CQ:xn (rs.length=len):=ae (by rw [<-N.1];exact h.1);have Jh:xn (hs.length=len):=ae h.1;have hc:=h.2.1;have hm:=h.2.2.1;unfold Ee at hm;clear h N;obtain⟨R,HR⟩:=ai (gB rs);rw [HR.out];by_cases a7:200<len
 ·have HS:xn (R=1):=ae (by rw [<-HR.out];exact CV (by rw [CQ.out];exact a7));go_enter Tryz.func171,Tryz.ntmps171;go_wp2;go_ret;exact⟨aF HS.out.symm,qh _ _⟩
 go_enter Tryz.func171,Tryz.ntmps171;go_wp2;go_loopw [3] (fun i wr=>∃k:Nat,k<=len/\i= .int .i64 k/\xn (R=Pl.tabN rs (len-k) k)/\xn (rU w.heap.size w wr)) (fun i _=>len-(Eb i).toNat)
 case atStart=>exact⟨0,BD _,rfl,ae (by rw [<-HR.out,CW (by rw [CQ.out];omega),CQ.out];rfl),ae (qh _ _)⟩
 case round=>
  obtain⟨k,hk,rfl,HF,HB⟩:=hrel;by_cases P:k<len
  ·obtain⟨b,off,rfl,aR,hr⟩:=HH.out.at P;have hb:=HB.out;have O:=hr.below aR hb;have hz:=hb.size;have a6:b<wr.heap.size:=by omega
   obtain⟨c0,c1,c2,c3,c4⟩:=O k (by rw [Jh.out];exact P);have M:=ae ((HD.out.2 k (by rw [Jh.out];exact P)).below hb);obtain⟨n,hn⟩:∃n,len-k=n+1:=⟨len-k-1,by omega⟩
   have Z:=ae hn;clear hn;obtain⟨hh,HE⟩:=ai (Pl.rh hs k);rw [HE.out]at c0 c1 c2 c3 c4 M;obtain⟨⟨p1,p2⟩,here,cost,ha,hl,aM⟩:=hh;simp only at c0 c1 c2 c3 c4;obtain⟨v,HZ⟩:=ai ((Pl.rt rs k).aH);have Y:xn ((p1,p2)=(Pl.rt rs k).p):=ae M.out.1;have HI:xn (fV wr ha hl aM v):=ae (by rw [<-HZ.out];exact M.out.2.2.2.1);have HP:xn (dJ (p1,p2)):=ae (by rw [Y.out];exact M.out.2.2.2.2);have D:xn (v.length=hl):=ae HI.out.1;have bg:=HI.out.2.1;have aL:=HI.out.2.2.1;unfold Ee at aL;obtain⟨c,HC⟩:=ai (fM [(p1,p2)]);obtain⟨oc,HO⟩:=ai (decide (0<=cost/\cost<=1048576));have E:xn (OL (Pl.rt rs k)=(decide (c=0)&&oc&& !(here&&decide (0<cost))&& !(here==decide (0<hl)))):=by
    refine ae ?_;unfold OL;rw [<-M.out.2.1,<-M.out.2.2.1,HZ.out,D.out,<-Y.out,<-NW,HC.out,HO.out]
   have I:xn (∀(W:xh) (n:Nat),W.heap.size=n->Ah oC 76 #[.slice (some ⟨n,0,none⟩) 1 1] (W.alloc (.cells #[.int .i64 p1,.int .i64 p2] 49)) fun e w'=>e= .returned (.int .i64 c)/\rU (n+1) (W.alloc (.cells #[.int .i64 p1,.int .i64 p2] 49)) w'):=by
    refine ae fun W n hn=> ?_;have:=eX _ _ _ _ _ (yg W n p1 p2 49 HP.out hn);rw [HC.out]at this;simpa [hn]using this
   have aa:xn (∀W,Ah oC 73 #[.int .i64 cost,.int .i64 0,.int .i64 1048576] W fun e w'=>e= .returned (.bool oc)/\w'=W):=by
    refine ae fun W=> ?_;have:=dZ cost 0 1048576 W;rwa [HO.out]at this
   clear hr M;obtain⟨hd,ad⟩:=ai (OL (Pl.rt rs k));have s:xn (hd=false->R=4):=ae fun e=>by
    rw [HF.out,Z.out,CU (by rw [Em,ad.out,e];rfl)]
   rw [ad.out]at E;by_cases g:c=0/\oc=true/\(¬(here=true/\0<cost))/\here= !decide (0<hl)
   ·obtain⟨rfl,rfl,T,S⟩:=g;have lD:xn (hd=true):=ae (by rw [E.out];exact(OJ _ _ _ _ _).2 ⟨rfl,rfl,T,S⟩);have Jf:xn (dW (Pl.rt rs k)=fP v):=ae (by rw [Em,ad.out,lD.out,HZ.out];rfl);have s:xn (fP v=false->R=4):=ae fun e=>by
     rw [HF.out,Z.out,CU (by rw [Jf.out,e])]
    clear E;have g3:(here=true/\¬0<hl)\/(here=false/\0<hl):=by
     rw [S];by_cases q:0<hl<;>simp [q]
    have g4:here=true->¬0<cost:=fun e q=>T ⟨e,q⟩;clear T S;rcases g3 with⟨rfl,g3⟩|⟨rfl,g3⟩
    all_goals (try have bj:=g4 rfl)
    all_goals
     clear g4;go_wp2_with fail;refine(I.out _ _ (by simp)).mono ?_;rintro e L ⟨rfl,l⟩;obtain⟨x0,x1,x2,x3,x4⟩:=acP l;have u:=Ad l (oP _);have G:wr.heap.size<L.heap.size:=by have:=l.size;simp at this;omega
     have K:=ae (hb.trans (u.mono hz));have bc:=ae (HI.out.below u);have a8:=ae (O.below a6 u);have av:b<L.heap.size:=by omega
     obtain⟨B,yL⟩:=ai (wr.heap.size);clear l c0 c1 c2 c3 c4 O;go_wp2_with (go_at_call 73;refine(aa.out _).mono ?_;rintro e L ⟨rfl,rfl⟩);rw [yL.out]at x0 x1 x2 x3 x4 G⊢;clear aa I g3;go_loopw [5] (fun i wq=>∃j:Nat,j<=hl/\i= .int .i64 j/\xn (∀t,t<j->mQ v t=true)/\xn (rU L.heap.size L wq)) (fun i _=>hl-(Eb i).toNat)
     case atStart=>exact⟨0,BD _,rfl,ae (by intro t ht;omega),ae (qh _ _)⟩
     case round=>
      obtain⟨j,hj,rfl,HJ,vV⟩:=hrel;have f:=vV.out;have F:=f.size;have y4:=(f.cell (p:=⟨B,4,none⟩) G).trans x4;have x:B<wr.heap.size:=by omega
      by_cases A:j<hl
      ·obtain⟨b2,aw,rfl,ar,an⟩:=bc.out.at A;have k0:=(f.cell (p:=⟨b2,aw+j,none⟩) ar).trans (an j (by rw [D.out];exact A));obtain⟨z,H⟩:=ai (Pl.nm v j);rw [H.out]at k0;obtain⟨ob,J⟩:=ai (decide (0<=z/\z<=11));have yT:xn (∀W,Ah oC 73 #[.int .i64 z,.int .i64 0,.int .i64 11] W fun e w'=>e= .returned (.bool ob)/\rU W.heap.size W w'):=by
        refine ae fun W=> ?_;have:=dZ z 0 11 W;rw [J.out]at this;exact this.mono fun e w' ⟨h1,h2⟩=>⟨h1,h2▸qh _ _⟩
       have aD:xn (mQ v j=false->fP v=false):=ae fun hh=>Ey (by rw [D.out];exact A) hh;have VX:b2<wr.heap.size:=by omega
       have bk:(j:Int)<(hl:Int):=by omega
       cases ob
       ·have V:xn (mQ v j=false):=ae (by unfold mQ;rw [H.out,J.out];rfl);go_wp2_with fail;have i0:=aC x y4;have i1:=aC VX k0;have r:=dO wr;refine aN (by kernel_rfl) (by kernel_rfl) ?_;repeat (go_big_quiet_step ((go_at_call 73;exact dP (yT.out _))))
        refine Iy ?_;intro w5 d;have o:=eU d;clear d i0 i1 r;go_wp2_with fail;go_ret;exact⟨aF (s.out (aD.out V.out)).symm,(K.out.trans (f.mono K.out.size)).trans (o.mono (OO K.out.size F))⟩
       ·rcases OE j with C|C
        ·have hd:decide (0<j)=false:=by simp;omega
         have ak:xn (mQ v j=true):=ae (by rw [C,uf,<-C,H.out,J.out]);have bb:=ae C;clear C;go_wp2_with fail;have i0:=aC x y4;have i1:=aC VX k0;have r:=dO wr;refine aN (by kernel_rfl) (by kernel_rfl) ?_;repeat (go_big_quiet_step ((go_at_call 73;exact dP (yT.out _))))
         refine Iy ?_;intro w5 d;have o:=eU d;clear d i0 i1 r;go_wp2_with fail;go_roundw
         case rel=>exact⟨j+1,by omega,by go_num,ae fun t ht=>by have:=bb.out;obtain rfl:t=j:=(by omega);exact ak.out,ae (f.trans (o.mono F))⟩
         case measure=>simp [Eb];omega
        ·obtain⟨m,rfl⟩:∃m,j=m+1:=⟨j-1,by omega⟩
         have k1:=(f.cell (p:=⟨b2,aw+m,none⟩) ar).trans (an m (by rw [D.out];omega));obtain⟨y,HY⟩:=ai (Pl.nm v m);rw [HY.out]at k1;have aE:xn (mQ v (m+1)=decide (y<z)):=ae (by rw [pU,H.out,HY.out,J.out];rfl);by_cases hle:z<=y
         ·have V:xn (mQ v (m+1)=false):=ae (by rw [aE.out];simp;omega);go_wp2_with fail;have i0:=aC x y4;have i1:=aC VX k0;have i2:=aC VX k1;have r:=dO wr;refine aN (by kernel_rfl) (by kernel_rfl) ?_;repeat (go_big_quiet_step ((go_at_call 73;exact dP (yT.out _))))
          refine Iy ?_;intro w5 d;have o:=eU d;clear d i0 i1 i2 r;go_wp2_with fail;go_ret;exact⟨aF (s.out (aD.out V.out)).symm,(K.out.trans (f.mono K.out.size)).trans (o.mono (OO K.out.size F))⟩
         ·have ak:xn (mQ v (m+1)=true):=ae (by rw [aE.out];simp;omega);go_wp2_with fail;have i0:=aC x y4;have i1:=aC VX k0;have i2:=aC VX k1;have r:=dO wr;refine aN (by kernel_rfl) (by kernel_rfl) ?_;repeat (go_big_quiet_step ((go_at_call 73;exact dP (yT.out _))))
          refine Iy ?_;intro w5 d;have o:=eU d;clear d i0 i1 i2 r;go_wp2_with fail;go_roundw
          case rel=>exact⟨m+1+1,by omega,by go_num,ae fun t ht=>by rcases OM t (m+1)with q|q;exact HJ.out t q;obtain rfl:t=m+1:=(by omega);exact ak.out,ae (f.trans (o.mono F))⟩
          case measure=>simp [Eb];omega
      ·have aq:j=hl:=by omega
       have X:xn (dW (Pl.rt rs k)=true):=ae (by rw [Jf.out];exact zV (by rw [D.out,<-aq];exact HJ.out));have bd:¬((j:Int)<(hl:Int)):=by omega
       clear aq hj;have XC:=ae (K.out.trans (f.mono K.out.size));have Xq:=XC.out.size;have y0:=(f.cell (p:=⟨B,0,none⟩) G).trans x0;have y1:=(f.cell (p:=⟨B,1,none⟩) G).trans x1;have ay:b<wr.heap.size:=by omega
       rcases OE k with Q|Q
       ·have hd:decide (0<k)=false:=by simp;omega
        have MP:xn (Bv rs k=false):=ae (by rw [Q];exact DI rs);clear Q;go_wp2_with fail;go_quiet (fail);go_wp2_with fail;go_roundw
        case rel=>exact⟨k+1,by omega,by go_num,ae (by rw [HF.out,Z.out,AA X.out MP.out];congr 1;have:=Z.out;omega),ae (aO XC.out _)⟩
        case measure=>simp [Eb];omega
       ·obtain⟨m,rfl⟩:∃m,k=m+1:=⟨k-1,by omega⟩
        obtain⟨d0,d1,_,_,_⟩:=a8.out m (by rw [Jh.out];omega);obtain⟨gg,HG⟩:=ai ((Pl.rh hs m).p);rw [HG.out]at d0 d1;have ba:xn (gg=(Pl.rt rs m).p):=ae (by rw [<-HG.out];exact(HD.out.2 m (by rw [Jh.out];omega)).1);obtain⟨q1,q2⟩:=gg;simp only at d0 d1;have e0:=(f.cell (p:=⟨b,off+m*5,none⟩) av).trans d0;have e1:=(f.cell (p:=⟨b,off+m*5+1,none⟩) av).trans d1;obtain⟨cq,UU⟩:=ai (dw (q1,q2) (p1,p2));have MP:xn (Bv rs (m+1)= !cq):=by
         refine ae ?_;rw [<-UU.out,yt,<-ba.out,<-Y.out]
        have XB:xn (∀W,Ah oC 120 #[.agg #[.int .i64 p1,.int .i64 p2],.agg #[.int .i64 q1,.int .i64 q2]] W fun e w'=>e= .returned (.bool cq)/\rU W.heap.size W w'):=by
         refine ae fun W=> ?_;have:=Ig p1 p2 q1 q2 W;rwa [UU.out]at this
        clear d0 d1
        cases cq
        all_goals
         go_wp2_with fail;have i0:=aC x y0;have i1:=aC x y1;have i2:=aC ay e0;have i3:=aC ay e1;have r:=dO wr;refine aN (by kernel_rfl) (by kernel_rfl) ?_;repeat (go_big_quiet_step ((go_at_call 120;exact dP (XB.out _))))
         refine Iy ?_;intro w5 d;have o:=eU d;clear d i0 i1 i2 i3 r;go_wp2_with fail
        ·go_ret;exact⟨aF (by rw [HF.out,Z.out,Nu X.out MP.out]),XC.out.trans (o.mono Xq)⟩
        ·go_roundw
         case rel=>exact⟨m+1+1,by omega,by go_num,ae (by rw [HF.out,Z.out,AA X.out MP.out];congr 1;have:=Z.out;omega),ae (XC.out.trans (o.mono Xq))⟩
         case measure=>simp [Eb];omega
   ·have HS:xn (R=4):=ae (s.out (by rw [E.out];exact Bool.eq_false_iff.2 fun e=>g ((OJ _ _ _ _ _).1 e)));clear s E;by_cases U:c=0
    ·subst U;by_cases g1:0<cost
     all_goals by_cases g3:0<hl
     all_goals cases oc
     all_goals cases here
     all_goals first|(exfalso;apply g;simp;omega)|skip
     all_goals
      clear g;go_wp2_with fail;refine(I.out _ _ (by simp)).mono ?_;rintro e L ⟨rfl,l⟩;obtain⟨x0,x1,x2,x3,x4⟩:=acP l;have u:=hb.trans (Ad l hz);clear l;go_wp2_with (go_at_call 73;refine(aa.out _).mono ?_;rintro e w' ⟨rfl,rfl⟩);go_ret;exact⟨aF HS.out.symm,u⟩
    ·have bh:(c != 0)=true:=by simpa using U
     clear g U;go_wp2_with fail;refine(I.out _ _ (by simp)).mono ?_;rintro e L ⟨rfl,l⟩;have u:=hb.trans (Ad l hz);clear l;go_wp2_with fail;go_ret;exact⟨aF HS.out.symm,u⟩
  ·obtain rfl:k=len:=by omega
   go_wp2;go_ret;exact⟨aF (by rw [HF.out];simp [Pl.tabN]),HB.out⟩
theorem Pl.Q8{xs a:List Int}(hl:xs.length=a.length)(h:∀t,t<xs.length->Pl.nm xs t=Pl.nm a t):xs=a:=by
 refine List.ext_getElem hl fun i b c=> ?_;have:=h i b;rwa [vH xs i b,vH a i c]at this
theorem Tz(a b:Option Addr)(d l I H:Nat)(xs g:List Int)(w:xh)(r:fV w a d I xs)(o:fV w b l H g):
  Ah oC 43 #[.slice a d I,.slice b l H] w fun e w'=>e= .returned (.bool (decide (xs=g)))/\rU w.heap.size w w':=by
 have V:=ae r;have F:=ae o;have u:xn (xs.length=d):=ae r.1;have h:xn (g.length=l):=ae o.1;have S:=r.2.1;have B:=r.2.2.1;have Q:=o.2.1;have A:=o.2.2.1;unfold Ee at B A;clear r o;obtain⟨R,v⟩:=ai (decide (xs=g));rw [v.out];by_cases hlen:d=l
 ·subst hlen;have z:((d:Int) != (d:Int))=false:=by simp
  go_enter Tryz.func43,Tryz.ntmps43;go_wp2_with fail;go_loopw [13] (fun i wr=>∃k:Nat,k<=d/\i= .int .i64 k/\xn (∀t,t<k->Pl.nm xs t=Pl.nm g t)/\xn (rU w.heap.size w wr)) (fun i _=>d-(Eb i).toNat)
  case atStart=>exact⟨0,BD _,rfl,ae (by intro t P;omega),qh _ _⟩
  case round=>
   obtain⟨k,Z,rfl,L,j⟩:=hrel;by_cases f:k<d
   ·obtain⟨g1,O,rfl,D,n⟩:=V.out.at f;obtain⟨g2,N,rfl,C,m⟩:=F.out.at f;have c1:=(j.out.cell (p:=⟨g1,O+k,none⟩) D).trans (n k (by rw [u.out];exact f));have c2:=(j.out.cell (p:=⟨g2,N+k,none⟩) C).trans (m k (by rw [h.out];exact f));clear n m;have Y:=j.out.size;have X:g1<wr.heap.size:=by omega
    have W:g2<wr.heap.size:=by omega
    have G:(k:Int)<(d:Int):=by omega
    obtain⟨T,s⟩:∃c,(Pl.nm xs k != Pl.nm g k)=c:=⟨_,rfl⟩
    have M:=ae s;obtain⟨x,K⟩:=ai (Pl.nm xs k);obtain⟨y,J⟩:=ai (Pl.nm g k);rw [K.out]at c1;rw [J.out]at c2;rw [K.out,J.out]at s
    cases T
    ·go_wp2_with fail;go_quiet (fail);go_wp2_with fail;go_roundw
     case rel=>exact⟨k+1,by omega,by go_num,ae fun t P=>by rcases OM t k with q|q;exact L.out t q;obtain rfl:t=k:=(by omega);simpa using M.out,ae (aO j.out _)⟩
     case measure=>simp [Eb];omega
    ·have E:xn (R=false):=ae (by
      rw [<-v.out,Ja];intro e;have:=M.out;rw [e]at this;simp at this)
     go_wp2_with fail;go_quiet (fail);go_wp2_with fail;go_ret;exact⟨bf E.out.symm,aO j.out _⟩
   ·obtain rfl:k=d:=by omega
    have U:xn (R=true):=ae (by
     rw [<-v.out,ik];exact Q8 (by rw [u.out,h.out]) (by rw [u.out];exact L.out))
    go_wp2_with fail;go_ret;exact⟨bf U.out.symm,j.out⟩
 ·have z:((d:Int) != (l:Int))=true:=by simp;omega
  have E:xn (R=false):=ae (by
   rw [<-v.out,Ja];intro e;apply hlen;rw [<-u.out,<-h.out,e])
  clear hlen;go_enter Tryz.func43,Tryz.ntmps43;go_wp2_with fail;go_ret;exact⟨bf E.out.symm,qh _ _⟩
theorem Az{w:xh}{o a:Obj}:rU w.heap.size w ((w.alloc o).alloc a):=((qh _ _).alloc (oP _) _).alloc (by simp) _
theorem XY(g h:Pl.RH)(r s:Pl.Rt)(w:xh)(x:Reads w g r)(v:Reads w h s):
  Ah oC 192 #[.agg #[.int .i64 g.p.1,.int .i64 g.p.2,.bool g.here,.int .i64 g.cost,.slice g.ha g.hl g.hc],.agg #[.int .i64 h.p.1,.int .i64 h.p.2,.bool h.here,.int .i64 h.cost,.slice h.ha h.hl h.hc]] w fun e w'=>e= .returned (.bool (FU r s))/\rU w.heap.size w w':=by
 obtain⟨a1,a2,a3,a4,_⟩:=x;obtain⟨b1,j,b3,b4,_⟩:=v;obtain⟨⟨p1,p2⟩,here,cost,ha,hl,hc⟩:=g;obtain⟨⟨D,C⟩,a,k,m,b,d⟩:=h;simp only at a1 a2 a3 a4 b1 j b3 b4;simp only;obtain⟨R,u⟩:=ai (FU r s);rw [u.out];obtain⟨o,f⟩:=ai (decide (r.aH=s.aH));obtain⟨t,g1⟩:∃c,(here==a)=c:=⟨_,rfl⟩
 obtain⟨q,g2⟩:∃c,(cost==k)=c:=⟨_,rfl⟩
 have l:xn (R=(t&&q&&o)):=ae (by
  rw [<-u.out,<-f.out,<-g1,<-g2];unfold FU;rw [<-a2,<-j,<-a3,<-b3,aai];simp)
 have A:=ae a4;have z:=ae b4;have y:xn (∀W,rU w.heap.size w W->Ah oC 43 #[.slice ha hl hc,.slice m b d] W fun e w'=>e= .returned (.bool o)/\rU W.heap.size W w'):=ae fun W n=>by
  have:=Tz ha m hl b hc d r.aH s.aH W (A.out.below n) (z.out.below n);rwa [f.out]at this
 clear a1 a2 a3 a4 b1 j b3 b4
 cases t
 ·go_enter Tryz.func192,Tryz.ntmps192;go_wp2_with fail;go_ret;exact⟨bf (by rw [l.out];rfl),Az⟩
 ·cases q
  ·go_enter Tryz.func192,Tryz.ntmps192;go_wp2_with fail;go_ret;exact⟨bf (by rw [l.out];rfl),Az⟩
  ·go_enter Tryz.func192,Tryz.ntmps192;go_wp2_with (go_at_call 43;refine(y.out _ Az).mono ?_;rintro e B ⟨rfl,i⟩);go_ret;exact⟨bf (by rw [l.out];rfl),Az.trans (i.mono (by simp;omega))⟩
def Pl.um(a b:List Pl.Rt):Int:=if gB a=0 then gB b else gB a
def Pl.Hl(a b:List Pl.Rt):List Pl.Rt:=if um a b=0 then qN a b else []
def Pl.Hm(a b:List Pl.Rt):List (Int×Int):=if um a b=0 then lu a b else []
theorem Pl.KE(rs:List Pl.Rt)(k:Nat)(h:k<rs.length):rs.take (k+1)=rs.take k++ [Pl.rt rs k]:=by
 rw [aac h,Pl.rt_eq rs k h]
theorem Pl.Vb(a b:List Pl.Rt)(k:Nat)(h:k<b.length):qN a (b.take (k+1))=qN a (b.take k)++(if Eu a (Pl.rt b k)then []else [Pl.rt b k]):=by
 unfold qN;rw [KE b k h,aaE]
 cases c:Eu a (Pl.rt b k)<;>simp [c]
theorem Pl.Ry(a b:List Pl.Rt)(k:Nat)(h:k<a.length):lu (a.take (k+1)) b=lu (a.take k) b++(if bu (b.map Pl.Rt.p) (Pl.rt a k).p then []else [(Pl.rt a k).p]):=by
 unfold lu;rw [KE a k h,aaE,aah]
 cases c:bu (b.map Pl.Rt.p) (Pl.rt a k).p<;>simp [c]
theorem Pl.XV(a b:List Pl.Rt):(qN a b).length<=b.length:=aat _ _
theorem Pl.VZ(a b:List Pl.Rt):(lu a b).length<=a.length:=by
 unfold lu;rw [aaO];exact aat _ _
theorem YT:(Tryz.prog.info? 49).map (fun i=>(i.zero,i.size,i.bytes))=some (some (.agg #[.int .i64 0,.int .i64 0]),2,16):=by kernel_rfl
theorem aaA(a:Option Addr)(u ca:Nat)(q:List Pl.RH)(rs:List Pl.Rt)(b:Option Addr)(L cb:Nat)(gs:List Pl.RH)(f:List Pl.Rt)(w:xh)(h1:jw w a u ca q)(d1:ReadsAll w q rs)(h2:jw w b L cb gs)(d2:ReadsAll w gs f):
  Ah oC 167 #[.slice a u ca,.slice b L cb] w fun e w'=>
   ∃vs vg es,e= .returned (.tuple #[vs,vg,.int .i64 (um rs f)])/\dG w' w.heap.size vs es (Hl rs f)/\aU 49 w' w.heap.size vg (Hm rs f)/\rU w.heap.size w w':=by
 have H1:=ae h1;have D1:=ae d1;have H2:=ae h2;have D2:=ae d2;have I:xn (q.length=u):=ae h1.1;have a6:xn (gs.length=L):=ae h2.1;have aq:xn (rs.length=u):=ae (by rw [<-d1.1];exact h1.1);have N:xn (f.length=L):=ae (by rw [<-d2.1];exact h2.1);have bE:=h1.2.1;have bd:=h1.2.2.1;have bB:=h2.2.1;have bc:=h2.2.2.1;unfold Ee at bd bc;clear h1 d1 h2 d2;obtain⟨DC,EW⟩:=ai (um rs f);obtain⟨DS,P⟩:=ai (Hl rs f);obtain⟨DG,Q⟩:=ai (Hm rs f);rw [EW.out,P.out,Q.out];obtain⟨c1,Z⟩:=ai (gB rs);obtain⟨c2,K⟩:=ai (gB f);by_cases z:c1=0
 ·subst z;by_cases B:c2=0
  ·subst B;have J:xn (DC=0/\DS=qN rs f/\DG=lu rs f):=ae (by
    have e:um rs f=0:=by unfold um;rw [Z.out,af rfl,K.out]
    rw [<-EW.out,<-P.out,<-Q.out];unfold Hl Hm;rw [e,af rfl,af rfl];exact⟨rfl,rfl,rfl⟩)
   have an:=iD Z.out;have M:=iD K.out;have bx:xn (xN (Pl.hp q)):=ae (by unfold Pl.hp;rw [D1.out.qA];exact an.2.2);have bw:xn (xN (Pl.hp gs)):=ae (by unfold Pl.hp;rw [D2.out.qA];exact M.2.2);have bN:u<=200:=by have:=an.1;rw [aq.out]at this;exact this
   have bL:L<=200:=by have:=M.1;rw [N.out]at this;exact this
   have bj:xn (∀i,i<L->dW (Pl.rt f i)=true):=ae fun i hi=>M.2.1 i (by rw [N.out];exact hi);have bt:xn (rs.map Pl.Rt.p=Pl.hp q):=ae D1.out.qA.symm;have bs:xn (f.map Pl.Rt.p=Pl.hp gs):=ae D2.out.qA.symm;have Ti:xn ((Pl.hp q).length=u):=ae (by rw [sK,I.out]);clear an M;go_enter Tryz.func167,Tryz.ntmps167;go_wp2_with fail;refine(iR _ _ _ q rs _ H1.out D1.out).mono ?_;rw [Z.out];rintro e w1 ⟨rfl,y⟩;go_wp2_with fail;refine(iR _ _ _ gs f _ (H2.out.below y) (D2.out.below y)).mono ?_;rw [K.out];rintro e w2 ⟨rfl,F⟩;have av:=ae (y.trans (F.mono y.size));clear y F;go_wp2_with fail;go_loopw [9,31] (fun v i wr=>∃(k:Nat) (es:List Pl.RH),k<=L/\i= .int .i64 k/\xn (dG wr w.heap.size v es (qN rs (f.take k)))/\xn (rU w.heap.size w wr)) (fun _ i _=>L-(Eb i).toNat)
   case atStart=>exact⟨0,[],BD _,rfl,ae (dG.nil _ _),av⟩
   case round=>
    obtain⟨k,es,hk,rfl,HO,R⟩:=hrel;by_cases o:k<L
    ·obtain⟨bb,off,rfl,bh,hr⟩:=H2.out.at o;have hz:=R.out.size;obtain⟨x0,x1,x2,x3,x4⟩:=hr.below bh R.out k (by rw [a6.out];exact o);have rQ:=ae (D2.out.2 k (by rw [a6.out];exact o));have H:=ae (Vb rs f k (by rw [N.out];exact o));have Za:(Pl.rh gs k).hl<=1000:=by
      have e1:=rQ.out.2.2.2.1.1;have e2:=rq (bj.out k o);omega
     obtain⟨kb,a7⟩:=ai (Eu rs (Pl.rt f k));have Fg:xn (kb=(bu (Pl.hp q) (Pl.rh gs k).p&&FU (Pl.rt rs (Pl.posP (Pl.hp q) (Pl.rh gs k).p)) (Pl.rt f k))):=ae (by
      rw [<-a7.out];unfold Eu;rw [bt.out,rQ.out.1])
     rw [a7.out]at H;obtain⟨r,bm⟩:=ai (Pl.rt f k);rw [bm.out]at rQ H Fg;generalize Pl.rh gs k=hh at*;obtain⟨⟨p1,p2⟩,here,cost,E,Y9,D⟩:=hh;simp only at x0 x1 x2 x3 x4 Za Fg;obtain⟨tt,HT⟩:=ai (bu (Pl.hp q) (p1,p2));have Ed:xn (∀W,rU w.heap.size w W->Ah oC 67 #[.slice a u ca,.agg #[.int .i64 p1,.int .i64 p2]] W fun e w'=>e= .returned (.tuple #[.int .i64 (Pl.posP (Pl.hp q) (p1,p2)),.bool tt])/\rU W.heap.size W w'):=ae fun W Y=>by
      have:=ui a u ca q p1 p2 W (H1.out.below Y) bx.out (by omega);rwa [HT.out]at this
     have iO:xn (tt=true->Pl.posP (Pl.hp q) (p1,p2)<u):=ae fun e=>by
      have:=jQ (by rw [HT.out];exact e:bu (Pl.hp q) (p1,p2)=true);rwa [Ti.out]at this
     rw [HT.out]at Fg;generalize Pl.posP (Pl.hp q) (p1,p2)=A at*;have Qm:xn (∀W,rU w.heap.size w W->Ah oC 69 #[.agg #[.int .i64 p1,.int .i64 p2,.bool here,.int .i64 cost,.slice E Y9 D]] W fun e w'=>∃g:Pl.RH,e= .returned (.agg #[.int .i64 g.p.1,.int .i64 g.p.2,.bool g.here,.int .i64 g.cost,.slice g.ha g.hl g.hc])/\bU w' W.heap.size g r/\rU W.heap.size W w'):=ae fun W Y=>uh ⟨(p1,p2),here,cost,E,Y9,D⟩ r W (rQ.out.below Y) Za;have Ar:xn (es.length<=200):=ae (by
      rw [HO.out.2.1];have e1:=XV rs (f.take k);have e2:=aax k f;omega)
     cases tt
     ·have CG:xn (kb=false):=ae (by rw [Fg.out];rfl);go_wp2_with fail;refine(Ed.out _ (R.out.alloc hz _)).mono ?_;rintro e w3 ⟨rfl,n⟩;obtain⟨⟨X,V,U,T,S⟩,d,m⟩:=vJ (by simpa using n);have l:=ae (R.out.trans (m.mono hz));have vC:=ae (HO.out.below m);clear n x0 x1 x2 x3 x4;go_wp2_with fail;have ad:=dO w3;refine aN (by kernel_rfl) (by kernel_rfl) ?_;repeat (go_big_quiet_step (fail))
      refine Iy ?_;intro w4 C;have c:=eU C;clear C ad;have s:=ae (l.out.trans (c.mono l.out.size));have sV:=ae (vC.out.below c);have z0:=(c.cell (p:=⟨wr.heap.size,0,none⟩) d).trans X;have z1:=(c.cell (p:=⟨wr.heap.size,1,none⟩) d).trans V;have z2:=(c.cell (p:=⟨wr.heap.size,2,none⟩) d).trans U;have z3:=(c.cell (p:=⟨wr.heap.size,3,none⟩) d).trans T;have z4:=(c.cell (p:=⟨wr.heap.size,4,none⟩) d).trans S;clear c X V U T S m;go_wp2_with fail;refine(Qm.out _ s.out).mono ?_;rintro e w6 ⟨g,rfl,Qc,t⟩;have vW:=ae (s.out.trans (t.mono s.out.size));have CO:=ae (sV.out.below t);have ar:=ae (Qc.mono s.out.size);have E8:=vW.out.size;clear Qc t
      go_wp2_with (at_builtin;refine uz rfl (.tmp 53) (.tmp 56) rfl w.heap.size u9 es g rfl CO.out.1 E8 rfl (by have:=Ar.out;omega) ?_;intro v7 w7 Ew JW G;have rV:=ae (CO.out.snoc ar.out Ew JW);have IJ:=ae (vW.out.trans G);clear Ew JW G);go_roundw
      case rel=>exact⟨k+1,es++ [g],by omega,by go_num,ae (by rw [H.out,CG.out];exact rV.out),IJ⟩
      case measure=>simp [Eb];omega
     ·have ak:=iO.out rfl;obtain⟨ba,Vx,rfl,Ro,aa⟩:=H1.out.at ak;obtain⟨s0,s1,s2,s3,s4⟩:=aa A (by rw [I.out];exact ak);have bo:=ae (D1.out.2 A (by rw [I.out];exact ak));generalize Pl.rh q A=ga at*;obtain⟨⟨q1,q2⟩,aM,aL,aE,ay,aD⟩:=ga;simp only at s0 s1 s2 s3 s4;obtain⟨sm,aR⟩:=ai (FU (Pl.rt rs A) r);have uB:xn (kb=sm):=ae (by rw [Fg.out,aR.out];rfl);have bl:xn (∀W,rU w.heap.size w W->Ah oC 192 #[.agg #[.int .i64 q1,.int .i64 q2,.bool aM,.int .i64 aL,.slice aE ay aD],.agg #[.int .i64 p1,.int .i64 p2,.bool here,.int .i64 cost,.slice E Y9 D]] W fun e w'=>e= .returned (.bool sm)/\rU W.heap.size W w'):=ae fun W Y=>by
       have:=XY ⟨(q1,q2),aM,aL,aE,ay,aD⟩ ⟨(p1,p2),here,cost,E,Y9,D⟩ (Pl.rt rs A) r W (bo.out.below Y) (rQ.out.below Y);rwa [aR.out]at this
      have bz:(A:Int)<(u:Int):=by omega
      cases sm
      all_goals
       go_wp2_with fail;refine(Ed.out _ (R.out.alloc hz _)).mono ?_;rintro e w3 ⟨rfl,n⟩;obtain⟨⟨X,V,U,T,S⟩,d,m⟩:=vJ (by simpa using n);have l:=ae (R.out.trans (m.mono hz));have vC:=ae (HO.out.below m);clear n x0 x1 x2 x3 x4;have t0:=(l.out.cell (p:=⟨ba,Vx+A*5,none⟩) Ro).trans s0;have t1:=(l.out.cell (p:=⟨ba,Vx+A*5+1,none⟩) Ro).trans s1;have t2:=(l.out.cell (p:=⟨ba,Vx+A*5+2,none⟩) Ro).trans s2;have t3:=(l.out.cell (p:=⟨ba,Vx+A*5+3,none⟩) Ro).trans s3;have t4:=(l.out.cell (p:=⟨ba,Vx+A*5+4,none⟩) Ro).trans s4;have Zg:ba<w3.heap.size:=by have:=l.out.size;omega
       go_wp2_with fail;have i0:=aC Zg t0;have i1:=aC Zg t1;have i2:=aC Zg t2;have i3:=aC Zg t3;have i4:=aC Zg t4;have j0:=aC d X;have j1:=aC d V;have j2:=aC d U;have j3:=aC d T;have j4:=aC d S;have ad:=dO w3;have bk:=ae (fun x:WO w3=>bl.out x.w (l.out.trans (x.h.mono l.out.size)));refine aN (by kernel_rfl) (by kernel_rfl) ?_;repeat (go_big_quiet_step ((go_at_call 192;exact dP (bk.out _))))
       refine Iy ?_;intro w4 C;have c:=eU C;clear C ad i0 i1 i2 i3 i4 j0 j1 j2 j3 j4 t0 t1 t2 t3 t4 s0 s1 s2 s3 s4
      ·have CG:xn (kb=false):=uB;have s:=ae (l.out.trans (c.mono l.out.size));have sV:=ae (vC.out.below c);have z0:=(c.cell (p:=⟨wr.heap.size,0,none⟩) d).trans X;have z1:=(c.cell (p:=⟨wr.heap.size,1,none⟩) d).trans V;have z2:=(c.cell (p:=⟨wr.heap.size,2,none⟩) d).trans U;have z3:=(c.cell (p:=⟨wr.heap.size,3,none⟩) d).trans T;have z4:=(c.cell (p:=⟨wr.heap.size,4,none⟩) d).trans S;clear c X V U T S m;go_wp2_with fail;refine(Qm.out _ s.out).mono ?_;rintro e w6 ⟨g,rfl,Qc,t⟩;have vW:=ae (s.out.trans (t.mono s.out.size));have CO:=ae (sV.out.below t);have ar:=ae (Qc.mono s.out.size);have E8:=vW.out.size;clear Qc t
       go_wp2_with (at_builtin;refine uz rfl (.tmp 53) (.tmp 56) rfl w.heap.size u9 es g rfl CO.out.1 E8 rfl (by have:=Ar.out;omega) ?_;intro v7 w7 Ew JW G;have rV:=ae (CO.out.snoc ar.out Ew JW);have IJ:=ae (vW.out.trans G);clear Ew JW G);go_roundw
       case rel=>exact⟨k+1,es++ [g],by omega,by go_num,ae (by rw [H.out,CG.out];exact rV.out),IJ⟩
       case measure=>simp [Eb];omega
      ·go_wp2_with fail;go_roundw
       case rel=>exact⟨k+1,es,by omega,by go_num,ae (by rw [H.out,uB.out];simpa using vC.out.below c),ae (l.out.trans (c.mono l.out.size))⟩
       case measure=>simp [Eb];omega
    ·obtain rfl:k=L:=by omega
     have Tc:xn (dG wr w.heap.size u9 es (qN rs f)):=ae (by
      have:=HO.out;rwa [qL (by rw [N.out];exact oP _)]at this)
     clear HO;generalize u9=v9 at*;generalize wr=W9 at*;go_wp2_with fail;go_loopw [14,61] (fun v i wq=>∃k:Nat,k<=u/\i= .int .i64 k/\xn (aU 49 wq W9.heap.size v (lu (rs.take k) f))/\xn (rU W9.heap.size W9 wq)) (fun _ i _=>u-(Eb i).toNat)
     case atStart=>exact⟨0,BD _,rfl,ae (aU.nil _ _ _),ae (qh _ _)⟩
     case round=>
      obtain⟨j,hj,rfl,HP,HQ⟩:=hrel;have XC:=ae (R.out.trans (HQ.out.mono R.out.size));by_cases o:j<u
      ·obtain⟨ba,Vx,rfl,Ro,aa⟩:=H1.out.at o;have hz:=XC.out.size;have Xq:=HQ.out.size;obtain⟨x0,x1,x2,x3,x4⟩:=aa.below Ro XC.out j (by rw [I.out];exact o);have rQ:=ae (D1.out.2 j (by rw [I.out];exact o));have H:=ae (Ry rs f j (by rw [aq.out];exact o));have Ar:xn ((lu (rs.take j) f).length<=200):=ae (by
        have e1:=VZ (rs.take j) f;have e2:=aax j rs;omega)
       rw [bs.out,<-rQ.out.1]at H;generalize Pl.rh q j=hh at*;obtain⟨⟨p1,p2⟩,here,cost,E,Y9,D⟩:=hh;simp only at x0 x1 x2 x3 x4 H;obtain⟨tt,HT⟩:=ai (bu (Pl.hp gs) (p1,p2));rw [HT.out]at H;have Ed:xn (∀W,rU w.heap.size w W->Ah oC 67 #[.slice b k cb,.agg #[.int .i64 p1,.int .i64 p2]] W fun e w'=>e= .returned (.tuple #[.int .i64 (Pl.posP (Pl.hp gs) (p1,p2)),.bool tt])/\rU W.heap.size W w'):=ae fun W Y=>by
        have:=ui b k cb gs p1 p2 W (H2.out.below Y) bw.out (by omega);rwa [HT.out]at this
       generalize Pl.posP (Pl.hp gs) (p1,p2)=A at*
       cases tt
       ·go_wp2_with fail;refine(Ed.out _ (XC.out.alloc hz _)).mono ?_;rintro e w3 ⟨rfl,n⟩;obtain⟨⟨X,V,U,T,S⟩,d,m⟩:=vJ (by simpa using n);have O:=ae (HQ.out.trans (m.mono Xq));have Ea:=ae (HP.out.below m);have a8:=O.out.size;clear n x0 x1 x2 x3 x4;go_wp2_with (at_builtin;refine dM Z5 YT rfl (.tmp 74) (.tmp 77) rfl W9.heap.size u14 (lu (rs.take j) f) (p1,p2) rfl Ea.out a8 rfl (by have:=Ar.out;omega) ?_;intro v5 w5 iW aw _;have br:=ae iW;have bp:=ae (O.out.trans aw);clear iW aw);go_roundw
        case rel=>exact⟨j+1,by omega,by go_num,ae (by rw [H.out];exact br.out),bp⟩
        case measure=>simp [Eb];omega
       ·go_wp2_with fail;refine(Ed.out _ (XC.out.alloc hz _)).mono ?_;rintro e w3 ⟨rfl,n⟩;obtain⟨⟨X,V,U,T,S⟩,d,m⟩:=vJ (by simpa using n);have O:=ae (HQ.out.trans (m.mono Xq));have Ea:=ae (HP.out.below m);clear n x0 x1 x2 x3 x4;go_wp2_with fail;go_roundw
        case rel=>exact⟨j+1,by omega,by go_num,ae (by rw [H.out];simpa using Ea.out),O⟩
        case measure=>simp [Eb];omega
      ·have bq:xn (aU 49 wr W9.heap.size u14 (lu rs f)):=ae (by
        have:=HP.out;rwa [qL (by rw [aq.out];omega)]at this)
       have bA:¬((j:Int)<(u:Int)):=by omega
       go_wp2_with fail;go_ret3;exact⟨_,_,by rw [J.out.1];rfl,⟨es,by rw [J.out.2.1];exact Tc.out.below HQ.out⟩,by rw [J.out.2.2];exact bq.out.mono R.out.size,XC.out⟩
  ·have J:xn (DC=c2/\DS= []/\DG= []):=ae (by
    have e:um rs f=c2:=by unfold um;rw [Z.out,af rfl,K.out]
    rw [<-EW.out,<-P.out,<-Q.out];unfold Hl Hm;rw [e,ag B,ag B];exact⟨rfl,rfl,rfl⟩)
   have bg:(c2 != 0)=true:=by simpa using B
   clear B;go_enter Tryz.func167,Tryz.ntmps167;go_wp2_with fail;refine(iR _ _ _ q rs _ H1.out D1.out).mono ?_;rw [Z.out];rintro e w1 ⟨rfl,y⟩;go_wp2_with fail;refine(iR _ _ _ gs f _ (H2.out.below y) (D2.out.below y)).mono ?_;rw [K.out];rintro e w2 ⟨rfl,F⟩;have av:=ae (y.trans (F.mono y.size));clear y F;go_wp2_with fail;go_ret3;exact⟨_,_,[],by rw [J.out.1];rfl,by rw [J.out.2.1];exact dG.nil _ _,by rw [J.out.2.2];exact aU.nil _ _ _,av.out⟩
 ·have J:xn (DC=c1/\DS= []/\DG= []):=ae (by
   have e:um rs f=c1:=by unfold um;rw [Z.out,ag z]
   rw [<-EW.out,<-P.out,<-Q.out];unfold Hl Hm;rw [e,ag z,ag z];exact⟨rfl,rfl,rfl⟩)
  have bg:(c1 != 0)=true:=by simpa using z
  clear z;go_enter Tryz.func167,Tryz.ntmps167;go_wp2_with fail;refine(iR _ _ _ q rs _ H1.out D1.out).mono ?_;rw [Z.out];rintro e w1 ⟨rfl,y⟩;go_wp2_with fail;go_ret3;exact⟨_,_,[],by rw [J.out.1];rfl,by rw [J.out.2.1];exact dG.nil _ _,by rw [J.out.2.2];exact aU.nil _ _ _,y⟩
def laid(L:List xx)(o:Nat)(cs:List xx):List xx:=L.take o++cs++L.drop (o+cs.length)
theorem tY(L:List xx)(o:Nat)(cs:List xx)(h:o+cs.length<=L.length):(laid L o cs).length=L.length:=by simp [laid];omega
theorem JD(w:xh)(ty:aas)(g o b h:Nat)(l:Addr)(a c:Nat)(L cs:List xx)(q:w.heap[g]? =some (.cells L.toArray 80 (0,0)))(p:cs.length=aaK a b*5)
  (e:∀j v,cs[j]? =some v->w.cell? (l.add j)=some v)(f:o+cs.length<=L.length)(r:∀v∈cs,v.oneCell'=true):
  (aaM #[30,30] ty #[.slice (some ⟨g,o,none⟩) b h,.slice (some l) a c]).run oC w= .ok (goInt (aaK a b)) (w.setRow g (laid L o cs).toArray):=by
 obtain⟨i0,k,n,i,m⟩:=partsOf tZ;have hl:=run_loadCells_list (P:=oC) w l cs e;have d:=aaj oC g o 80 cs 0 L.toArray w q (by simpa using f) r;simp only [UQ]at d;simp [aaM,aap Jj,Builtin.lenOf,aau,sizeOf,typeInfo,k,i,<-p,hl,d,laid]
theorem aI.row(w:xh)(g:Nat)(cs:Array xx):aI g w (w.setRow g cs):=⟨rfl,rfl,rfl,by simp [World.setRow],fun k _ a=>setRow_other w g k cs a⟩
theorem Aw{w:xh}{ops:Array Oper}{rest:List Oper}{o:Oper}{a:Act}{Q:Exit->Act->xh->Prop}(m:o.guard=none)(d s:aab)
  (t:o.op= .call {callee:= .builtin .copy,args:=#[d,s],argTypes:=#[30,30]})
  (g off c f:Nat)(n:Addr)(b e:Nat)(x:a.eval d= .slice (some ⟨g,off,none⟩) c f)(r:a.eval s= .slice (some n) b e)(L cs:List xx)(p:w.heap[g]? =some (.cells L.toArray 80 (0,0)))(u:cs.length=aaK b c*5)
  (i:∀j v,cs[j]? =some v->w.cell? (n.add j)=some v)(l:off+cs.length<=L.length)(y:∀v∈cs,v.oneCell'=true)
  (h:∀w' q,w'.heap[g]? =some (.cells (laid L off cs).toArray 80 (0,0))->aI g w w'->wpList oC ops Q rest (a.put o.dst q) w'):wpList oC ops Q (o::rest) a w:=by
 refine aaG m fun K hK=> ?_;have k:=JD w o.type g off c f n b e L cs p u i l y;unfold BG;simp [execOp,t,resolve,invoke,builtin,x,r,k,PW];exact hK _ _ (h _ _ (Zf w g _ _ _ _ p) (aI.row w g _))
theorem FH{w:xh}{ops:Array Oper}{o:Oper}{a:Act}{K:Act->xh->Prop}{Q:Exit->Act->xh->Prop}{E:Prop}(m:o.guard=none)(d s:aab)
  (t:o.op= .call {callee:= .builtin .copy,args:=#[d,s],argTypes:=#[30,30]})
  (g off c f:Nat)(n:Addr)(b e:Nat)(x:a.eval d= .slice (some ⟨g,off,none⟩) c f)(r:a.eval s= .slice (some n) b e)(L cs:List xx)(p:w.heap[g]? =some (.cells L.toArray 80 (0,0)))(u:cs.length=aaK b c*5)
  (i:∀j v,cs[j]? =some v->w.cell? (n.add j)=some v)(l:off+cs.length<=L.length)(y:∀v∈cs,v.oneCell'=true)
  (h:∀w' q,w'.heap[g]? =some (.cells (laid L off cs).toArray 80 (0,0))->aI g w w'->K (a.put o.dst q) w'):if Jk o (yielded ops a.tmps)=true then BG oC o a w K Q else E:=by
 have hw:Jk o (yielded ops a.tmps)=true:=by simp [Jk,m]
 rw [af hw];have k:=JD w o.type g off c f n b e L cs p u i l y;unfold BG;simp [execOp,t,resolve,invoke,builtin,x,r,k,PW];exact h _ _ (Zf w g _ _ _ _ p) (aI.row w g _)
theorem aI.grown{g:Nat}{w w':xh}(h:aI g w w'):w.grownBy w' (some g):=⟨h.os,h.tape,h.output,h.size,fun k b a=>h.block k b (by intro e;exact a (by rw [e]))⟩
theorem fQ{row:Option Nat}{w w':xh}(h:rU w.heap.size w w'):w.grownBy w' row:=⟨h.os,h.tape,h.output,h.size,fun k a _=>h.block k a⟩
theorem eu{row:Option Nat}{a b c:xh}(h:a.grownBy b row)(k:b.grownBy c row):a.grownBy c row:=
 ⟨k.os.trans h.os,k.tape.trans h.tape,k.output.trans h.output,OO h.size k.size,fun i e d=>(k.block i (Tn e h.size) d).trans (h.block i e d)⟩
theorem F9{w:xh}{base g n cap:Nat}{L:List xx}{a:List Pl.RH}(f:base<=g)(e:w.heap[g]? =some (.cells L.toArray 80 (0,0)))(d:a.length=n)(hc:n<=cap)(hm:cap<=Ee)(b:L.length=cap*5)(c:L.take (n*5)=cellsR a):fF w base (.slice (some ⟨g,0,none⟩) n cap) a:=by
 subst d;exact⟨dA a,.inr ⟨g,cap,L.toArray,rfl,f,e,hc,hm,by simpa using b,by simpa using c⟩⟩
theorem fF.row{w:xh}{base:Nat}{v:xx}{a:List Pl.RH}(h:fF w base v a)(d:0<a.length):
  ∃g cap L,v= .slice (some ⟨g,0,none⟩) a.length cap/\base<=g/\w.heap[g]? =some (.cells (abt L) 80 (0,0))/\a.length<=cap/\cap<=Ee/\L.length=cap*5/\L.take (a.length*5)=cellsR a:=by
 obtain⟨_,h|⟨g,cap,cur,rfl,f,hh,e,hm,b,c⟩⟩:=h
 ·omega
 ·exact⟨g,cap,cur.toList,rfl,f,by simpa using hh,e,hm,by simpa using b,c⟩
theorem wJ{w:xh}{g:Nat}{L:List xx}{T:aas}(a:w.heap[g]? =some (.cells L.toArray T (0,0))){j:Nat}{u:xx}(h:L[j]? =some u):w.cell? ⟨g,j,none⟩=some u:=by
 simp [abr,a,h]
theorem Q7(L A B X:List xx)(n i:Nat)(j:A.length=i*5)(g:B.length=(n-i)*5)(e:X.length=5)(d:i<n)(f:(n+1)*5<=L.length)(h:L.take (n*5)=A++B):
  (laid (laid L ((i+1)*5) B) (i*5) X).take ((n+1)*5)=A++(X++B):=by
 have a:L.take (i*5)=A:=by
  have:L.take (i*5)=(L.take (n*5)).take (i*5):=by rw [Qe];congr 1;omega
  rw [this,h,xk (by omega),qL (by omega)]
 have c:(laid L ((i+1)*5) B).take (i*5)=A:=by
  unfold laid;rw [Qi,xk (by simp;omega),Qe,show min (i*5) ((i+1)*5)=i*5 by omega,a]
 have b:(laid L ((i+1)*5) B).drop (i*5+X.length)=B++L.drop ((i+1)*5+B.length):=by
  unfold laid;rw [Qi,show i*5+X.length=(L.take ((i+1)*5)).length by simp;omega,List.drop_left]
 rw [show laid (laid L ((i+1)*5) B) (i*5) X=(laid L ((i+1)*5) B).take (i*5)++X++(laid L ((i+1)*5) B).drop (i*5+X.length)from rfl,c,b];rw [show A++X++(B++L.drop ((i+1)*5+B.length))=(A++(X++B))++L.drop ((i+1)*5+B.length) by simp,xk (by simp;omega),qL (by simp;omega)]
theorem YH(Z A B X:List xx)(n i:Nat)(e:A.length=i*5)(d:B.length=(n-i)*5)(c:X.length=5)(b:i<n):
  (laid (laid (A++Z) (i*5) X) ((i+1)*5) B).take ((n+1)*5)=A++(X++B):=by
 have a:laid (A++Z) (i*5) X=A++X++Z.drop 5:=by
  unfold laid;rw [xk (by omega),qL (by omega),show i*5+X.length=A.length+5 by omega,List.drop_append];simp
 rw [a];unfold laid;rw [show(i+1)*5=(A++X).length by simp;omega,List.take_left,show A++X++B++(A++X++Z.drop 5).drop ((A++X).length+B.length)=(A++(X++B))++(A++X++Z.drop 5).drop ((A++X).length+B.length) by simp,xk (by simp;omega),qL (by simp;omega)]
def jG(x:Pl.RH):Obj:= .cells #[.int .i64 x.p.1,.int .i64 x.p.2,.bool x.here,.int .i64 x.cost,.slice x.ha x.hl x.hc] 80
theorem QP(w:xh)(g o d h:Nat)(L:List xx)(x:Pl.RH)(f:w.heap[g]? =some (.cells L.toArray 80 (0,0)))(i:L.length≠0):
  (callFunc 153 #[.slice (some ⟨w.heap.size,0,none⟩) 1 1,.slice (some ⟨g,o,none⟩) d h]).run oC (w.alloc (jG x))= .ok (.value (.bool false)) (w.alloc (jG x)):=by
 have b:=aG f;have a:(w.alloc (jG x)).heap[w.heap.size]? =some (jG x):=ji w _;have c:(w.alloc (jG x)).heap[g]? =some (.cells L.toArray 80 (0,0)):=by rw [aae _ _ _ b];exact f
 rw [run_callFunc_extern Tryz.func153 (by kernel_rfl) (by kernel_rfl) (by kernel_rfl) (e:=aay #[30,30] #[4]) (by kernel_rfl),
  Lib.run_overlaps_apart (w.alloc (jG x)) 30 4 80 Jj 5 Tryz.sizeOf80 ⟨w.heap.size,0,none⟩ ⟨g,o,none⟩ 1 1 d h (by show w.heap.size≠g;omega) 80 80 5 L.length
   (by simp only [abp,a];rfl) (by simp only [abp,c];simp) i (by simp only [Xc,a];rfl) (by simp only [Xc,a];rfl)]
 rfl
theorem SG(base:Nat)(v:xx)(g:List Pl.RH)(x:Pl.RH)(w:xh)(c:fF w base v g)(f:base<=w.heap.size)(r:g.length<=2000000):
  Ah oC 106 #[v,.int .i64 g.length,.slice (some ⟨w.heap.size,0,none⟩) 1 1] (w.alloc (jG x)) fun e w'=>
   ∃j,e= .returned j/\fF w' base j (g++ [x])/\(w.alloc (jG x)).grownBy w' v.ownBlock/\rU base w w':=by
 have m:=ae c;obtain⟨a,cap,rfl,b,_⟩:=c.rows;have hc:=b.2.1;have hm:=b.2.2.1;have l:=b.2.2.2.1;unfold Ee at hm;clear b c;obtain⟨n,o⟩:=ai (g.length);rw [o.out]at hc r m⊢;have s:xn (jG x= .cells #[.int .i64 x.p.1,.int .i64 x.p.2,.bool x.here,.int .i64 x.cost,.slice x.ha x.hl x.hc] 80):=ae rfl;rw [s.out];obtain⟨row,i⟩:=ai ((aaq a n cap).ownBlock);rw [i.out];go_enter Tryz.func106,Tryz.ntmps106;go_wp2_with (at_builtin;refine uz rfl (.tmp 23) (.tmp 24) rfl base (.slice a n cap) g x rfl m.out f rfl (by rw [o.out];omega) ?_;intro j w' d h k;have q:=ae h;rw [i.out]at q;clear h)
 all_goals
  go_ret;exact⟨_,rfl,d,q.out,k⟩
theorem KA{w:xh}{ops:Array Oper}{rest:List Oper}{o:Oper}{a:Act}{Q:Exit->Act->xh->Prop}(n:o.guard=none)(s x:aab)
  (C:o.op= .call {callee:= .builtin .append,args:=#[s,x],argTypes:=#[30,3]})
  (g i cap k:Nat)(z:a.eval s= .slice (some ⟨g,0,none⟩) i cap)(r:Int)(y:a.eval x= .int .i64 r)(l:r=(k:Int))(A:List xx)(v:A.length=i*5)(d:∀j u,A[j]? =some u->w.cell? ⟨g,j,none⟩=some u)(h0:0<k)(b:cap<i+k)(t:i+k<=3000000)
  (h:∀w' G Z,w'.heap[w.heap.size]? =some (.cells (A++Z).toArray 80 (0,0))->A.length+Z.length=G*5->i+k<=G->G<=Ee->rU w.heap.size w w'->wpList oC ops Q rest (a.put o.dst (.slice (some ⟨w.heap.size,0,none⟩) (i+k) G)) w'):wpList oC ops Q (o::rest) a w:=by
 obtain⟨i0,m,f,e,c⟩:=partsOf tZ;have hold:(aau i0.size i (.slice (some ⟨g,0,none⟩) i cap)).run oC w.drew= .ok A.toArray w.drew:=by
  rw [e];exact run_firstCells_some w.drew 5 i ⟨g,0,none⟩ i cap A v (fun j u D=>by rw [bD,Uz];exact d j u D)
 have B:=Lib.run_append_grow_zeros w 30 3 o.type 80 i0 _ .i64 .i64 Jj Tryz.underlying3 m f (some ⟨g,0,none⟩) i cap A hold k h0 (by omega) b (by omega) (by rw [c];omega) (by rw [c];exact growslice_fits b (by omega));subst l;have p:=grownCap_ge w (i+k) cap 80;have q:=grownCap_le_maxLen w (i+k) cap 80 (by unfold Ee;omega);generalize grownCap w (i+k) cap 80=G at*;refine Lib.wpList_append_run _ n s x _ _ C _ _ z y _ _ B ?_;refine h _ G (IA (Wq #[.int .i64 0,.int .i64 0,.bool false,.int .i64 0,.slice none 0 0]).cells k++IA (Wq #[.int .i64 0,.int .i64 0,.bool false,.int .i64 0,.slice none 0 0]).cells (G-(i+k))).toList ?_ ?_ p q ?_
 ·have:=ji w.drew (.cells (A.toArray++IA (Wq #[.int .i64 0,.int .i64 0,.bool false,.int .i64 0,.slice none 0 0]).cells k++IA (Wq #[.int .i64 0,.int .i64 0,.bool false,.int .i64 0,.slice none 0 0]).cells (G-(i+k))) 80);rw [show w.drew.heap.size=w.heap.size from rfl]at this;rw [this];congr 2
  apply Array.ext';simp
 ·simp [IA,Value.cells,v];omega
 ·exact(qh _ _).drew.alloc (oP _) _
theorem mV(a:List Pl.RH)(i:Nat):cellsR a=cellsR (a.take i)++cellsR (a.drop i):=by rw [<-jo,VB]
theorem H9(w:xh)(x:Pl.RH){j:Nat}{u:xx}(h:(dE x)[j]? =some u):(w.alloc (jG x)).cell? ⟨w.heap.size,j,none⟩=some u:=by
 match j,h with
 |0,h=>simp [dE]at h;subst h;unfold jG;simp
 |1,h=>simp [dE]at h;subst h;unfold jG;simp
 |2,h=>simp [dE]at h;subst h;unfold jG;simp
 |3,h=>simp [dE]at h;subst h;unfold jG;simp
 |4,h=>simp [dE]at h;subst h;unfold jG;simp
 |j+5,h=>simp [dE]at h
theorem PO(base:Nat)(a:List Pl.RH)(i:Nat)(x:Pl.RH)(w:xh)(g cap:Nat)(L:List xx)(hi:i<a.length)(hb:base<=g)(H:w.heap[g]? =some (.cells L.toArray 80 (0,0)))(b:a.length+1<=cap)(hm:cap<=Ee)(hL:L.length=cap*5)(N:L.take (a.length*5)=cellsR a):
  Ah oC 106 #[.slice (some ⟨g,0,none⟩) a.length cap,.int .i64 i,.slice (some ⟨w.heap.size,0,none⟩) 1 1] (w.alloc (jG x)) fun e w'=>
   ∃Y,e= .returned Y/\fF w' base Y (a.take i++x::a.drop i)/\(w.alloc (jG x)).grownBy w' (some g):=by
 have P:=hm;unfold Ee at hm;have l:=aG H;obtain⟨W,z⟩:=aV (w.alloc (jG x));have HG:xn (W.heap[g]? =some (.cells L.toArray 80 (0,0))):=ae (by rw [z.out,aae _ _ _ l];exact H);have D:xn (∀o M R,(callFunc 153 #[.slice (some ⟨w.heap.size,0,none⟩) 1 1,.slice (some ⟨g,o,none⟩) M R]).run oC W= .ok (.value (.bool false)) W):=ae fun o M R=>by
  rw [z.out];exact QP w g o M R L x H (by omega)
 have J:xn (∀j u,(dE x)[j]? =some u->W.cell? ⟨w.heap.size,j,none⟩=some u):=ae fun j u h=>by rw [z.out];exact H9 w x h
 have xJ:xn (W.heap.size=w.heap.size+1):=ae (by rw [z.out];simp);have k:=ae (Q7 L (cellsR (a.take i)) (cellsR (a.drop i)) (dE x) a.length i (by rw [dA];simp;omega) (by rw [dA];simp) rfl hi (by omega) (by rw [N];exact mV a i));have v:xn ((cellsR (a.drop i)).length=(a.length-i)*5):=ae (by rw [dA];simp);have V:xn (∀j u,(cellsR (a.drop i))[j]? =some u->L[i*5+j]? =some u):=ae fun j u d=>by
  have I:(cellsR a)[i*5+j]? =some u:=by
   rw [mV a i,OG (by rw [dA];simp;omega),dA];simpa [show min i a.length=i by omega]using d
  rw [<-N,Pe]at I;split at I
  ·exact I
  ·cases I
 have F:=ae (jO (a.drop i));have nH:xn (∀u∈dE x,u.oneCell'=true):=ae (by have:=jO [x];simpa [cellsR]using this);rw [<-z.out];have c:xn ((a.take i++x::a.drop i).length=a.length+1):=ae (by simp;omega);have y:xn (cellsR (a.take i++x::a.drop i)=cellsR (a.take i)++(dE x++cellsR (a.drop i))):=ae (by rw [jo];rfl);obtain⟨ns,E⟩:=ai (a.take i++x::a.drop i);rw [E.out]at c y⊢;obtain⟨B,Z⟩:=ai (cellsR (a.drop i));rw [Z.out]at k v V F y;obtain⟨A,G⟩:=ai (cellsR (a.take i));rw [G.out]at k y;obtain⟨X,f⟩:=ai (dE x);have S:xn (X.length=5):=ae (by rw [<-f.out];rfl);rw [f.out]at k J nH y;obtain⟨t,C⟩:=ai (w.heap.size);rw [C.out]at D J l⊢;clear H N Z G f E;obtain⟨n,HN⟩:=ai (a.length);rw [HN.out]at hi b k v c⊢
 have Q:¬((i:Int)=(n:Int)):=by omega
 have aD:(i:Int)<=(n:Int):=by omega
 have ay:¬(cap=i):=by omega
 have aw:¬(cap=i+1):=by omega
 have ar:¬((cap:Int)<(n:Int)+1):=by omega
 have av:((i:Int)==(n:Int))=false:=by simpa using Q
 have aq:IntKind.i64.wrap ((n:Int)+1)=(n:Int)+1:=by rw [Rq];omega
 have an:IntKind.i64.wrap ((i:Int)+1)=(i:Int)+1:=by rw [Rq];omega
 have O:=D.out;go_enter Tryz.func106,Tryz.ntmps106;go_wp2_with (simp only [O]);have ak:((i:Int)+1).toNat=i+1:=by omega
 have ad:(0:Int)<=(i:Int)+1:=by omega
 have aa:(i:Int)<=(n:Int)+1:=by omega
 have K:xn ((laid L ((i+1)*5) B).length=cap*5):=ae (by rw [tY _ _ _ (by rw [v.out];omega),hL]);go_region_law (refine FH rfl (.tmp 73) (.tmp 76) rfl g ((i+1)*5) (n-i) (cap-(i+1)) ⟨g,i*5,none⟩ (n+1-i) (cap-i) (by simp [LM,Rz]) (by simp [LM,Rz]) L B HG.out (by rw [v.out];congr 1;simp only [aaf];split<;>omega) (fun j u d=>by rw [bD];exact wJ HG.out (V.out j u d)) (by rw [v.out];omega) F.out ?_;intro w1 v1 q s;have PU:=ae q;have PX:=ae s;clear q s)
 all_goals
  have SI:xn (∀j u,X[j]? =some u->w1.cell? ⟨t,j,none⟩=some u):=ae fun j u d=>(PX.out.cell (p:=⟨t,j,none⟩) (by show t<W.heap.size;rw [xJ.out,C.out];omega) (by show t≠g;omega)).trans (J.out j u d);go_wp2_with (refine Aw rfl (.tmp 80) (.tmp 81) rfl g (i*5) (n+1-i) (cap-i) ⟨t,0,none⟩ 1 1 rfl rfl (laid L ((i+1)*5) B) X PU.out (by rw [S.out];simp only [aaf];split<;>omega) (fun j u d=>by rw [bD,Uz];exact SI.out j u d) (by rw [S.out,K.out];omega) nH.out ?_;intro w2 v2 m r;have T:=ae m;have U:=ae r;clear m r);go_ret;refine⟨_,rfl,F9 hb T.out c.out b P ?_ ?_,?_⟩
  ·rw [tY _ _ _ (by rw [S.out,K.out];omega),K.out]
  ·rw [k.out,y.out]
  ·exact((((aI.refl g W).drawn 1).trans PX.out).trans U.out).grown
theorem PQ(base:Nat)(a:List Pl.RH)(i:Nat)(x:Pl.RH)(w:xh)(g cap:Nat)(L:List xx)(hi:i<a.length)(k:base<=w.heap.size)(hg:w.heap[g]? =some (.cells L.toArray 80 (0,0)))(E:a.length<=cap)(f:cap<a.length+1)(F:a.length<=2000000)(hx:L.take (a.length*5)=cellsR a):
  Ah oC 106 #[.slice (some ⟨g,0,none⟩) a.length cap,.int .i64 i,.slice (some ⟨w.heap.size,0,none⟩) 1 1] (w.alloc (jG x)) fun e w'=>
   ∃v',e= .returned v'/\fF w' base v' (a.take i++x::a.drop i)/\(w.alloc (jG x)).grownBy w' (some g):=by
 have y:=aG hg;obtain⟨W,V⟩:=aV (w.alloc (jG x));have HG:xn (W.heap[g]? =some (.cells L.toArray 80 (0,0))):=ae (by rw [V.out,aae _ _ _ y];exact hg);have Y:xn (∀j u,(dE x)[j]? =some u->W.cell? ⟨w.heap.size,j,none⟩=some u):=ae fun j u h=>by rw [V.out];exact H9 w x h
 have s:xn (W.heap.size=w.heap.size+1):=ae (by rw [V.out];simp);have t:xn (∀Z,(laid (laid (cellsR (a.take i)++Z) (i*5) (dE x)) ((i+1)*5) (cellsR (a.drop i))).take ((a.length+1)*5)=cellsR (a.take i)++(dE x++cellsR (a.drop i))):=ae fun Z=>YH Z (cellsR (a.take i)) (cellsR (a.drop i)) (dE x) a.length i (by rw [dA];simp;omega) (by rw [dA];simp) rfl hi;have M:xn ((cellsR (a.drop i)).length=(a.length-i)*5):=ae (by rw [dA];simp);have S:xn ((cellsR (a.take i)).length=i*5):=ae (by rw [dA];simp;omega);have vU:xn (∀j u,(cellsR (a.drop i))[j]? =some u->L[i*5+j]? =some u):=ae fun j u b=>by
  have d:(cellsR a)[i*5+j]? =some u:=by
   rw [mV a i,OG (by rw [dA];simp;omega),dA];simpa [show min i a.length=i by omega]using b
  rw [<-hx,Pe]at d;split at d
  ·exact d
  ·cases d
 have R:xn (∀j u,(cellsR (a.take i))[j]? =some u->L[j]? =some u):=ae fun j u b=>by
  have h0:j<(cellsR (a.take i)).length:=(List.getElem?_eq_some_iff.1 b).1;have d:(cellsR a)[j]? =some u:=by
   rw [mV a i,List.getElem?_append_left h0];exact b
  rw [<-hx,Pe]at d;split at d
  ·exact d
  ·cases d
 have Q:=ae (jO (a.drop i));have nH:xn (∀u∈dE x,u.oneCell'=true):=ae (by have:=jO [x];simpa [cellsR]using this);rw [<-V.out];have c:xn ((a.take i++x::a.drop i).length=a.length+1):=ae (by simp;omega);have O:xn (cellsR (a.take i++x::a.drop i)=cellsR (a.take i)++(dE x++cellsR (a.drop i))):=ae (by rw [jo];rfl);obtain⟨ns,P⟩:=ai (a.take i++x::a.drop i);rw [P.out]at c O⊢;obtain⟨B,sU⟩:=ai (cellsR (a.drop i));rw [sU.out]at t M vU Q O;obtain⟨A,T⟩:=ai (cellsR (a.take i));rw [T.out]at t O S R;obtain⟨X,o⟩:=ai (dE x);have Z7:xn (X.length=5):=ae (by rw [<-o.out];rfl);rw [o.out]at t Y nH O;obtain⟨U,ad⟩:=ai (w.heap.size);rw [ad.out]at Y y s k⊢;clear hg hx sU T o P;obtain⟨n,HN⟩:=ai (a.length);rw [HN.out]at hi f E F t M c⊢
 have aa:¬((i:Int)=(n:Int)):=by omega
 have a8:(i:Int)<=(n:Int):=by omega
 have a7:¬(cap=i):=by omega
 have aR:(cap:Int)<(n:Int)+1:=by omega
 have a6:((i:Int)==(n:Int))=false:=by simpa using aa
 have aM:IntKind.i64.wrap ((n:Int)+1)=(n:Int)+1:=by rw [Rq];omega
 have aL:IntKind.i64.wrap ((i:Int)+1)=(i:Int)+1:=by rw [Rq];omega
 have aw:(n:Int)+1-(i:Int)=((n+1-i:Nat):Int):=by omega
 go_enter Tryz.func106,Tryz.ntmps106;go_wp2_with (first
  |(at_builtin;refine KA rfl (.tmp 34) (.tmp 39) rfl g i cap (n+1-i) rfl _ rfl rfl A S.out (fun j u b=>wJ HG.out (R.out j u b)) (by omega) (by omega) (by omega) ?_;intro w1 G Z D v K J l;rw [show i+(n+1-i)=n+1 by omega]at K⊢;have PU:=ae D;have m:=ae v;have ak:=ae J;have N:=ae l;have SI:xn (∀j u,X[j]? =some u->w1.cell? ⟨U,j,none⟩=some u):=ae (fun j u b=>(l.cell (p:=⟨U,j,none⟩) (by show U<W.heap.size;rw [s.out];omega)).trans (Y.out j u b));have ba:¬G=i:=(by omega);have bb:¬G=i+1:=(by omega);clear D v J l)
  |(refine Aw rfl (.tmp 43) (.tmp 44) rfl W.heap.size (i*5) (n+1-i) (G-i) ⟨U,0,none⟩ 1 1 rfl rfl (A++Z) X PU.out (by rw [Z7.out];simp only [aaf];split<;>omega) (fun j u b=>by rw [bD,Uz];exact SI.out j u b) (by rw [Z7.out,Tf,m.out];omega) nH.out ?_;intro w2 v2 C I;have ar:=ae C;have r:=ae I;clear C I))
 have aE:((i:Int)+1).toNat=i+1:=by omega
 have aD:(0:Int)<=(i:Int)+1:=by omega
 have ay:(i:Int)<=(n:Int):=by omega
 have q:xn ((laid (A++Z) (i*5) X).length=G*5):=ae (by rw [tY _ _ _ (by rw [Z7.out,Tf,m.out];omega),Tf,m.out]);have an:xn (w2.heap[g]? =some (.cells L.toArray 80 (0,0))):=ae (by
  have e1:=r.out.block g (by have:=N.out.size;rw [s.out]at this;omega) (by rw [s.out];omega);have e2:=N.out.block g (by rw [s.out];omega);rw [e1,e2];exact HG.out)
 go_region_law (refine FH rfl (.tmp 50) (.tmp 53) rfl W.heap.size ((i+1)*5) (n-i) (G-(i+1)) ⟨g,i*5,none⟩ (n-i) (cap-i) (by simp [LM,Rz]) (by simp [LM,Rz]) (laid (A++Z) (i*5) X) B ar.out (by rw [M.out];congr 1;simp only [aaf];split<;>omega) (fun j u b=>by rw [bD];exact wJ an.out (vU.out j u b)) (by rw [M.out,q.out];omega) Q.out ?_;intro w3 v3 z H;have aq:=ae z;have av:=ae H;clear z H)
 all_goals
  go_wp2_with fail;go_ret;refine⟨_,rfl,F9 (by rw [s.out];omega) aq.out c.out K ak.out ?_ ?_,?_⟩
  ·rw [tY _ _ _ (by rw [M.out,q.out];omega),q.out]
  ·rw [t.out,O.out]
  ·refine fQ ?_;exact(N.out.trans (r.out.below (oP _) N.out.size)).trans (((((aI.refl W.heap.size w2).drawn 1).trans av.out)).below (oP _) (OO N.out.size r.out.size))
theorem Iu(base:Nat)(v:xx)(a:List Pl.RH)(i:Nat)(x:Pl.RH)(w:xh)(c:fF w base v a)(b:base<=w.heap.size)(l:a.length<=2000000)(r:i<=a.length):
  Ah oC 106 #[v,.int .i64 i,.slice (some ⟨w.heap.size,0,none⟩) 1 1] (w.alloc (jG x)) fun e w'=>
   ∃d,e= .returned d/\fF w' base d (a.take i++x::a.drop i)/\(w.alloc (jG x)).grownBy w' v.ownBlock:=by
 rcases OM i a.length with h|h
 ·obtain⟨g,cap,L,rfl,f,k,m,hm,n,j⟩:=c.row (by omega);rcases OM cap (a.length+1)with hc|hc
  ·exact PQ base a i x w g cap L h b k m hc l j
  ·exact PO base a i x w g cap L h f k hc hm n j
 ·obtain rfl:i=a.length:=by omega
  rw [qL (oP _),List.drop_of_length_le (oP _)];exact(SG base v a x w c b l).mono fun e w' ⟨d,q,p,o,_⟩=>⟨d,q,p,o⟩
theorem fF.head{w:xh}{base g cap:Nat}{a:List Pl.RH}(h:fF w base (.slice (some ⟨g,0,none⟩) a.length cap) a)(i:Nat)(k:i<=a.length):fF w base (.slice (some ⟨g,0,none⟩) i cap) (a.take i):=by
 obtain⟨_,h|⟨l,c,cur,e,f,hh,j,hm,b,d⟩⟩:=h
 ·simp at h
 ·simp only [GX,MJ,Ru,and_true]at e;obtain⟨rfl,_,rfl⟩:=e;have hl:(a.take i).length=i:=by simp;omega
  refine⟨dA _,.inr ⟨g,cap,cur,by rw [hl],f,hh,by omega,hm,b,?_⟩⟩;rw [hl];have:cur.toList.take (i*5)=(cur.toList.take (a.length*5)).take (i*5):=by rw [Qe];congr 1;omega
  rw [this,d,mV a i,xk (by rw [dA,hl];exact oP _),qL (by rw [dA,hl];exact oP _)]
theorem AL{w:xh}{ops:Array Oper}{o:Oper}{a:Act}{K:Act->xh->Prop}{Q:Exit->Act->xh->Prop}{E:Prop}(r:o.guard=none)(s x:aab)
  (C:o.op= .call {callee:= .builtin .append,args:=#[s,x],argTypes:=#[30,30]})
  (base g k cap:Nat)(e:List Pl.RH)(F:e.length=k)(p:a.eval s= .slice (some ⟨g,0,none⟩) k cap)(i:fF w base (.slice (some ⟨g,0,none⟩) k cap) e)(t:Addr)(m c:Nat)(l:List Pl.RH)(B:a.eval x= .slice (some t) m c)(D:l.length=m)
  (d:∀j u,(cellsR l)[j]? =some u->w.cell? (t.add j)=some u)(b:k+m<=cap)
  (h:∀w',fF w' base (.slice (some ⟨g,0,none⟩) (k+m) cap) (e++l)->w.grownBy w' (some g)->K (a.put o.dst (.slice (some ⟨g,0,none⟩) (k+m) cap)) w'):if Jk o (yielded ops a.tmps)=true then BG oC o a w K Q else E:=by
 have hw:Jk o (yielded ops a.tmps)=true:=by simp [Jk,r]
 rw [af hw];subst F;obtain⟨i0,q,A,n,z⟩:=partsOf tZ;obtain⟨w',f,y,v⟩:=abw (P:=oC) w base 30 o.type 80 i0 5 Jj q n g e.length cap (cellsR e) i t m c (cellsR l) (by rw [dA,D]) d (jO _) b;unfold BG;simp [execOp,C,resolve,invoke,builtin,p,B,f,PW];exact h w' (Lj y (by rw [jo])) v
theorem Qy(w:xh)(g o c:Nat)(L:List xx)(f:w.heap[g]? =some (.cells L.toArray 80 (0,0)))(b:o+5<=L.length)(ty:aas):
  (UX #[30] ty #[.slice (some ⟨g,o,none⟩) 1 c]).run oC w= .ok (.tuple #[]) (w.setRow g (laid L o [.int .i64 0,.int .i64 0,.bool false,.int .i64 0,.slice none 0 0]).toArray):=by
 have d:∀w,(zeroValue 80).run oC w= .ok (.agg #[.int .i64 0,.int .i64 0,.bool false,.int .i64 0,.slice none 0 0]) w:=Tryz.zeroValue80;have e:(IA (Wq #[.int .i64 0,.int .i64 0,.bool false,.int .i64 0,.slice none 0 0]).cells 1).toList= [.int .i64 0,.int .i64 0,.bool false,.int .i64 0,.slice none 0 0]:=by kernel_rfl
 have a:=aaj oC g o 80 [.int .i64 0,.int .i64 0,.bool false,.int .i64 0,.slice none 0 0] 0 L.toArray w f (by simpa using b) (by intro v d;simp at d;rcases d with rfl|rfl|rfl|rfl|rfl<;>rfl);simp only [UQ]at a;simp only [UX];simp [aap Jj,d,e,a,laid]
theorem yV{w:xh}{ops:Array Oper}{rest:List Oper}{o:Oper}{a:Act}{Q:Exit->Act->xh->Prop}(m:o.guard=none)(s:aab)
  (x:o.op= .call {callee:= .builtin .clear,args:=#[s],argTypes:=#[30]})
  (base g n cap off c:Nat)(k:a.eval s= .slice (some ⟨g,off,none⟩) 1 c)(b:List Pl.RH)(f:fF w base (.slice (some ⟨g,0,none⟩) n cap) b)(l:b.length=n)(p:off=n*5)(q:n+1<=cap)
  (h:∀w' u,fF w' base (.slice (some ⟨g,0,none⟩) n cap) b->aI g w w'->wpList oC ops Q rest (a.put o.dst u) w'):wpList oC ops Q (o::rest) a w:=by
 subst l;obtain⟨_,h0|⟨z,r,cur,e,y,hh,l,hm,j,v⟩⟩:=f
 ·simp at h0
 ·simp only [GX,MJ,Ru,and_true]at e;obtain⟨rfl,_,rfl⟩:=e;have i:w.heap[g]? =some (.cells cur.toList.toArray 80 (0,0)):=by simpa using hh
  have t:off+5<=cur.toList.length:=by simp;omega
  have d:=Qy w g off c cur.toList i t o.type;refine aaG m fun K hK=> ?_;unfold BG;simp [execOp,x,resolve,invoke,builtin,k,d,PW];refine hK _ _ (h _ _ (F9 y (Zf w g _ _ _ _ i) rfl l hm ?_ ?_) (aI.row w g _))
  ·rw [tY _ _ _ (by simpa using t)];simpa using j
  ·unfold laid;rw [Qi,xk (by simp;omega),Qe,show min (b.length*5) off=b.length*5 by omega,v]
theorem TB(base:Nat)(v:xx)(a:List Pl.RH)(i:Nat)(w:xh)(c:fF w base v a)(Y:i<a.length)(o:a.length<=2000000):
  Ah oC 218 #[v,.int .i64 i,.int .i64 ((i:Int)+1)] w fun e w'=>
   ∃G,e= .returned G/\fF w' base G (a.take i++a.drop (i+1))/\w.grownBy w' v.ownBlock:=by
 obtain⟨g,cap,L,rfl,aa,I,A,hm,hL,H⟩:=c.row (by omega);have z:=ae (c.head i (by omega));have Q:=hm;unfold Ee at hm;obtain⟨n,HN⟩:=ai (a.length);have HG:=ae I;have p:xn (∀j u,(cellsR (a.drop (i+1)))[j]? =some u->L[(i+1)*5+j]? =some u):=ae fun j u m=>by
  have r:(cellsR a)[(i+1)*5+j]? =some u:=by
   rw [mV a (i+1),OG (by rw [dA];simp;omega),dA];simpa [show min (i+1) a.length=i+1 by omega]using m
  rw [<-H,Pe]at r;split at r
  ·exact r
  ·cases r
 have y:xn ((a.take i).length=i):=ae (by simp;omega);have k:xn ((a.drop (i+1)).length=a.length-(i+1)):=ae (by simp);have s:xn ((a.take i++a.drop (i+1)).length=a.length-1):=ae (by simp;omega);rw [HN.out]at Y o A k s⊢;obtain⟨T,J⟩:=ai (a.take i);obtain⟨D,K⟩:=ai (a.drop (i+1));rw [J.out]at z y;rw [K.out]at p k;rw [J.out,K.out]at s⊢;clear I H c;have X:(i:Int)<=(n:Int):=by omega
 have W:(i:Int)+1<=(n:Int):=by omega
 have C:¬(n=i):=by omega
 have V:((i:Int)==(i:Int)+1)=false:=by rw [beq_eq_false_iff_ne];omega
 have R:i<=cap:=by omega
 have U:(0:Int)<=(i:Int)+1:=by omega
 have S:((i:Int)+1).toNat=i+1:=by omega
 have B:¬(cap=i):=by omega
 by_cases hc:cap=i+1
 ·obtain rfl:n=i+1:=by omega
  subst hc;have q:xn (D.length=0):=ae (by rw [k.out];omega);clear C B;have P:(i:Int)<=(i:Int)+1:=by omega
  have O:i<=i+1:=by omega
  go_enter Tryz.func218,Tryz.ntmps218;go_wp2_with fail;go_region_law (refine AL rfl (.tmp 22) (.tmp 25) rfl base g i (i+1) T y.out (by simp [LM,Rz]) z.out ⟨g,0,none⟩ 0 0 D (by simp [LM,Rz]) q.out (fun j u m=>by have e:D= []:=List.length_eq_zero_iff.1 q.out;rw [e]at m;simp [cellsR]at m) (by omega) ?_;intro N b f;rw [UQ]at b⊢;have t:=ae b;have F:=ae f;clear b f)
  all_goals
   go_wp2_with (refine yV rfl (.tmp 31) rfl base g i (i+1) (i*5) 1 (by simp [LM]) (T++D) t.out s.out rfl (by omega) ?_;intro M v2 d h;have x:=ae d;have l:=ae h;clear d h);go_ret;exact⟨_,rfl,x.out,eu (eu (fQ ((qh _ _).drew)) F.out) l.out.grown⟩
 ·have E:i+(n-(i+1))=n-1:=by omega
  have Z:¬(cap=n-1):=by omega
  go_enter Tryz.func218,Tryz.ntmps218;go_wp2_with fail;go_region_law (refine AL rfl (.tmp 22) (.tmp 25) rfl base g i cap T y.out (by simp [LM,Rz]) z.out ⟨g,(i+1)*5,none⟩ (n-(i+1)) (cap-(i+1)) D (by simp [LM,Rz]) k.out (fun j u m=>by rw [bD];exact wJ HG.out (p.out j u m)) (by omega) ?_;intro N b f;rw [E]at b⊢;have t:=ae b;have F:=ae f;clear b f)
  all_goals
   go_wp2_with (refine yV rfl (.tmp 31) rfl base g (n-1) cap ((n-1)*5) (cap-(n-1)) (by simp [LM];try omega) (T++D) t.out s.out rfl (by omega) ?_;intro M v2 d h;have x:=ae d;have l:=ae h;clear d h);go_ret;exact⟨_,rfl,x.out,eu (eu (fQ ((qh _ _).drew)) F.out) l.out.grown⟩
def KL(w:xh)(g o:Nat)(x:Pl.RH):xh:=((((w.setCell ⟨g,o,none⟩ (.int .i64 x.p.1)).setCell ⟨g,o+1,none⟩ (.int .i64 x.p.2)).setCell ⟨g,o+2,none⟩ (.bool x.here)).setCell ⟨g,o+3,none⟩ (.int .i64 x.cost)).setCell ⟨g,o+4,none⟩ (.slice x.ha x.hl x.hc)
theorem Hz:∀(a:List Pl.RH) (i:Nat) (x:Pl.RH),cellsR (a.set i x)=(((((cellsR a).set (i*5) (.int .i64 x.p.1)).set (i*5+1) (.int .i64 x.p.2)).set (i*5+2) (.bool x.here)).set (i*5+3) (.int .i64 x.cost)).set (i*5+4) (.slice x.ha x.hl x.hc)
 | [],i,x=>by simp [cellsR]
 |e::r,0,x=>by simp [cellsR,dE]
 |e::r,i+1,x=>by
  rw [List.set_cons_succ,cellsR,Hz r i x,show(i+1)*5=i*5+5 by omega];simp [cellsR,dE]
theorem xA{w:xh}{g o:Nat}{cur:Array xx}{T:aas}{v:xx}(h:w.heap[g]? =some (.cells cur T (0,0))):(w.setCell ⟨g,o,none⟩ v).heap[g]? =some (.cells (cur.setIfInBounds o v) T (0,0)):=by
 rw [setCell_eq_setRow w g o cur T (0,0) v h];exact Zf w g _ _ _ _ h
theorem fF.set{w:xh}{base g cap:Nat}{a:List Pl.RH}(h:fF w base (.slice (some ⟨g,0,none⟩) a.length cap) a)(i:Nat)(x:Pl.RH):fF (KL w g (i*5) x) base (.slice (some ⟨g,0,none⟩) a.length cap) (a.set i x):=by
 obtain⟨_,h|⟨k,c,cur,e,j,hh,f,hm,b,d⟩⟩:=h
 ·simp at h
 ·simp only [GX,MJ,Ru,and_true]at e;obtain⟨rfl,_,rfl⟩:=e;refine⟨by simp [dA],.inr ⟨g,cap,_,by simp,j,xA (xA (xA (xA (xA hh)))),by simpa using f,hm,by simpa using b,?_⟩⟩;simp only [Array.toList_setIfInBounds,List.take_set,aaN];rw [d,Hz]
theorem aI.KL(w:xh)(g o:Nat)(x:Pl.RH):aI g w (KL w g o x):=(((((aI.refl g w).setCell _ _).setCell _ _).setCell _ _).setCell _ _).setCell _ _
theorem fF.opened{w:xh}{base:Nat}{v:xx}{c:List Pl.RH}(h:fF w base v c)(i:0<c.length):
  ∃g cap,v= .slice (some ⟨g,0,none⟩) c.length cap/\base<=g/\g<w.heap.size/\c.length<=cap/\cap<=Ee/\lX w g 0 c/\(∀o,w.frozen? ⟨g,o,none⟩=false):=by
 obtain⟨a,cap,rfl,f,p⟩:=h.rows;obtain⟨b,off,rfl,j,d⟩:=f.at (k:=0) (by omega);obtain⟨g,m,L,e,l,n,_⟩:=h.row i;simp only [GX,MJ,Ru,and_true]at e;obtain⟨⟨rfl,rfl⟩,_⟩:=e;exact⟨b,cap,rfl,l,j,f.2.1,f.2.2.1,d,fun o=>by simp [Xc,n]⟩
theorem Pl.adi(a:List Pl.RH)(i:Nat)(x:Pl.RH)(h:i<a.length):a.set i x=a.take i++x::a.drop (i+1):=List.set_eq_take_append_cons_drop .. |>.trans (by rw [af h])
def Pl.adF(hs:List Pl.RH)(i:Nat)(instead:Bool)(x:Pl.RH):List Pl.RH:=hs.take i++x::hs.drop (if instead then i+1 else i)
theorem abh(base:Nat)(v:xx)(c:List Pl.RH)(x:Pl.RH)(w:xh)(i:fF w base v c)(F:base<=w.heap.size)(has:xN (Pl.hp c))(M:c.length<=2000000):
  Ah oC 194 #[v,.agg #[.int .i64 x.p.1,.int .i64 x.p.2,.bool x.here,.int .i64 x.cost,.slice x.ha x.hl x.hc]] w fun e w'=>
   ∃z,e= .returned z/\fF w' base z (adF c (Pl.posP (Pl.hp c) x.p) (bu (Pl.hp c) x.p) x)/\w.grownBy w' v.ownBlock:=by
 have y:=ae i;obtain⟨⟨p1,p2⟩,here,cost,ha,hl,hc⟩:=x;simp only;obtain⟨A,H⟩:=ai (bu (Pl.hp c) (p1,p2));obtain⟨d,u⟩:=ai (Pl.posP (Pl.hp c) (p1,p2));have Ql:xn (d<=c.length):=ae (by rw [<-u.out];have:=Ba (Pl.hp c) (p1,p2);rwa [sK]at this);have V:xn (A=true->d<c.length):=ae fun e=>by rw [<-u.out];have:=jQ (by rw [H.out];exact e:bu (Pl.hp c) (p1,p2)=true);rwa [sK]at this
 have K:xn (∀W,rU w.heap.size w W->Ah oC 67 #[v,.agg #[.int .i64 p1,.int .i64 p2]] W fun e w'=>e= .returned (.tuple #[.int .i64 d,.bool A])/\rU W.heap.size W w'):=ae fun W Z=>by
  obtain⟨a,cap,rfl,X,_⟩:=(y.out.below Z).rows;have:=ui a c.length cap c p1 p2 W X has M;rwa [H.out,u.out]at this
 rw [H.out,u.out];obtain⟨B,k⟩:=ai (v.ownBlock);rw [k.out];clear i has
 cases A
 ·go_enter Tryz.func194,Tryz.ntmps194;go_wp2_with fail;refine(K.out _ ((qh _ _).alloc (oP _) _)).mono ?_;rintro e s ⟨rfl,h⟩;obtain⟨⟨U,T,S,R,Q⟩,E,b⟩:=vJ (by simpa using h);have G:=ae b;have C:=ae (y.out.below b);have hz:=b.size;clear h b;go_wp2_with fail;refine(Iu base v c d ⟨(p1,p2),here,cost,ha,hl,hc⟩ s C.out (by omega) M Ql.out).mono ?_;rintro e w2 ⟨z,rfl,q,r⟩;have P:=ae q;have J:=ae r;clear q r;go_wp2_with fail;go_ret;refine⟨_,rfl,P.out,?_⟩;have t:=J.out;rw [k.out]at t;exact eu (fQ G.out) (eu (fQ ((qh _ _).alloc (oP _) _)) t)
 ·have j:=V.out rfl;obtain⟨g,cap,rfl,Y,f,D,hm,m,l⟩:=y.out.opened (by omega);unfold Ee at hm;obtain⟨c0,c1,c2,O,N⟩:=m d j;obtain⟨n,I⟩:=ai (c.length);rw [I.out]at K j D⊢;clear m;have L:(d:Int)<(n:Int):=by omega
  go_enter Tryz.func194,Tryz.ntmps194;go_wp2_with fail;refine(K.out _ ((qh _ _).alloc (oP _) _)).mono ?_;rintro e s ⟨rfl,h⟩;obtain⟨⟨U,T,S,R,Q⟩,E,b⟩:=vJ (by simpa using h);have G:=ae b;have C:=ae (y.out.below b);have d0:=(b.cell (p:=⟨g,0+d*5,none⟩) f).trans c0;have d1:=(b.cell (p:=⟨g,0+d*5+1,none⟩) f).trans c1;have d2:=(b.cell (p:=⟨g,0+d*5+2,none⟩) f).trans c2;have d3:=(b.cell (p:=⟨g,0+d*5+3,none⟩) f).trans O;have d4:=(b.cell (p:=⟨g,0+d*5+4,none⟩) f).trans N;have df:∀o,s.frozen? ⟨g,o,none⟩=false:=fun o=>(b.frozen (p:=⟨g,o,none⟩) f).trans (l o);simp only [Uz]at d0 d1 d2 d3 d4;clear h b c0 c1 c2 O N l;go_wp2_with fail;go_ret;refine⟨_,rfl,?_,?_⟩
  ·have:=C.out.set d ⟨(p1,p2),here,cost,ha,hl,hc⟩;rw [adi c d _ (by rw [I.out];exact j),I.out]at this;exact this
  ·have t:B=some g:=k.out.symm;rw [t];exact eu (fQ G.out) (aI.KL s g (d*5) ⟨(p1,p2),here,cost,ha,hl,hc⟩).grown
theorem ReadsAll.take{w:xh}{a:List Pl.RH}{rs:List Pl.Rt}(h:ReadsAll w a rs)(n:Nat):ReadsAll w (a.take n) (rs.take n):=by
 refine⟨by simp [h.1],fun i b=> ?_⟩;simp only [List.length_take]at b;rw [TR a n i (by omega) (by omega)];have:Pl.rt (rs.take n) i=Pl.rt rs i:=by
  have:=h.1;rw [Pl.rt_eq _ _ (by simp;omega),Pl.rt_eq _ _ (by omega)];simp
 rw [this];exact h.2 i (by omega)
theorem ReadsAll.drop{w:xh}{a:List Pl.RH}{rs:List Pl.Rt}(h:ReadsAll w a rs)(n:Nat):ReadsAll w (a.drop n) (rs.drop n):=by
 refine⟨by simp [h.1],fun i b=> ?_⟩;simp only [List.length_drop]at b;rw [TS a n i (by omega)];have:Pl.rt (rs.drop n) i=Pl.rt rs (n+i):=by
  have:=h.1;rw [Pl.rt_eq _ _ (by simp;omega),Pl.rt_eq _ _ (by omega)];simp
 rw [this];exact h.2 (n+i) (by omega)
theorem ReadsAll.append{w:xh}{a gs:List Pl.RH}{rs b:List Pl.Rt}(h:ReadsAll w a rs)(k:ReadsAll w gs b):ReadsAll w (a++gs) (rs++b):=by
 refine⟨by simp [h.1,k.1],fun i c=> ?_⟩;simp only [Tf]at c;rcases OM i a.length with q|q
 ·rw [Di _ _ _ q,Dc _ _ _ (by rw [<-h.1];exact q)];exact h.2 i q
 ·have f:Pl.rh (a++gs) i=Pl.rh gs (i-a.length):=by
   rw [ru _ _ (by simp;omega),ru _ _ (by omega),aao q]
  have e:Pl.rt (rs++b) i=Pl.rt b (i-a.length):=by
   have d:=h.1;have g:=k.1;rw [Pl.rt_eq _ _ (by simp;omega),Pl.rt_eq _ _ (by omega),aao (by omega)];simp [d]
  rw [f,e];exact k.2 _ (by omega)
theorem ReadsAll.one{w:xh}{x:Pl.RH}{r:Pl.Rt}(h:Reads w x r):ReadsAll w [x] [r]:=⟨rfl,fun i a=>by simp at a;subst a;exact h⟩
theorem ReadsAll.lay{w:xh}{a:List Pl.RH}{rs:List Pl.Rt}{x:Pl.RH}{r:Pl.Rt}(h:ReadsAll w a rs)(b:Reads w x r):ReadsAll w (adF a (Pl.posP (Pl.hp a) x.p) (bu (Pl.hp a) x.p) x) (Pl.insR rs r):=by
 rw [<-Gt];have e:Pl.hp a=rs.map Pl.Rt.p:=h.qA;rw [e,b.1];unfold adF Ou;exact(h.take _).append ((ReadsAll.one b).append (h.drop _))
theorem ReadsAll.del{w:xh}{a:List Pl.RH}{rs:List Pl.Rt}{p:Int×Int}(h:ReadsAll w a rs)(b:bu (Pl.hp a) p=true):ReadsAll w (a.take (Pl.posP (Pl.hp a) p)++a.drop (Pl.posP (Pl.hp a) p+1)) (Ho rs p):=by
 have e:Pl.hp a=rs.map Pl.Rt.p:=h.qA;rw [e]at b⊢;unfold Ho;rw [af b];exact(h.take _).append (h.drop _)
theorem ReadsAll.asc{w:xh}{b:List Pl.RH}{rs:List Pl.Rt}(h:ReadsAll w b rs)(a:eY rs):xN (Pl.hp b):=by
 show xN (b.map Pl.RH.p);rw [h.qA];exact(Cb rs).2 a
theorem L6{w:xh}{ops:Array Oper}{rest:List Oper}{o:Oper}{a:Act}{Q:Exit->Act->xh->Prop}(i:o.guard=none)(s x:aab)
  (v:o.op= .call {callee:= .builtin .append,args:=#[s,x],argTypes:=#[30,30]})
  (ao:Option Addr)(len cap:Nat)(m:List Pl.RH)(d:a.eval s= .slice none 0 0)(t:a.eval x= .slice ao len cap)(C:jw w ao len cap m)(E:len<=2000000)
  (h:∀l w',fF w' w.heap.size l m->rU w.heap.size w w'->wpList oC ops Q rest (a.put o.dst l) w'):wpList oC ops Q (o::rest) a w:=by
 obtain⟨i0,g,q,p,n⟩:=partsOf tZ;obtain⟨hl,hc,hm,f,e⟩:=C;rcases ao with _|D
 ·obtain rfl:=f rfl;obtain rfl:len=0:=by omega
  obtain rfl:m= []:=List.length_eq_zero_iff.1 hl;exact wpList_append_own_none i s x 30 v w.heap.size 80 i0 5 Jj g _ 0 [] d (aaC _ _ _ _) t (h _ _ (fF.nil _ _) (qh _ _))
 ·refine wpList_append_own (w:=w) i s x 30 v w.heap.size 80 i0 _ 5 56 Jj g q p n rfl (by decide) _ 0 [] d (aaC _ _ _ _) D len cap (cellsR m) t (by rw [dA,hl]) ?_ (jO _) (by unfold Ee;omega) (by omega) (oP _) ?_
  ·intro j u y;rcases e with rfl|⟨b,off,r,_,z⟩
   ·simp [cellsR]at y
   ·cases r;rw [bD];exact(uI _ _).1 z j u y
  ·intro l w' c B _;rw [aag]at c;exact h l w' (Lj c rfl) ((qh _ _).grown B (oP _) (by intro k A;cases A))
theorem Pl.XI(ps:List (Int×Int))(k:Nat)(h:k<ps.length):ps.take (k+1)=ps.take k++ [Pl.pr ps k]:=by
 rw [aac h,jI ps k h]
theorem Pl.RI(rs:List Pl.Rt)(ps:List (Int×Int))(k:Nat)(h:k<ps.length):ku rs (ps.take (k+1))=Ho (ku rs (ps.take k)) (Pl.pr ps k):=by
 unfold ku;rw [XI ps k h,aad];rfl
theorem fF.block{w:xh}{base:Nat}{v:xx}{a:List Pl.RH}(h:fF w base v a):∀k,v.ownBlock=some k->base<=k:=fun k b=>(abv h k b).1
theorem Nc(a:Option Addr)(len cap:Nat)(E:List Pl.RH)(rs:List Pl.Rt)(b:Option Addr)(n gc:Nat)(ps:List (Int×Int))(w:xh)(h:jw w a len cap E)(m:ReadsAll w E rs)(j:eY rs)(hb:len<=200)(hp:di w b n gc ps):
  Ah oC 193 #[.slice a len cap,.slice b n gc] w fun e w'=>
   ∃T c,e= .returned T/\fF w' w.heap.size T c/\ReadsAll w c (ku rs ps)/\rU w.heap.size w w':=by
 have HH:=ae h;have HD:=ae m;have V:=ae j;have CQ:xn (rs.length=len):=ae (by rw [<-m.1];exact h.1);obtain⟨s,aa,J,_,l⟩:=hp;have D:=ae s;have O:=ae l;unfold Ee at J;clear h m j s l;go_enter Tryz.func193,Tryz.ntmps193;go_wp2_with (at_builtin;refine L6 rfl _ (.tmp 10) rfl a len cap E rfl rfl HH.out (by omega) ?_;intro v1 w1 u g;have nI:=ae u;have Q:=ae g;clear u g);go_loopw [5,14] (fun v i wr=>∃(k:Nat) (c:List Pl.RH),k<=n/\i= .int .i64 k/\xn (fF wr w.heap.size v c)/\xn (ReadsAll w c (ku rs (ps.take k)))/\xn (rU w.heap.size w wr)) (fun _ i _=>n-(Eb i).toNat)
 case atStart=>exact⟨0,E,BD _,rfl,nI,HD,Q⟩
 case round=>
  obtain⟨k,c,U,rfl,q,o,r⟩:=hrel;by_cases x:k<n
  ·obtain⟨b1,o1,rfl,g,I⟩:∃L off,b=some ⟨L,off,none⟩/\L<w.heap.size/\eP w L off ps:=by
    rcases O.out with rfl|h
    ·have:=D.out;simp at this;omega
    ·exact h
   obtain⟨c0,c1⟩:=I.below g r.out k (by rw [D.out];exact x);have A:=ae (RI rs ps k (by rw [D.out];exact x));generalize Pl.pr ps k=pp at*;obtain⟨p1,p2⟩:=pp;simp only at c0 c1;have H:=r.out.size;have N:xn (eY (ku rs (ps.take k))):=ae (yC V.out);have R:xn (c.length<=200):=ae (by
    rw [o.out.1];have:=J6 (ps:=ps.take k) V.out;have:=CQ.out;omega)
   obtain⟨G,F⟩:=ai (bu (Pl.hp c) (p1,p2));obtain⟨C,M⟩:=ai (Pl.posP (Pl.hp c) (p1,p2));have pq:xn (G=true->C<c.length):=ae fun e=>by rw [<-M.out];have:=jQ (by rw [F.out];exact e:bu (Pl.hp c) (p1,p2)=true);rwa [sK]at this
   have X:xn (∀W,rU wr.heap.size wr W->Ah oC 67 #[u5,.agg #[.int .i64 p1,.int .i64 p2]] W fun e w'=>e= .returned (.tuple #[.int .i64 C,.bool G])/\rU W.heap.size W w'):=ae fun W hW=>by
    obtain⟨a',z,e,hr,_⟩:=(q.out.below hW).rows;rw [e];have:=ui a' c.length z c p1 p2 W hr (o.out.asc N.out) (by have:=R.out;omega);rwa [F.out,M.out]at this
   cases G
   ·have UO:xn (Ho (ku rs (ps.take k)) (p1,p2)=ku rs (ps.take k)):=ae (by
     unfold Ho;rw [show(ku rs (ps.take k)).map Pl.Rt.p=Pl.hp c from o.out.qA.symm,F.out];rfl)
    go_wp2_with fail;refine(X.out _ ((qh _ _).alloc (oP _) _)).mono ?_;rintro e S ⟨rfl,f⟩;have d:=ae (((qh wr.heap.size wr).alloc (oP _) (.cells #[.int .i64 p1,.int .i64 p2] 49)).trans (f.mono (by simp)));clear f;go_wp2_with fail;go_roundw
    case rel=>exact⟨k+1,c,by omega,by go_num,ae (q.out.below d.out),ae (by rw [A.out,UO.out];exact o.out),ae (r.out.trans (d.out.mono H))⟩
    case measure=>simp [Eb];omega
   ·have K:=pq.out rfl;have B:=ae (o.out.del F.out);rw [M.out]at B;go_wp2_with fail;refine(X.out _ ((qh _ _).alloc (oP _) _)).mono ?_;rintro e S ⟨rfl,f⟩;have d:=ae (((qh wr.heap.size wr).alloc (oP _) (.cells #[.int .i64 p1,.int .i64 p2] 49)).trans (f.mono (by simp)));clear f;have ak:C<=200:=by have:=R.out;omega
    go_wp2_with fail;refine(TB w.heap.size u5 c C S (q.out.below d.out) K (by have:=R.out;omega)).mono ?_;rintro e w3 ⟨v3,rfl,t,y⟩;have Z:=ae t;have P:=ae ((r.out.trans (d.out.mono H)).grown y (OO H d.out.size) (fun k U=>q.out.block k U));clear t y;go_wp2_with fail;go_roundw
    case rel=>exact⟨k+1,_,by omega,by go_num,Z,ae (by rw [A.out];exact B.out),P⟩
    case measure=>simp [Eb];omega
  ·have ad:¬((k:Int)<(n:Int)):=by omega
   have Y:xn (ReadsAll w c (ku rs ps)):=ae (by
    have:=o.out;rwa [qL (by rw [D.out];omega)]at this)
   go_wp2_with fail;go_ret;first|exact⟨_,c,rfl,q.out,Y.out,r.out⟩|exact⟨_,rfl,c,q.out,Y.out,r.out⟩
theorem Pl.VG(rs a:List Pl.Rt)(k:Nat):oO rs a=oO (oO rs (a.take k)) (a.drop k):=by
 unfold oO;rw [<-aad,VB]
theorem Pl.Rf(rs a:List Pl.Rt)(k:Nat)(h:k<a.length):oO rs (a.take (k+1))=Pl.insR (oO rs (a.take k)) (Pl.rt a k):=by
 unfold oO;rw [KE a k h,aad];rfl
theorem Pl.Yj{a set:List Pl.Rt}{gone:List (Int×Int)}{k:Nat}(ha:gB a=0)(h:200<(oO (ku a gone) (set.take k)).length):Lc a set gone=1/\La a set gone= []:=by
 have c:200<(Dt a set gone).length:=by
  unfold Dt;rw [VG _ set k];exact Tn h (BA _ _)
 have b:=CV c;unfold Lc La;rw [af ha,af ha,b];exact⟨rfl,by rw [ag (by decide)]⟩
theorem Pl.Dh(a:List Pl.RH)(k j:Nat)(x:Pl.RH)(h:j≠k):Pl.rh (a.set k x) j=Pl.rh a j:=by
 unfold Pl.rh;rw [aam,aam,List.getElem?_set_ne (Ne.symm h)]
theorem Pl.JG(a:List Pl.RH)(k:Nat)(x:Pl.RH)(h:k<a.length):Pl.rh (a.set k x) k=x:=by
 rw [ru _ _ (by simpa using h)];simp
theorem bU.set{w:xh}{base j g o cap:Nat}{h x:Pl.RH}{r:Pl.Rt}{es:List Pl.RH}(f:bU w base h r)(i:fF w j (.slice (some ⟨g,0,none⟩) es.length cap) es):bU (KL w g o x) base h r:=by
 obtain⟨e,d,c,a,b⟩:=f;refine⟨e,d,c,a.but (aI.KL w g o x) ?_,b⟩;rcases Mc a i with h|h
 ·exact .inr (by rw [h];simp)
 ·exact .inr h
theorem WR(a:Option Addr)(la ca:Nat)(Z:List Pl.RH)(rs:List Pl.Rt)(b:Option Addr)(y cb:Nat)(gs:List Pl.RH)(f:List Pl.Rt)(d:Option Addr)(gl gc:Nat)(ps:List (Int×Int))(w:xh)(h1:jw w a la ca Z)(d1:ReadsAll w Z rs)(Q:jw w b y cb gs)(d2:ReadsAll w gs f)(h3:di w d gl gc ps):
  Ah oC 168 #[.slice a la ca,.slice b y cb,.slice d gl gc] w fun e w'=>
   ∃v es,e= .returned (.tuple #[v,.int .i64 (Lc rs f ps)])/\dG w' w.heap.size v es (La rs f ps)/\rU w.heap.size w w':=by
 have H1:=ae h1;have D1:=ae d1;have H2:=ae Q;have D2:=ae d2;have H3:=ae h3;have a6:xn (gs.length=y):=ae Q.1;have aM:xn (rs.length=la):=ae (by rw [<-d1.1];exact h1.1);have aL:xn (f.length=y):=ae (by rw [<-d2.1];exact Q.1);have bS:=Q.2.1;have bd:=Q.2.2.1;unfold Ee at bd;clear h1 d1 Q d2 h3;obtain⟨PC,Xv⟩:=ai (Lc rs f ps);obtain⟨PL,U⟩:=ai (La rs f ps);rw [Xv.out,U.out];obtain⟨c1,G⟩:=ai (gB rs);by_cases n:c1=0
 ·subst n;have L:=iD G.out;have N:xn (eY rs):=ae ((Cb rs).1 L.2.2);have bg:la<=200:=by have:=L.1;rw [aM.out]at this;exact this
  clear L;go_enter Tryz.func168,Tryz.ntmps168;go_wp2_with fail;refine(iR _ _ _ Z rs _ H1.out D1.out).mono ?_;rw [G.out];rintro e h ⟨rfl,oW⟩;have D:=ae oW;clear oW;go_wp2_with fail;refine(Nc _ _ _ Z rs _ _ _ ps _ (H1.out.below D.out) (D1.out.below D.out) N.out bg (H3.out.below D.out)).mono ?_;rintro e w2 ⟨v2,Y,rfl,ak,J,av⟩;have yR:=ae ak;have bm:=ae J;have bt:=ae av;have bo:xn (Y.length<=200):=ae (by
   rw [J.1];have:=J6 (ps:=ps) N.out;rw [aM.out]at this;omega)
  have br:xn (eY (ku rs ps)):=ae (yC N.out);clear ak J av;have l:=D.out.size;go_wp2_with fail;go_loopw [9,25] (fun v i wr=>∃(k:Nat) (c:List Pl.RH),k<=y/\i= .int .i64 k/\xn (fF wr h.heap.size v c)/\xn (ReadsAll h c (oO (ku rs ps) (f.take k)))/\xn (c.length<=200)/\xn (rU h.heap.size h wr)) (fun _ i _=>y-(Eb i).toNat)
  case atStart=>exact⟨0,Y,BD _,rfl,yR,bm,bo,bt⟩
  case round=>
   obtain⟨k,c,hk,rfl,HO,HR,Ar,HB⟩:=hrel;have V:=HB.out.size;have eH:=ae (D.out.trans (HB.out.mono l));by_cases A:k<y
   ·obtain⟨bb,off,rfl,bk,hr⟩:=H2.out.at A;obtain⟨x0,x1,x2,x3,x4⟩:=hr.below bk eH.out k (by rw [a6.out];exact A);have T:=ae ((D2.out.2 k (by rw [a6.out];exact A)).below D.out);have ay:=ae (Rf (ku rs ps) f k (by rw [aL.out];exact A));have bq:xn (eY (oO (ku rs ps) (f.take k))):=ae (DN _ _ br.out);generalize Pl.rh gs k=hh at*;generalize Pl.rt f k=rr at*;have aR:xn (∀W,rU wr.heap.size wr W->Ah oC 194 #[u9,.agg #[.int .i64 hh.p.1,.int .i64 hh.p.2,.bool hh.here,.int .i64 hh.cost,.slice hh.ha hh.hl hh.hc]] W fun e w'=>∃v' q,e= .returned v'/\fF w' h.heap.size v' q/\ReadsAll h q (Pl.insR (oO (ku rs ps) (f.take k)) rr)/\rU h.heap.size h w'):=ae fun W hW=>by
     have M:=HB.out.trans (hW.mono V);refine(abh h.heap.size u9 c hh W (HO.out.below hW) M.size (HR.out.asc bq.out) (by have:=Ar.out;omega)).mono fun e w' ⟨v',e1,e2,e3⟩=>⟨v',_,e1,e2,HR.out.lay T.out,M.grown e3 M.size (fun k hk=>HO.out.block k hk)⟩
    have bw:(k:Int)<(y:Int):=by omega
    obtain⟨⟨bB,bA⟩,b6,b2,bR,Za,bO⟩:=hh;simp only at x0 x1 x2 x3 x4 aR;go_wp2_with fail;refine(aR.out _ ((qh _ _).alloc (oP _) _)).mono ?_;rintro e w3 ⟨v3,q,rfl,K,ad,ar⟩;obtain⟨a3,bx,rfl,I,_⟩:=K.rows;have vC:=ae K;have aE:=ae ad;have a8:=ae ar;obtain⟨n3,pW⟩:=ai (q.length);rw [pW.out]at vC⊢;clear K ad ar I x0 x1 x2 x3 x4;by_cases an:200<n3
    ·have xJ:xn (PC=1/\PL= []):=ae (by
      have:=Yj (set:=f) (gone:=ps) (k:=k+1) G.out (by rw [ay.out,<-aE.out.1,pW.out];exact an);rwa [Xv.out,U.out]at this)
     go_wp2_with fail;go_ret2;exact⟨_,[],by rw [xJ.out.1];rfl,by rw [xJ.out.2];exact dG.nil _ _,D.out.trans (a8.out.mono l)⟩
    ·go_wp2_with fail;go_roundw
     case rel=>exact⟨k+1,q,by omega,by go_num,vC,ae (by rw [ay.out];exact aE.out),ae (by rw [pW.out];omega),a8⟩
     case measure=>simp [Eb];omega
   ·have bE:¬((k:Int)<(y:Int)):=by omega
    have sS:xn (ReadsAll h c (Dt rs f ps)):=ae (by
     have:=HR.out;rwa [qL (by rw [aL.out];omega)]at this)
    obtain⟨a9,C,rfl,Ut,_⟩:=HO.out.rows;obtain⟨c2,E⟩:=ai (gB (Dt rs f ps));have P:xn (Ah oC 66 #[.slice a9 c.length C] wr fun e w'=>e= .returned (.int .i64 c2)/\rU wr.heap.size wr w'):=ae (by
     have:=iR a9 c.length C c (Dt rs f ps) wr Ut (sS.out.below HB.out);rwa [E.out]at this)
    have bj:=Ut.2.1;have bc:=Ut.2.2.1;unfold Ee at bc;clear Ut;obtain⟨x,r⟩:=ai (c.length);rw [r.out]at P HO Ar bj⊢;by_cases z:c2=0
    ·subst z;have u:xn (PC=0/\PL=Dt rs f ps):=ae (by
      rw [<-Xv.out,<-U.out];unfold Lc La;rw [G.out,af rfl,af rfl,E.out,af rfl];exact⟨rfl,rfl⟩)
     have Jf:xn (∀i,i<x->dW (Pl.rt (Dt rs f ps) i)=true):=ae fun i hi=>(iD E.out).2.1 i (by rw [<-sS.out.1,r.out];exact hi);generalize Dt rs f ps=qs at*;generalize wr=W8 at*;go_wp2_with fail;refine P.out.mono ?_;rintro e W9 ⟨rfl,CJ⟩;have bs:=ae (HB.out.trans (CJ.mono V));have Tc:=ae (HO.out.below CJ);clear CJ;go_wp2_with fail;go_loopw [43] (fun i wq=>∃(j:Nat) (es:List Pl.RH),j<=x/\i= .int .i64 j/\xn (fF wq h.heap.size (.slice a9 x C) es)/\xn (es.length=x)/\xn (∀t,t<j->bU wq h.heap.size (Pl.rh es t) (Pl.rt qs t))/\xn (∀t,j<=t->Pl.rh es t=Pl.rh c t)/\xn (rU h.heap.size h wq)) (fun i _=>x-(Eb i).toNat)
     case atStart=>exact⟨0,c,BD _,rfl,Tc,r,ae (fun t ht=>by omega),ae (fun t _=>rfl),bs⟩
     case round=>
      obtain⟨j,es,hj,rfl,O,F,aw,a7,S⟩:=hrel;have H:=S.out.size;by_cases B:j<x
      ·obtain⟨g,bz,e9,bl,m,bL,bN,aa,X⟩:=O.out.opened (by rw [F.out];omega);simp only [GX]at e9;obtain⟨rfl,ba,rfl⟩:=e9;clear ba;obtain⟨c0,c1,c2,c3,c4⟩:=aa j (by rw [F.out];exact B);rw [a7.out j (oP _)]at c0 c1 c2 c3 c4;simp only [Uz]at c0 c1 c2 c3 c4;clear aa;have T:=ae (sS.out.2 j (by rw [r.out];exact B));have Za:(Pl.rh c j).hl<=1000:=by
        have e1:=T.out.2.2.2.1.1;have e2:=rq (Jf.out j B);omega
       obtain⟨rr,aD⟩:=ai (Pl.rt qs j);rw [aD.out]at T;generalize Pl.rh c j=hh at*;have Qm:xn (∀W,rU wr.heap.size wr W->Ah oC 69 #[.agg #[.int .i64 hh.p.1,.int .i64 hh.p.2,.bool hh.here,.int .i64 hh.cost,.slice hh.ha hh.hl hh.hc]] W fun e w'=>∃g:Pl.RH,e= .returned (.agg #[.int .i64 g.p.1,.int .i64 g.p.2,.bool g.here,.int .i64 g.cost,.slice g.ha g.hl g.hc])/\bU w' W.heap.size g rr/\rU W.heap.size W w'):=ae fun W hW=>uh hh rr W (T.out.below (S.out.trans (hW.mono H))) Za;have b7:(j:Int)<(x:Int):=by omega
       have hA:rU wr.heap.size wr (wr.alloc (.cells #[.int .i64 hh.p.1,.int .i64 hh.p.2,.bool hh.here,.int .i64 hh.cost,.slice hh.ha hh.hl hh.hc] 80)):=(qh _ _).alloc (oP _) _;have HA:=ae hA;clear hA;go_wp2_with fail;refine(Qm.out _ HA.out).mono ?_;rintro e w5 ⟨R,rfl,oq,aq⟩;have s:=ae (HA.out.trans (aq.mono (by simp)));have bp:=ae (oq.mono (show h.heap.size<=_ by simp;omega));have f0:=(s.out.cell (p:=⟨g,j*5,none⟩) m).trans c0;have f1:=(s.out.cell (p:=⟨g,j*5+1,none⟩) m).trans c1;have f2:=(s.out.cell (p:=⟨g,j*5+2,none⟩) m).trans c2;have f3:=(s.out.cell (p:=⟨g,j*5+3,none⟩) m).trans c3;have f4:=(s.out.cell (p:=⟨g,j*5+4,none⟩) m).trans c4;have ff:∀o,w5.frozen? ⟨g,o,none⟩=false:=fun o=>(s.out.frozen (p:=⟨g,o,none⟩) m).trans (X o);have oL:=ae (O.out.below s.out);rw [<-F.out]at oL;clear oq aq c0 c1 c2 c3 c4 X;go_wp2_with fail
       go_roundw
       case rel=>
        refine⟨j+1,es.set j R,by omega,by go_num,ae ?_,ae (by rw [aaN];exact F.out),ae (fun t ht=> ?_),ae (fun t ht=> ?_),ae ?_⟩
        ·have:=oL.out.set j R;rw [F.out]at this;exact this
        ·by_cases e:t=j
         ·subst e;rw [JG es t R (by rw [F.out];exact B),aD.out];exact bp.out.set oL.out
         ·rw [Dh es j t R e];exact((aw.out t (by omega)).below s.out).set oL.out
        ·rw [Dh es j t R (by omega)];exact a7.out t (by omega)
        ·exact(S.out.trans (s.out.mono H)).trans ((aI.KL w5 g (j*5) R).below bl (OO H s.out.size))
       case measure=>simp [Eb];omega
      ·have bX:¬((j:Int)<(x:Int)):=by omega
       have XA:xn (dG wr h.heap.size (.slice a9 x C) es qs):=ae ⟨O.out,by rw [F.out,<-sS.out.1,r.out],fun t ht=>aw.out t (by rw [F.out]at ht;omega)⟩;go_wp2_with fail;go_ret2;first|exact⟨_,es,by rw [u.out.1];rfl,by rw [u.out.2];exact XA.out.mono l,D.out.trans (S.out.mono l)⟩|exact⟨_,by rw [u.out.1];rfl,⟨es,by rw [u.out.2];exact XA.out.mono l⟩,D.out.trans (S.out.mono l)⟩
    ·have u:xn (PC=c2/\PL= []):=ae (by
      rw [<-Xv.out,<-U.out];unfold Lc La;rw [G.out,af rfl,af rfl,E.out,ag z];exact⟨rfl,rfl⟩)
     have bh:(c2 != 0)=true:=by simpa using z
     clear z;go_wp2_with fail;refine P.out.mono ?_;rintro e w9 ⟨rfl,CJ⟩;go_wp2_with fail;go_ret2;exact⟨_,[],by rw [u.out.1];rfl,by rw [u.out.2];exact dG.nil _ _,eH.out.trans (CJ.mono eH.out.size)⟩
 ·have u:xn (PC=c1/\PL= []):=ae (by
   rw [<-Xv.out,<-U.out];unfold Lc La;rw [G.out,ag n,ag n];exact⟨rfl,rfl⟩)
  have bh:(c1 != 0)=true:=by simpa using n
  clear n;go_enter Tryz.func168,Tryz.ntmps168;go_wp2_with fail;refine(iR _ _ _ Z rs _ H1.out D1.out).mono ?_;rw [G.out];rintro e h ⟨rfl,oW⟩;go_wp2_with fail;go_ret2;exact⟨_,[],by rw [u.out.1];rfl,by rw [u.out.2];exact dG.nil _ _,oW⟩
theorem acQ{w w3:xh}{c0 c1:xx}{T:aas}(a:rU (w.heap.size+1) (w.alloc (.cells #[c0,c1] T)) w3):
  w3.cell? ⟨w.heap.size,0,none⟩=some c0/\w3.cell? ⟨w.heap.size,1,none⟩=some c1/\w.heap.size<w3.heap.size/\rU w.heap.size w w3:=vK a
theorem sO(a:Option Addr)(len cap:Nat)(ps:List (Int×Int))(p1 p2:Int)(w:xh)(h:di w a len cap ps):
  Ah oC 134 #[.slice a len cap,.agg #[.int .i64 p1,.int .i64 p2]] w fun e w'=>e= .returned (.bool (decide ((p1,p2)∈ps)))/\rU w.heap.size w w':=by
 obtain⟨hl,hc,hm,_,f⟩:=h;unfold Ee at hm;have p:=ae hl;have v:=ae f;clear hl f;obtain⟨R,z⟩:=ai (decide ((p1,p2)∈ps));rw [z.out];go_enter Tryz.func134,Tryz.ntmps134;go_wp2_with fail;obtain⟨l,g⟩:=aV (w.alloc (.cells #[.int .i64 p1,.int .i64 p2] 49));have m:xn (rU w.heap.size w l):=ae (by rw [g.out];exact(qh _ _).alloc (oP _) _);have x:xn (∀W,rU l.heap.size l W->W.cell? ⟨w.heap.size,0,none⟩=some (.int .i64 p1)/\W.cell? ⟨w.heap.size,1,none⟩=some (.int .i64 p2)/\w.heap.size<W.heap.size):=ae fun W D=>by
  have:=acQ (w:=w) (w3:=W) (c0:= .int .i64 p1) (c1:= .int .i64 p2) (T:=49) (by rw [g.out]at D;simpa using D);exact⟨this.1,this.2.1,this.2.2.1⟩
 rw [<-g.out];go_loopw [5] (fun i wr=>∃k:Nat,k<=len/\i= .int .i64 k/\xn (∀t,t<k->¬Pl.pr ps t=(p1,p2))/\xn (rU l.heap.size l wr)) (fun i _=>len-(Eb i).toNat)
 case atStart=>exact⟨0,BD _,rfl,ae (by intro t o;omega),ae (qh _ _)⟩
 case round=>
  obtain⟨k,Q,rfl,G,B⟩:=hrel;obtain⟨P,O,K⟩:=x.out _ B.out;have s:=ae (m.out.trans (B.out.mono m.out.size));by_cases j:k<len
  ·obtain⟨b,off,rfl,r,L⟩:∃u off,a=some ⟨u,off,none⟩/\u<w.heap.size/\eP w u off ps:=by
    rcases v.out with rfl|h
    ·have:=p.out;simp at this;omega
    ·exact h
   obtain⟨c0,c1⟩:=L.below r s.out k (by rw [p.out];exact j);obtain⟨H,A⟩:=ai (Pl.pr ps k);rw [A.out]at c0 c1;obtain⟨J,I⟩:=H;simp only at c0 c1;have C:(k:Int)<(len:Int):=by omega
   obtain⟨F,g1⟩:∃c,(J==p1)=c:=⟨_,rfl⟩
   obtain⟨E,g2⟩:∃c,(I==p2)=c:=⟨_,rfl⟩
   by_cases n:F=true/\E=true
   ·obtain⟨rfl,rfl⟩:=n;have y:xn (R=true):=ae (by
     rw [<-z.out,ik];have:Pl.pr ps k=(p1,p2):=by rw [A.out];simp at g1 g2;rw [g1,g2]
     rw [<-this];exact uJ ps k (by rw [p.out];exact j))
    go_wp2_with fail;go_quiet (fail);go_wp2_with fail;go_ret;exact⟨bf y.out.symm,aO s.out _⟩
   ·have N:xn (¬Pl.pr ps k=(p1,p2)):=ae fun d=>by
     apply n;rw [A.out]at d;simp only [aaJ]at d;rw [<-g1,<-g2];simp [d.1,d.2]
    cases F
    all_goals cases E
    all_goals first|(exact absurd ⟨rfl,rfl⟩ n)|skip
    all_goals
     clear n;go_wp2_with fail;go_quiet (fail);go_wp2_with fail;go_roundw
     case rel=>exact⟨k+1,by omega,by go_num,ae fun t o=>by rcases OM t k with q|q;exact G.out t q;obtain rfl:t=k:=(by omega);exact N.out,ae (aO B.out _)⟩
     case measure=>simp [Eb];omega
  ·have y:xn (R=false):=ae (by
    rw [<-z.out,Ja];intro hm;obtain⟨t,o,e⟩:=Xh hm;have:=G.out t (by rw [p.out]at o;omega);rw [jI ps t o]at this;exact this e)
   have M:¬((k:Int)<(len:Int)):=by omega
   go_wp2_with fail;go_ret;exact⟨bf y.out.symm,s.out⟩
abbrev bJ(w:xh)(base:Nat)(v:xx)(ps:List (Int×Int)):Prop:=aU 49 w base v ps
theorem kG:(Tryz.prog.info? 49).map (fun i=>(i.zero,i.size,i.bytes))=some (some (.agg #[.int .i64 0,.int .i64 0]),2,16):=by kernel_rfl
theorem H8(a:List (Int×Int))(i:Nat):cellsP a=cellsP (a.take i)++cellsP (a.drop i):=by rw [<-jq,VB]
theorem Ll{w:xh}{base n:Nat}{v:xx}{xs:List xx}{a:List (Int×Int)}(h:w.ownsRow base 49 2 v n xs)(e:xs=cellsP a):bJ w base v a:=by
 subst e;have b:n=a.length:=by
  have:=h.1;rw [gy]at this;omega
 subst b;exact h
theorem Yn{w:xh}{base g n cap:Nat}{L:List xx}{a:List (Int×Int)}(f:base<=g)(e:w.heap[g]? =some (.cells L.toArray 49 (0,0)))(d:a.length=n)(hc:n<=cap)(hm:cap<=Ee)(b:L.length=cap*2)(c:L.take (n*2)=cellsP a):bJ w base (.slice (some ⟨g,0,none⟩) n cap) a:=by
 subst d;exact⟨gy a,.inr ⟨g,cap,L.toArray,rfl,f,e,hc,hm,by simpa using b,by simpa using c⟩⟩
theorem bJ.row{w:xh}{base:Nat}{v:xx}{a:List (Int×Int)}(h:bJ w base v a)(d:0<a.length):
  ∃g cap L,v= .slice (some ⟨g,0,none⟩) a.length cap/\base<=g/\w.heap[g]? =some (.cells (abt L) 49 (0,0))/\a.length<=cap/\cap<=Ee/\L.length=cap*2/\L.take (a.length*2)=cellsP a:=by
 obtain⟨_,h|⟨g,cap,cur,rfl,f,hh,e,hm,b,c⟩⟩:=h
 ·omega
 ·exact⟨g,cap,cur.toList,rfl,f,by simpa using hh,e,hm,by simpa using b,c⟩
theorem bJ.head{w:xh}{base g cap:Nat}{a:List (Int×Int)}(h:bJ w base (.slice (some ⟨g,0,none⟩) a.length cap) a)(i:Nat)(k:i<=a.length):bJ w base (.slice (some ⟨g,0,none⟩) i cap) (a.take i):=by
 obtain⟨_,h|⟨l,c,cur,e,f,hh,j,hm,b,d⟩⟩:=h
 ·simp at h
 ·simp only [GX,MJ,Ru,and_true]at e;obtain⟨rfl,_,rfl⟩:=e;have hl:(a.take i).length=i:=by simp;omega
  refine⟨gy _,.inr ⟨g,cap,cur,by rw [hl],f,hh,by omega,hm,b,?_⟩⟩;rw [hl];have:cur.toList.take (i*2)=(cur.toList.take (a.length*2)).take (i*2):=by rw [Qe];congr 1;omega
  rw [this,d,H8 a i,xk (by rw [gy,hl];exact oP _),qL (by rw [gy,hl];exact oP _)]
theorem AO{w:xh}{ops:Array Oper}{o:Oper}{a:Act}{K:Act->xh->Prop}{Q:Exit->Act->xh->Prop}{E:Prop}(r:o.guard=none)(s x:aab)
  (C:o.op= .call {callee:= .builtin .append,args:=#[s,x],argTypes:=#[29,29]})
  (base g k cap:Nat)(e:List (Int×Int))(F:e.length=k)(p:a.eval s= .slice (some ⟨g,0,none⟩) k cap)(i:bJ w base (.slice (some ⟨g,0,none⟩) k cap) e)(t:Addr)(m c:Nat)(l:List (Int×Int))(B:a.eval x= .slice (some t) m c)(D:l.length=m)
  (d:∀j u,(cellsP l)[j]? =some u->w.cell? (t.add j)=some u)(b:k+m<=cap)
  (h:∀w',bJ w' base (.slice (some ⟨g,0,none⟩) (k+m) cap) (e++l)->w.grownBy w' (some g)->K (a.put o.dst (.slice (some ⟨g,0,none⟩) (k+m) cap)) w'):if Jk o (yielded ops a.tmps)=true then BG oC o a w K Q else E:=by
 have hw:Jk o (yielded ops a.tmps)=true:=by simp [Jk,r]
 rw [af hw];subst F;obtain⟨i0,q,A,n,z⟩:=partsOf kG;obtain⟨w',f,y,v⟩:=abw (P:=oC) w base 29 o.type 49 i0 2 Z5 q n g e.length cap (cellsP e) i t m c (cellsP l) (by rw [gy,D]) d (Aa _) b;unfold BG;simp [execOp,C,resolve,invoke,builtin,p,B,f,PW];exact h w' (Ll y (by rw [jq])) v
theorem Qz(w:xh)(g o c:Nat)(L:List xx)(f:w.heap[g]? =some (.cells L.toArray 49 (0,0)))(b:o+2<=L.length)(ty:aas):
  (UX #[29] ty #[.slice (some ⟨g,o,none⟩) 1 c]).run oC w= .ok (.tuple #[]) (w.setRow g (laid L o [.int .i64 0,.int .i64 0]).toArray):=by
 have d:∀w,(zeroValue 49).run oC w= .ok (.agg #[.int .i64 0,.int .i64 0]) w:=Tryz.zeroValue49;have e:(IA (Wq #[.int .i64 0,.int .i64 0]).cells 1).toList= [.int .i64 0,.int .i64 0]:=by kernel_rfl
 have a:=aaj oC g o 49 [.int .i64 0,.int .i64 0] 0 L.toArray w f (by simpa using b) (by intro v d;simp at d;subst d;rfl);simp only [UQ]at a;simp only [UX];simp [aap Z5,d,e,a,laid]
theorem yX{w:xh}{ops:Array Oper}{rest:List Oper}{o:Oper}{a:Act}{Q:Exit->Act->xh->Prop}(m:o.guard=none)(s:aab)
  (x:o.op= .call {callee:= .builtin .clear,args:=#[s],argTypes:=#[29]})
  (base g n cap off c:Nat)(k:a.eval s= .slice (some ⟨g,off,none⟩) 1 c)(b:List (Int×Int))(f:bJ w base (.slice (some ⟨g,0,none⟩) n cap) b)(l:b.length=n)(p:off=n*2)(q:n+1<=cap)
  (h:∀w' u,bJ w' base (.slice (some ⟨g,0,none⟩) n cap) b->aI g w w'->wpList oC ops Q rest (a.put o.dst u) w'):wpList oC ops Q (o::rest) a w:=by
 subst l;obtain⟨_,h0|⟨z,r,cur,e,y,hh,l,hm,j,v⟩⟩:=f
 ·simp at h0
 ·simp only [GX,MJ,Ru,and_true]at e;obtain⟨rfl,_,rfl⟩:=e;have i:w.heap[g]? =some (.cells cur.toList.toArray 49 (0,0)):=by simpa using hh
  have t:off+2<=cur.toList.length:=by simp;omega
  have d:=Qz w g off c cur.toList i t o.type;refine aaG m fun K hK=> ?_;unfold BG;simp [execOp,x,resolve,invoke,builtin,k,d,PW];refine hK _ _ (h _ _ (Yn y (Zf w g _ _ _ _ i) rfl l hm ?_ ?_) (aI.row w g _))
  ·rw [tY _ _ _ (by simpa using t)];simpa using j
  ·unfold laid;rw [Qi,xk (by simp;omega),Qe,show min (b.length*2) off=b.length*2 by omega,v]
theorem PZ(base:Nat)(v:xx)(a:List (Int×Int))(i:Nat)(w:xh)(c:bJ w base v a)(Y:i<a.length)(o:a.length<=2000000):
  Ah oC 160 #[v,.int .i64 i,.int .i64 ((i:Int)+1)] w fun e w'=>
   ∃y,e= .returned y/\bJ w' base y (a.take i++a.drop (i+1))/\w.grownBy w' v.ownBlock/\y.ownBlock=v.ownBlock:=by
 obtain⟨g,cap,L,rfl,aa,I,B,hm,hL,H⟩:=bJ.row c (by omega);have A:=ae (bJ.head c i (by omega));have Q:=hm;unfold Ee at hm;obtain⟨n,HN⟩:=ai (a.length);have HG:=ae I;have p:xn (∀j u,(cellsP (a.drop (i+1)))[j]? =some u->L[(i+1)*2+j]? =some u):=ae fun j u m=>by
  have r:(cellsP a)[(i+1)*2+j]? =some u:=by
   rw [H8 a (i+1),OG (by rw [gy];simp;omega),gy];simpa [show min (i+1) a.length=i+1 by omega]using m
  rw [<-H,Pe]at r;split at r
  ·exact r
  ·cases r
 have z:xn ((a.take i).length=i):=ae (by simp;omega);have k:xn ((a.drop (i+1)).length=a.length-(i+1)):=ae (by simp);have s:xn ((a.take i++a.drop (i+1)).length=a.length-1):=ae (by simp;omega);rw [HN.out]at Y o B k s⊢;obtain⟨T,J⟩:=ai (a.take i);obtain⟨D,K⟩:=ai (a.drop (i+1));rw [J.out]at A z;rw [K.out]at p k;rw [J.out,K.out]at s⊢;clear I H c;have X:(i:Int)<=(n:Int):=by omega
 have W:(i:Int)+1<=(n:Int):=by omega
 have E:¬(n=i):=by omega
 have V:((i:Int)==(i:Int)+1)=false:=by rw [beq_eq_false_iff_ne];omega
 have R:i<=cap:=by omega
 have U:(0:Int)<=(i:Int)+1:=by omega
 have S:((i:Int)+1).toNat=i+1:=by omega
 have C:¬(cap=i):=by omega
 by_cases hc:cap=i+1
 ·obtain rfl:n=i+1:=by omega
  subst hc;have q:xn (D.length=0):=ae (by rw [k.out];omega);clear E C;have P:(i:Int)<=(i:Int)+1:=by omega
  have O:i<=i+1:=by omega
  go_enter Tryz.func160,Tryz.ntmps160;go_wp2_with fail;go_region_law (refine AO rfl (.tmp 22) (.tmp 25) rfl base g i (i+1) T z.out (by simp [LM,Rz]) A.out ⟨g,0,none⟩ 0 0 D (by simp [LM,Rz]) q.out (fun j u m=>by have e:D= []:=List.length_eq_zero_iff.1 q.out;rw [e]at m;simp [cellsP]at m) (by omega) ?_;intro N b f;rw [UQ]at b⊢;have t:=ae b;have G:=ae f;clear b f)
  all_goals
   go_wp2_with (refine yX rfl (.tmp 31) rfl base g i (i+1) (i*2) 1 (by simp [LM]) (T++D) t.out s.out rfl (by omega) ?_;intro M v2 d h;have x:=ae d;have l:=ae h;clear d h);go_ret;exact⟨_,rfl,x.out,eu (eu (fQ ((qh _ _).drew)) G.out) l.out.grown,rfl⟩
 ·have F:i+(n-(i+1))=n-1:=by omega
  have Z:¬(cap=n-1):=by omega
  go_enter Tryz.func160,Tryz.ntmps160;go_wp2_with fail;go_region_law (refine AO rfl (.tmp 22) (.tmp 25) rfl base g i cap T z.out (by simp [LM,Rz]) A.out ⟨g,(i+1)*2,none⟩ (n-(i+1)) (cap-(i+1)) D (by simp [LM,Rz]) k.out (fun j u m=>by rw [bD];exact wJ HG.out (p.out j u m)) (by omega) ?_;intro N b f;rw [F]at b⊢;have t:=ae b;have G:=ae f;clear b f)
  all_goals
   go_wp2_with (refine yX rfl (.tmp 31) rfl base g (n-1) cap ((n-1)*2) (cap-(n-1)) (by simp [LM];try omega) (T++D) t.out s.out rfl (by omega) ?_;intro M v2 d h;have x:=ae d;have l:=ae h;clear d h);go_ret;exact⟨_,rfl,x.out,eu (eu (fQ ((qh _ _).drew)) G.out) l.out.grown,rfl⟩
def Pl.mP:List (Int×Int)->Int×Int->Int->Int
 | [],_,_=> -1
 |q::r,p,i=>if q=p then i else mP r p (i+1)
theorem Pl.Us:∀(ps:List (Int×Int)) (p:Int×Int) (i:Int) (k:Nat),k<ps.length->Pl.pr ps k=p->(∀t,t<k->¬Pl.pr ps t=p)->mP ps p i=i+k
 | [],_,_,_,h,_,_=>by simp at h
 |q::r,p,i,0,_,e,_=>by
  have:q=p:=e;show(if q=p then i else _)=_;rw [af this];simp
 |q::r,p,i,k+1,h,e,a=>by
  have h0:¬q=p:=a 0 (by omega);show(if q=p then i else mP r p (i+1))=_;rw [ag h0,Us r p (i+1) k (by simpa using h) e (fun t b=>a (t+1) (by omega))];push_cast
  omega
theorem Pl.JV:∀(ps:List (Int×Int)) (p:Int×Int) (i:Int),(∀t,t<ps.length->¬Pl.pr ps t=p)->mP ps p i= -1
 | [],_,_,_=>rfl
 |q::r,p,i,a=>by
  have h0:¬q=p:=a 0 (by simp);show(if q=p then i else mP r p (i+1))=_;rw [ag h0];exact JV r p (i+1) (fun t b=>a (t+1) (by simpa using b))
theorem SH(a:Option Addr)(len cap:Nat)(ps:List (Int×Int))(p1 p2:Int)(w:xh)(h:di w a len cap ps):
  Ah oC 159 #[.slice a len cap,.agg #[.int .i64 p1,.int .i64 p2]] w fun e w'=>e= .returned (.int .i64 (mP ps (p1,p2) 0))/\rU w.heap.size w w':=by
 obtain⟨hl,hc,hm,_,f⟩:=h;unfold Ee at hm;have o:=ae hl;have v:=ae f;clear hl f;obtain⟨R,z⟩:=ai (mP ps (p1,p2) 0);rw [z.out];go_enter Tryz.func159,Tryz.ntmps159;go_wp2_with fail;obtain⟨l,g⟩:=aV (w.alloc (.cells #[.int .i64 p1,.int .i64 p2] 49));have m:xn (rU w.heap.size w l):=ae (by rw [g.out];exact(qh _ _).alloc (oP _) _);have x:xn (∀W,rU l.heap.size l W->W.cell? ⟨w.heap.size,0,none⟩=some (.int .i64 p1)/\W.cell? ⟨w.heap.size,1,none⟩=some (.int .i64 p2)/\w.heap.size<W.heap.size):=ae fun W E=>by
  have:=acQ (w:=w) (w3:=W) (c0:= .int .i64 p1) (c1:= .int .i64 p2) (T:=49) (by rw [g.out]at E;simpa using E);exact⟨this.1,this.2.1,this.2.2.1⟩
 rw [<-g.out];go_loopw [8] (fun i wr=>∃k:Nat,k<=len/\i= .int .i64 k/\xn (∀t,t<k->¬Pl.pr ps t=(p1,p2))/\xn (rU l.heap.size l wr)) (fun i _=>len-(Eb i).toNat)
 case atStart=>exact⟨0,BD _,rfl,ae (by intro t p;omega),ae (qh _ _)⟩
 case round=>
  obtain⟨k,Q,rfl,B,C⟩:=hrel;obtain⟨P,O,K⟩:=x.out _ C.out;have s:=ae (m.out.trans (C.out.mono m.out.size));by_cases j:k<len
  ·obtain⟨b,off,rfl,r,L⟩:∃u off,a=some ⟨u,off,none⟩/\u<w.heap.size/\eP w u off ps:=by
    rcases v.out with rfl|h
    ·have:=o.out;simp at this;omega
    ·exact h
   obtain⟨c0,c1⟩:=L.below r s.out k (by rw [o.out];exact j);obtain⟨H,A⟩:=ai (Pl.pr ps k);rw [A.out]at c0 c1;obtain⟨J,I⟩:=H;simp only at c0 c1;have D:(k:Int)<(len:Int):=by omega
   obtain⟨G,g1⟩:∃c,(p1==J)=c:=⟨_,rfl⟩
   obtain⟨F,g2⟩:∃c,(p2==I)=c:=⟨_,rfl⟩
   by_cases n:G=true/\F=true
   ·obtain⟨rfl,rfl⟩:=n;have y:xn (R=(k:Int)):=ae (by
     rw [<-z.out];have:Pl.pr ps k=(p1,p2):=by rw [A.out];simp at g1 g2;rw [g1,g2]
     rw [Us ps (p1,p2) 0 k (by rw [o.out];exact j) this B.out];omega)
    go_wp2_with fail;go_quiet (fail);go_wp2_with fail;go_ret;exact⟨by rw [y.out];rfl,aO s.out _⟩
   ·have N:xn (¬Pl.pr ps k=(p1,p2)):=ae fun d=>by
     apply n;rw [A.out]at d;simp only [aaJ]at d;rw [<-g1,<-g2];simp [d.1,d.2]
    cases G
    all_goals cases F
    all_goals first|(exact absurd ⟨rfl,rfl⟩ n)|skip
    all_goals
     clear n;go_wp2_with fail;go_quiet (fail);go_wp2_with fail;go_roundw
     case rel=>exact⟨k+1,by omega,by go_num,ae fun t p=>by rcases OM t k with q|q;exact B.out t q;obtain rfl:t=k:=(by omega);exact N.out,ae (aO C.out _)⟩
     case measure=>simp [Eb];omega
  ·have y:xn (R= -1):=ae (by
    rw [<-z.out];exact JV ps _ 0 (fun t p=>B.out t (by rw [o.out]at p;omega)))
   have M:¬((k:Int)<(len:Int)):=by omega
   go_wp2_with fail;go_ret;exact⟨by rw [y.out];rfl,s.out⟩
def Pl.Eh(s:Pl.Nt)(x:Pl.Ac):Int:=if mP (s.P x.a.toNat) x.p 0<0 then 6 else 0
def Pl.takeN(s:Pl.Nt)(x:Pl.Ac):Pl.Nt:=if mP (s.P x.a.toNat) x.p 0<0 then s else{s with P:=cZ s.P x.a.toNat ((s.P x.a.toNat).take (mP (s.P x.a.toNat) x.p 0).toNat++(s.P x.a.toNat).drop ((mP (s.P x.a.toNat) x.p 0).toNat+1))}
theorem Pl.Ur:∀(ps:List (Int×Int)) (p:Int×Int) (i:Int),mP ps p i= -1\/(i<=mP ps p i/\mP ps p i<i+ps.length)
 | [],_,_=> .inl rfl
 |q::r,p,i=>by
  show(if q=p then i else mP r p (i+1))= -1\/(i<=(if q=p then i else mP r p (i+1))/\(if q=p then i else mP r p (i+1))<i+((r.length+1:Nat):Int));by_cases h:q=p
  ·rw [af h];right;omega
  ·rw [ag h];rcases Ur r p (i+1)with e|⟨b,a⟩
   ·exact .inl e
   ·right;omega
theorem bG.grown{B:Nat}{w w':xh}{v:xx}{ps:List (Int×Int)}(h:w.grownBy w' v.ownBlock)(b:bJ w (B+1) v ps):bG B w w':=by
 refine⟨h.os,h.tape,h.output,h.size,fun k c f a=>h.block k c ?_⟩;obtain⟨_,⟨rfl,_⟩|⟨g,cap,cur,rfl,d,hh,_⟩⟩:=b
 ·simp [SQ]
 ·intro e;simp [SQ]at e;subst e;rcases a with h|h
  ·omega
  ·exact h _ _ hh
theorem aT.ade{w w':xh}{B:Nat}{s:Pl.Nt}{c r p:Nat->xx}{a:Nat}(ha:a<12)(A:fG w B s.D c r p s.L)(m:∀i,i<12->bJ w (B+1) (c i) (s.P i))(z:∀i,i<12->Own w (B+1) (r i) (s.K i))(J:∀i,i<12->∃t,dG w (B+1) (p i) t (s.T i))(o:∀i j,i<12->j<12->i≠j->(c i).ownBlock=none\/(c i).ownBlock≠(c j).ownBlock)(h:w.grownBy w' (c a).ownBlock)(v:xx)(ps:List (Int×Int))(I:bJ w' (B+1) v ps)(he:v.ownBlock=(c a).ownBlock):aT (w'.setCell ⟨B,a*4+1,none⟩ v) B {s with P:=cZ s.P a ps}:=by
 have u:∀k,(c a).ownBlock=some k->k≠B:=by
  intro k n;obtain⟨_,⟨e,_⟩|⟨g,cap,cur,e,l,_⟩⟩:=m a ha
  ·rw [e]at n;cases n
  ·rw [e]at n;simp [SQ]at n;omega
 have x:fG w' B s.D c r p s.L:=(h.block B A.lt (fun e=>u B e.symm rfl)).trans A;have l:aI B w' (w'.setCell ⟨B,a*4+1,none⟩ v):=(aI.refl B w').setCell _ _;refine⟨cZ c a v,r,p,x.qY a ha v,fun i b=> ?_,fun i b=>dL (Rw (z i b) h (yI (by decide) (z i b) (m a ha))) l (OI _),fun i b=> ?_,fun i j b f d=> ?_⟩
 ·unfold cZ;by_cases e:i=a
  ·rw [af e];simp only [af e];exact dL I l (OI _)
  ·rw [ag e];simp only [ag e];exact dL (Rw (m i b) h (o i a b ha e)) l (OI _)
 ·obtain⟨t,q⟩:=J i b;refine⟨t,dG.but (w:=w') ⟨Rw q.1 h (yI (by decide) q.1 (m a ha)),q.2.1,fun j f=> ?_⟩ l (OI _)⟩;obtain⟨H,G,F,y,E⟩:=q.2.2 j f;exact⟨H,G,F,Rw y h (yI (by decide) y (m a ha)),E⟩
 ·unfold cZ;by_cases e:i=a
  ·subst e;rw [af rfl,ag (Ne.symm d),he];exact o i j b f d
  ·rw [ag e];by_cases C:j=a
   ·subst C;rw [af rfl,he];exact o i j b f d
   ·rw [ag C];exact o i j b f d
theorem Og(B:Nat)(s:Pl.Nt)(x:Pl.Ac)(a:Nat)(w:xh)(h:aT w B s)(X:x.a=a)(ha:a<12)(Y0:∀p∈s.P a,dJ p)(aE:(s.P a).length<=6):
  Ah oC 114 #[.pointer (some ⟨B,0,none⟩),.agg #[.int .i64 x.kind,.int .i64 x.a,.int .i64 x.b,.int .i64 x.n,.int .i64 x.m,.int .i64 x.p.1,.int .i64 x.p.2,.string x.key,.string x.val]] w fun e w'=>
   e= .returned (.agg #[.int .i64 (Eh s x),.slice none 0 0,.int .i64 0,.slice none 0 0])/\aT w' B (Pl.takeN s x)/\bG B w w':=by
 have HN:=ae h;have bo:=h.lt;have Xb:=ae Y0;clear h Y0;obtain⟨cd,jC⟩:=ai (Eh s x);obtain⟨sn,yQ⟩:=ai (Pl.takeN s x);have D:xn (cd=if mP (s.P x.a.toNat) x.p 0<0 then 6 else 0):=ae jC.out.symm;have C:xn (sn=if mP (s.P x.a.toNat) x.p 0<0 then s else{s with P:=cZ s.P x.a.toNat ((s.P x.a.toNat).take (mP (s.P x.a.toNat) x.p 0).toNat++(s.P x.a.toNat).drop ((mP (s.P x.a.toNat) x.p 0).toNat+1))}):=ae yQ.out.symm;rw [jC.out,yQ.out];clear jC yQ;obtain⟨kind,xa,b,n,m,⟨p1,p2⟩,key,val⟩:=x;simp only at X D C⊢;subst X;rw [aaL]at D C;have bm:(a:Int)<12:=by omega
 have xM:=ae (fun(c:Int) (W:xh)=>fJ c W);obtain⟨b0,b1,bz,bb⟩:=two (w:=w) (.cells #[.int .i64 kind,.int .i64 (a:Int),.int .i64 b,.int .i64 n,.int .i64 m,.int .i64 p1,.int .i64 p2,.string key,.string val] 51) (.cells #[.int .i64 0,.slice none 0 0,.int .i64 0,.slice none 0 0] 40);obtain⟨W2,aw⟩:=aV ((w.alloc (.cells #[.int .i64 kind,.int .i64 (a:Int),.int .i64 b,.int .i64 n,.int .i64 m,.int .i64 p1,.int .i64 p2,.string key,.string val] 51)).alloc (.cells #[.int .i64 0,.slice none 0 0,.int .i64 0,.slice none 0 0] 40));rw [<-aw.out]at b0 b1 bz bb;obtain⟨q0,q1,q2,q3,q4,q5,q6,q7,q8⟩:=kz b0;have nH:=ae b1;have sU:=ae bb;have Q5:=ae q5;have Q6:=ae q6;have V:w.heap.size<W2.heap.size:=by omega
 have OT:B<W2.heap.size:=by omega
 have hle:w.heap.size<=w.heap.size+1:=by omega
 have bj:B≠w.heap.size+1:=by omega
 have r:w.heap.size+1≠B:=by omega
 clear q0 q2 q3 q4 q5 q6 q7 q8 b0 b1 bb;go_enter Tryz.func114,Tryz.ntmps114;go_wp2_with fail;rw [<-aw.out];go_quiet (fail);clear q1;go_wp2_with fail;obtain⟨J,av⟩:=aV (W2.drewN nq);rw [<-av.out];have U:xn (rU W2.heap.size W2 J):=ae (by rw [av.out];exact aO (qh _ _) _);have K:xn (rU w.heap.size w J):=ae (sU.out.trans (U.out.mono (by omega)));have bk:=U.out.size;obtain⟨VP,VK,VT,h1,h2,h3,h4,h5⟩:=HN.out.below K.out;obtain⟨T,S,ev,Z,_,_⟩:=(h2 a ha).shape Xb.out;have o:=h1.jh a ha;rw [ev]at o;have H:=h1.lt;have Rj:w.heap.size<J.heap.size:=by omega
 have g5:=(U.out.cell (p:=⟨w.heap.size,5,none⟩) V).trans Q5.out;have g6:=(U.out.cell (p:=⟨w.heap.size,6,none⟩) V).trans Q6.out;obtain⟨R,HR⟩:=ai (mP (s.P a) (p1,p2) 0);have Ql:xn (∀x:WO J,Ah oC 159 #[.slice T (s.P a).length S,.agg #[.int .i64 p1,.int .i64 p2]] x.w fun e w'=>e= .returned (.int .i64 R)/\rU x.w.heap.size x.w w'):=ae fun x=>by
  have:=SH T _ S (s.P a) p1 p2 x.w (Z.below x.h);rwa [HR.out]at this
 obtain⟨pl,L⟩:=ai ((s.P a).length);rw [L.out]at Ql o aE;have bg:=ae h2;have i1:=aC H o;have i5:=aC Rj g5;have i6:=aC Rj g6;have aL:=dO J;have bc:=ae o;have a8:=ae h1;have a7:xn (∀W5 d v6 ps,rU J.heap.size J W5->W5.grownBy d (VP a).ownBlock->bJ d (B+1) v6 ps->v6.ownBlock=(VP a).ownBlock->aT (d.setCell ⟨B,a*4+1,none⟩ v6) B {s with P:=cZ s.P a ps}):=ae fun W5 d v6 ps M hg hv he=>
  aT.ade ha (h1.below M) (fun i z=>(h2 i z).below M) (fun i z=>(h3 i z).below M) (fun i z=>by obtain⟨hs,q⟩:=h4 i z;exact⟨hs,q.below M⟩) h5 hg v6 ps hv he
 have aD:=ae ev;clear h1 h2 h3 h4 h5 Z o g5 g6 ev;refine aN (by kernel_rfl) (by kernel_rfl) ?_;repeat (go_big_quiet_step ((go_at_call 159;exact dP (Ql.out _))))
 refine Iy ?_;intro t Y;have f:=eU Y;clear Y i1 i5 i6 aL;have jP:xn (rU w.heap.size w t):=ae (K.out.trans (f.mono K.out.size));have Ky:=ae ((f.block _ (by omega)).trans ((U.out.block _ (by omega)).trans nH.out));have oq:=f.size;have Y1:=(f.cell (p:=⟨B,a*4+1,none⟩) H).trans bc.out;have G:B<t.heap.size:=by omega
 rw [HR.out]at D C;have y:xn (bJ t (B+1) (.slice T pl S) (s.P a)):=ae (by have:=(bg.out a ha).below f;rw [aD.out,L.out]at this;exact this);have aq:xn (VP a= .slice T pl S):=ae (by rw [aD.out,L.out]);have ar:=ae f;clear f;by_cases N:R<0
 ·have a6:decide (R<0)=true:=by simpa using N
  rw [af N]at D C;clear N Y1;go_wp2_with fail;refine(xM.out 6 _).mono ?_;rintro e d ⟨rfl,F⟩;have an:=(F.block _ (aG Ky.out)).trans Ky.out;have vW:=ae (jP.out.trans (F.mono jP.out.size));obtain⟨⟨y0,y1,y2,y3⟩,yf,yl⟩:=aS an;clear F an;go_wp2_with fail;have A:=(((vW.out.setCell (p:=⟨w.heap.size+1,0,none⟩) hle (.int .i64 6)).setCell (p:=⟨w.heap.size+1,1,none⟩) hle (.slice none 0 0)).setCell (p:=⟨w.heap.size+1,2,none⟩) hle (.int .i64 0)).setCell (p:=⟨w.heap.size+1,3,none⟩) hle (.slice none 0 0);refine aak (v:= .agg #[.int .i64 6,.slice none 0 0,.int .i64 0,.slice none 0 0]) (by simp [results,Tryz.results114,go_sem,y0,y1,y2,y3]) rfl ⟨by rw [D.out],?_,bG.of (aI.of A)⟩;rw [C.out];exact HN.out.below A
 ·have a6:decide (R<0)=false:=by simpa using N
  rw [ag N]at D C;obtain⟨k,rfl⟩:∃k:Nat,R=k:=⟨R.toNat,by omega⟩
  have aM:k<pl:=by
   rcases Ur (s.P a) (p1,p2) 0 with e|⟨_,e⟩
   ·rw [HR.out]at e;omega
   ·rw [HR.out,L.out]at e;omega
  rw [aaL]at C;have bh:=ae (PZ (B+1) (.slice T pl S) (s.P a) k t y.out (by rw [L.out];exact aM) (by rw [L.out];omega));have bl:IntKind.i64.wrap ((k:Int)+1)=(k:Int)+1:=by rw [Rq];omega
  clear N;go_wp2_with fail;refine bh.out.mono ?_;rintro e d ⟨v6,rfl,I7,Qc,ak⟩;have u:=bG.grown Qc y.out;have Z8:=ae ((u.block _ (aG Ky.out) r (.inr (by intro cur m e;rw [Ky.out]at e;simp at e))).trans Ky.out);have ad:∀j:Nat,d.cell? ⟨B,j,none⟩=t.cell? ⟨B,j,none⟩:=fun j=>by
   have E:d.heap[B]? =t.heap[B]? :=Qc.block B G (fun e=>by
    obtain⟨_,⟨I,_⟩|⟨g,cap,cur,I,M,_⟩⟩:=y.out
    ·rw [I]at e;cases e
    ·rw [I]at e;simp [SQ]at e;omega)
   simp [abr,E]
  have aa:∀j:Nat,d.frozen? ⟨B,j,none⟩=t.frozen? ⟨B,j,none⟩:=fun j=>by
   have E:d.heap[B]? =t.heap[B]? :=Qc.block B G (fun e=>by
    obtain⟨_,⟨I,_⟩|⟨g,cap,cur,I,M,_⟩⟩:=y.out
    ·rw [I]at e;cases e
    ·rw [I]at e;simp [SQ]at e;omega)
   simp [Xc,E]
  have bp:=(ad (a*4+1)).trans Y1;have bq:d.frozen? ⟨B,a*4+1,none⟩=false:=(aa (a*4+1)).trans ((ar.out.frozen (p:=⟨B,a*4+1,none⟩) H).trans (a8.out.soft (a*4+1)));have JX:B<d.heap.size:=Tn G u.size;have ay:=ae (a7.out t d v6 _ ar.out (by rw [aq.out];exact Qc) I7 (by rw [aq.out];exact ak));obtain⟨va,vc,rfl⟩:=az I7;have bd:=ae u;obtain⟨vn,ba⟩:=ai (((s.P a).take k++(s.P a).drop (k+1)).length);rw [ba.out]at ay⊢;obtain⟨⟨y0,y1,y2,y3⟩,yf,yl⟩:=aS Z8.out;clear I7 Qc ak u ad aa Y1;go_wp2_with fail;obtain⟨Q,ET⟩:=aV (d.setCell ⟨B,a*4+1,none⟩ (.slice va vn vc));have vU:xn (aI B d Q):=ae (by rw [ET.out];exact(aI.refl B d).setCell _ _);have yP:=ae ((vU.out.block _ yl r).trans Z8.out);rw [<-ET.out]
  obtain⟨Wf,uC⟩:=aV (jy Q (w.heap.size+1) (.int .i64 0) (.slice none 0 0) (.int .i64 0) (.slice none 0 0));have O:aI (w.heap.size+1) Q Wf:=by rw [uC.out];exact jF (aI.refl (w.heap.size+1) Q) _ _ _ _
  have aR:Wf.heap[w.heap.size+1]? =some (.cells #[.int .i64 0,.slice none 0 0,.int .i64 0,.slice none 0 0] 40):=by
   rw [uC.out];exact lL yP.out _ _ _ _
  obtain⟨⟨z0,z1,z2,z3⟩,_,_⟩:=aS aR;rw [show(((Q.setCell ⟨w.heap.size+1,0,none⟩ (.int .i64 0)).setCell ⟨w.heap.size+1,1,none⟩ (.slice none 0 0)).setCell ⟨w.heap.size+1,2,none⟩ (.int .i64 0)).setCell ⟨w.heap.size+1,3,none⟩ (.slice none 0 0)=Wf from uC.out.symm];refine aak (v:= .agg #[.int .i64 0,.slice none 0 0,.int .i64 0,.slice none 0 0]) (by simp [results,Tryz.results114,go_sem,z0,z1,z2,z3]) rfl ⟨by rw [D.out],?_,?_⟩
  ·rw [C.out];refine aT.ql ?_ O yP.out r;rw [ET.out];exact ay.out
  ·have l:bG B w Q:=((bG.of (aI.of jP.out)).trans bd.out).trans (bG.of vU.out);exact⟨O.os.trans l.os,O.tape.trans l.tape,O.output.trans l.output,OO l.size O.size,fun i z hB ht=>(O.block i (Tn z l.size) (by omega)).trans (l.block i z hB ht)⟩
end Go.Proofs.YtjjelkdajdeikaaGreatDoor
