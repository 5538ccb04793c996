/-
  Facts put together.
-/
import Derived.Test.YtjjelkdajdeikaaGreatDoorNetRunsC13
import Derived.Deep.RegionHeld3
open Int renaming toNat_natCast→oC,tmod_eq_emod_of_nonneg→Tq,eq_ofNat_of_zero_le→UX
open Go.RowKit.Below renaming refl→oP,drew→Qd
open Go renaming World→qh,undef→qL,Value→xx,wp_ret→Jj,maxLen→Jk,wpList_load_mid→OE,Calls→O6,wpQuiet_nil→Pe,getD_set_ne→Rq,wp_append_own→Xh,Act→Z5
open Go.RowKit renaming Hid→rU,Below→Ah,intOf→Eb
open Go.Proofs.Tryz renaming prog→xh,underlying33→IA,underlying29→MJ,f47→Xc
open Go.Oper renaming wp→xk
open Nat renaming zero_le→xn,le_refl→BD,lt_of_lt_of_le→GX,le_trans→PW,lt_or_ge→Rw,le_of_lt→Wq,lt_succ_self→aae
open Go.World renaming setCell→BG,frozen?_setCell→Ee,cell?_of_block→OM,frozen?_of_block→Qi,cell?→aah
open List renaming getD_eq_getElem?_getD→GM,length_append→LM,drop_eq_nil_of_le→OG,append_nil→OO,getElem?_eq_none→Ru,take_length→Rz,getElem?_eq_getElem→Uz,getD→aab,length_set→aaf
open Go.World.ownsRow renaming lt→Iy,kept→aai,alloc→aaj
open Array renaming getElem?_setIfInBounds_ne→OI,replicate→SN,getElem?_modify→VB
open UInt8 renaming ofNat→Qe,toNat_lt→Tf,ofNat_toNat→Zf
open Bool renaming eq_iff_iff→SQ,and_eq_true→aac
open Go.Region renaming wanted→Tn
open Option.some renaming inj→UQ
open Go.Act renaming put→WZ
open Go.IntKind renaming wrap_i64→X6
open Ne renaming symm→aad
open Exists renaming intro→aag
open Go.Code renaming region→aak
set_option maxHeartbeats 8000000
namespace Go.Proofs.YtjjelkdajdeikaaGreatDoor
open Pl
open Go.RowKit
set_option maxRecDepth 20000
theorem Pl.Le{x y:Int}(b:0<=x)(d:x<=1000)(a:0<=y)(c:y<=1000):dJ (x,y):=by
 exact gp ⟨by simpa using b,by simp;omega,by simpa using a,by simp;omega⟩
theorem ZC{w:qh}{B:Nat}{c0 c1 c2 b a:xx}{T:TypeId}(h:w.heap[B]? =some (.cells #[c0,c1,c2,b,a] T))(v:xx):(w.setCell ⟨B,3,none⟩ v).heap[B]? =some (.cells #[c0,c1,c2,v,a] T):=by
 have:=aG h;simp [BG,VB,h]
theorem ZB{w:qh}{B:Nat}{c0 c1 c2 a b:xx}{T:TypeId}(h:w.heap[B]? =some (.cells #[c0,c1,c2,a,b] T))(v:xx):(w.setCell ⟨B,4,none⟩ v).heap[B]? =some (.cells #[c0,c1,c2,a,v] T):=by
 have:=aG h;simp [BG,VB,h]
theorem bQ{n:Nat}{xs:List xx}(h:xs.length=n+1):∃x a,xs=x::a/\a.length=n:=by
 cases xs with
 |nil=>simp at h
 |cons x r=>exact⟨x,r,rfl,by simpa using h⟩
theorem adA(xs:List xx)(h:xs.length=5):∃e d c b a,xs= [e,d,c,b,a]:=by
 obtain⟨e,o,rfl,h0⟩:=bQ h;obtain⟨d,n,rfl,j⟩:=bQ h0;obtain⟨c,m,rfl,i⟩:=bQ j;obtain⟨b,l,rfl,g⟩:=bQ i;obtain⟨a,k,rfl,f⟩:=bQ g;obtain rfl:=List.length_eq_zero_iff.1 f;exact⟨e,d,c,b,a,rfl⟩
theorem aa8(xs:List xx)(h:xs.length=32):∃C B A z y x w v u t r q p D o n m l k j i s Au EX g f Z e d c b a,xs= [C,B,A,z,y,x,w,v,u,t,r,q,p,D,o,n,m,l,k,j,i,s,Au,EX,g,f,Z,e,d,c,b,a]:=by
 obtain⟨C,y0,rfl,h0⟩:=bQ h;obtain⟨B,y1,rfl,h1⟩:=bQ h0;obtain⟨A,y2,rfl,h2⟩:=bQ h1;obtain⟨z,y3,rfl,h3⟩:=bQ h2;obtain⟨y,y4,rfl,h4⟩:=bQ h3;obtain⟨x,y5,rfl,h5⟩:=bQ h4;obtain⟨w,y6,rfl,h6⟩:=bQ h5;obtain⟨v,y7,rfl,h7⟩:=bQ h6;obtain⟨u,y8,rfl,h8⟩:=bQ h7;obtain⟨t,y9,rfl,h9⟩:=bQ h8;obtain⟨r,bg,rfl,Y⟩:=bQ h9;obtain⟨q,bd,rfl,X⟩:=bQ Y;obtain⟨p,bc,rfl,W⟩:=bQ X;obtain⟨D,bb,rfl,V⟩:=bQ W;obtain⟨o,ba,rfl,G6⟩:=bQ V;obtain⟨n,a8,rfl,U⟩:=bQ G6;obtain⟨m,a7,rfl,T⟩:=bQ U;obtain⟨l,a6,rfl,S⟩:=bQ T;obtain⟨k,aR,rfl,R⟩:=bQ S;obtain⟨j,aM,rfl,Q⟩:=bQ R;obtain⟨i,aL,rfl,P⟩:=bQ Q;obtain⟨s,aE,rfl,O⟩:=bQ P;obtain⟨Au,aD,rfl,N⟩:=bQ O;obtain⟨EX,ay,rfl,M⟩:=bQ N;obtain⟨g,aw,rfl,L⟩:=bQ M;obtain⟨f,av,rfl,K⟩:=bQ L
 obtain⟨Z,ar,rfl,J⟩:=bQ K;obtain⟨e,aq,rfl,I⟩:=bQ J;obtain⟨d,an,rfl,H⟩:=bQ I;obtain⟨c,ak,rfl,G⟩:=bQ H;obtain⟨b,ad,rfl,F⟩:=bQ G;obtain⟨a,aa,rfl,E⟩:=bQ F;obtain rfl:=List.length_eq_zero_iff.1 E;exact⟨C,B,A,z,y,x,w,v,u,t,r,q,p,D,o,n,m,l,k,j,i,s,Au,EX,g,f,Z,e,d,c,b,a,rfl⟩
theorem aa7(xs:List xx)(h:xs.length=33):∃D C B A z y x w v u s r q E p o n m l k j t Au EX i g TF f e d c b a,xs= [D,C,B,A,z,y,x,w,v,u,s,r,q,E,p,o,n,m,l,k,j,t,Au,EX,i,g,TF,f,e,d,c,b,a]:=by
 obtain⟨D,y0,rfl,h0⟩:=bQ h;obtain⟨C,y1,rfl,h1⟩:=bQ h0;obtain⟨B,y2,rfl,h2⟩:=bQ h1;obtain⟨A,y3,rfl,h3⟩:=bQ h2;obtain⟨z,y4,rfl,h4⟩:=bQ h3;obtain⟨y,y5,rfl,h5⟩:=bQ h4;obtain⟨x,y6,rfl,h6⟩:=bQ h5;obtain⟨w,y7,rfl,h7⟩:=bQ h6;obtain⟨v,y8,rfl,h8⟩:=bQ h7;obtain⟨u,y9,rfl,h9⟩:=bQ h8;obtain⟨s,bj,rfl,aa⟩:=bQ h9;obtain⟨r,bh,rfl,Z⟩:=bQ aa;obtain⟨q,bg,rfl,Y⟩:=bQ Z;obtain⟨E,bd,rfl,X⟩:=bQ Y;obtain⟨p,bc,rfl,G6⟩:=bQ X;obtain⟨o,bb,rfl,W⟩:=bQ G6;obtain⟨n,ba,rfl,V⟩:=bQ W;obtain⟨m,a8,rfl,U⟩:=bQ V;obtain⟨l,a7,rfl,T⟩:=bQ U;obtain⟨k,a6,rfl,S⟩:=bQ T;obtain⟨j,aR,rfl,R⟩:=bQ S;obtain⟨t,aM,rfl,Q⟩:=bQ R;obtain⟨Au,aL,rfl,P⟩:=bQ Q;obtain⟨EX,aE,rfl,O⟩:=bQ P;obtain⟨i,aD,rfl,N⟩:=bQ O;obtain⟨g,ay,rfl,M⟩:=bQ N
 obtain⟨TF,aw,rfl,L⟩:=bQ M;obtain⟨f,av,rfl,K⟩:=bQ L;obtain⟨e,ar,rfl,J⟩:=bQ K;obtain⟨d,aq,rfl,I⟩:=bQ J;obtain⟨c,an,rfl,H⟩:=bQ I;obtain⟨b,ak,rfl,G⟩:=bQ H;obtain⟨a,ad,rfl,F⟩:=bQ G;obtain rfl:=List.length_eq_zero_iff.1 F;exact⟨D,C,B,A,z,y,x,w,v,u,s,r,q,E,p,o,n,m,l,k,j,t,Au,EX,i,g,TF,f,e,d,c,b,a,rfl⟩
theorem PE(a:Option Addr)(len cap:Nat)(es:List aK)(f:Int)(w:qh)(h:bI w a len cap es):
  O6 xh 85 #[.slice a len cap,.int .i64 f] w fun e w'=>∃v u,e= .returned (.tuple #[v,.int .i64 (je es f)])/\dG w' w.heap.size v u (uF es f)/\Ah w.heap.size w w':=by
 have HE:=ae h;clear h;obtain⟨cd,jC⟩:=ai (je es f);rw [jC.out];go_enter Tryz.func85,Tryz.ntmps85;go_wp2_with fail;refine(SA a len cap es f w HE.out).mono ?_;rw [jC.out];rintro e o ⟨v2,ts,rfl,bh,bj,aD⟩;have ar:=ae aD;by_cases ay:cd=0
 ·subst ay;have XA:rU (Pl.fault es=0):=ae (by
   have:=jC.out;unfold je at this;split at this
   ·rename_i h;exact absurd this h
   ·rename_i h;exact Classical.not_not.1 h)
  have cp:0<=f/\f<=11:=by
   have:=jC.out;unfold je at this;split at this
   ·rename_i h;exact absurd this h
   ·split at this
    ·assumption
    ·cases this
  obtain⟨n,rfl⟩:∃n:Nat,f=n:=⟨f.toNat,by omega⟩
  have hn:n<12:=by omega
  have UN:rU (uF es (n:Int)=Pl.rA es n 256):=ae (by unfold uF;rw [jC.out,af rfl,oC,adr es hn]);obtain⟨g2,c2,rfl,cI,cn,aE⟩:=bh.agr (bj.trans (UZ es _).symm) jC.out;unfold Jk at cn;have ba:=ae aE;have bc:=ae (HE.out.below aD);have G:=aE.1;clear bh bj aD aE cp;go_wp2_with fail;go_loopw [8,9] (fun v i wr=>∃(k:Nat) (u:List Pl.RH),k<=256/\i= .int .i64 k/\rU (dG wr o.heap.size v u (Pl.rA es n k))/\rU (Ah o.heap.size o wr)) (fun _ i _=>256-(Eb i).toNat)
  case atStart=>exact⟨0,[],by omega,rfl,ae (dG.nil _ _),ae (oP _ _)⟩
  case round=>
   obtain⟨k,u,hk,rfl,HO,HB⟩:=hrel;by_cases cG:k<256
   ·have cL:decide ((k:Int)<=255)=true:=by simp;omega
    go_wp2_with fail;go_loopw [8,10] (fun vl i wr=>∃(b:Nat) (v:xx) (u:List Pl.RH),v=vl/\b<=9/\i= .int .i64 b/\rU (dG wr o.heap.size v u (Pl.rA es n k++Pl.rB es n k b))/\rU (Ah o.heap.size o wr)) (fun _ i _=>9-(Eb i).toNat)
    case atStart=>exact⟨0,_,u,rfl,by omega,rfl,ae (by rw [show Pl.rB es n k 0= []from rfl,OO];exact HO.out),HB⟩
    case round=>
     clear HO HB u;obtain⟨b,v,u,ck,cJ,rfl,HO,HB⟩:=hrel;subst ck;have IG:=HB.out.size;by_cases cE:b<9
     ·have cK:decide ((b:Int)<=8)=true:=by simp;omega
      obtain⟨sp,MZ⟩:=ai (Pl.span (b:Int));have cl:=FN (b:=(b:Int)) (by omega);have bd:=ae (fun W=>zH (b:Int) W (by omega));rw [MZ.out]at cl bd;have Rk:(k:Int).tmod sp=(k:Int)%sp:=Tq (by omega);have cF:(sp==0)=false:=by simp;omega
      obtain⟨rm,br⟩:=ai ((k:Int)%sp);rw [br.out]at Rk;have bb:rU (Pl.rX es n k b=if rm=0 then(Pl.rRt (Pl.wC es n) (Pl.wH es n) (Pl.tP es) n ((k:Int),(b:Int))).toList else []):=ae (by unfold Pl.rX;rw [MZ.out,br.out]);have ak:rU (Pl.rA es n k++Pl.rB es n k (b+1)=(Pl.rA es n k++Pl.rB es n k b)++Pl.rX es n k b):=ae (by rw [List.append_assoc];rfl);obtain⟨W1,ad⟩:=aV (wr.alloc (.cells #[.int .i64 k,.int .i64 b] 49));have yL:rU (W1.heap[wr.heap.size]? =some (.cells #[.int .i64 k,.int .i64 b] 49)):=ae (by rw [ad.out];exact ji wr _);have bg:rU (Ah wr.heap.size wr W1):=ae (by rw [ad.out];exact(oP _ _).alloc (BD _) _);have Jm:rU (Ah o.heap.size o W1):=ae (HB.out.trans (bg.out.mono IG));by_cases D:rm=0
      ·have cx:(rm != 0)=false:=by simp [D]
       go_wp2_with (go_at_call 121;refine(bd.out _).mono ?_;rintro e w' ⟨rfl,C⟩;rw [C];clear C w');rw [<-ad.out];obtain⟨P0,P1,U⟩:rU (W1.cell? ⟨wr.heap.size,0,none⟩=some (.int .i64 k))/\rU (W1.cell? ⟨wr.heap.size,1,none⟩=some (.int .i64 b))/\wr.heap.size<W1.heap.size:=by
        have:=aQ yL.out;exact⟨ae this.1,ae this.2.1,this.2.2.2.2⟩
       obtain⟨R,HR⟩:=ai (decide (((k:Int),(b:Int))∈Pl.tP es n));refine aff (n:=n) (k:=k) (b:=b) (pb:=wr.heap.size) (R:=R) rfl rfl rfl rfl (bc.out.below Jm.out) XA.out hn U P0.out P1.out HR.out ?_ _ (by kernel_rfl)
       ·intro xs q s hx bl;rename_i K hK;obtain⟨x0,x1,x2,x3,x4,rfl⟩:=adA xs s;have hx:x4= .bool R:=hx;subst hx;have M:=ae bl;clear bl s;rw [dC];dsimp only [spl];refine hK _ q ?_;have X:rU (Ah o.heap.size o q):=ae (Jm.out.trans (M.out.mono Jm.out.size));have an:=ae ((HO.out.below bg.out).below M.out);have p0:=(M.out.cell (p:=⟨wr.heap.size,0,none⟩) U).trans P0.out;have p1:=(M.out.cell (p:=⟨wr.heap.size,1,none⟩) U).trans P1.out;have VR:wr.heap.size<q.heap.size:=GX U M.out.size;have aw:=X.out.size;have Xb:rU (dJ ((k:Int),(b:Int))):=ae (Le (by omega) (by omega) (by omega) (by omega));have av:rU (u.length<=4000):=ae (by
         rw [HO.out.2.1,LM];have:=(QI (es:=es) hn k).2;have:=(QH (es:=es) hn k b).2;omega)
        cases R with
        |true=>
         have cz:rU (Pl.rX es n k b= [⟨((k:Int),(b:Int)),true,0,[]⟩]):=ae (by
          rw [bb.out,af D];unfold Pl.rRt;rw [af (of_decide_eq_true HR.out)];rfl)
         go_wp2_with (at_builtin;refine uz rfl (.tmp 47) (.tmp 50) rfl o.heap.size v u ⟨((k:Int),(b:Int)),true,0,none,0,0⟩ rfl an.out.1 aw rfl (by have:=av.out;omega) ?_;intro v5 w5 P F d;have oL:=ae (an.out.snoc (r:=⟨((k:Int),(b:Int)),true,0,[]⟩) ⟨rfl,rfl,rfl,dI.nil _ _,Xb.out⟩ P F);have jP:=ae d;clear P F d);go_roundw
         case rel=>exact⟨b+1,_,_,rfl,by omega,by go_num,ae (by rw [ak.out,cz.out];exact oL.out),ae (X.out.trans jP.out)⟩
         case measure=>simp [Eb];omega
        |false=>
         have bo:rU (Pl.rX es n k b=if Pl.rMin (Pl.wC es n) (Pl.tP es) n ((k:Int),(b:Int)) 12<0 then []else [⟨((k:Int),(b:Int)),false,Pl.rMin (Pl.wC es n) (Pl.tP es) n ((k:Int),(b:Int)) 12,Pl.hopsL (fun h=>kM (Pl.wC es n) (Pl.wH es n) (Pl.tP es) n ((k:Int),(b:Int)) (Pl.rMin (Pl.wC es n) (Pl.tP es) n ((k:Int),(b:Int)) 12) (h:Int) 12) 12⟩]):=ae (by
          rw [bb.out,af D];unfold Pl.rRt;rw [ag (of_decide_eq_false HR.out)];split
          ·rfl
          ·rfl)
         go_wp2_with fail;generalize wr.heap.size=pb at*;go_loopw [13] (fun i y=>∃j:Nat,j<=12/\i= .int .i64 j/\rU (y.heap[q.heap.size]? =some (.cells #[.int .i64 k,.int .i64 b,.bool false,.int .i64 (Pl.rMin (Pl.wC es n) (Pl.tP es) n ((k:Int),(b:Int)) j),.slice none 0 0] 80))/\rU (Ah q.heap.size q y)) (fun i _=>12-(Eb i).toNat)
         case atStart=>exact⟨0,by omega,rfl,ae (ji _ _),ae ((oP _ _).alloc (BD _) _)⟩
         case round=>
          obtain⟨j,hj,rfl,HX,Q⟩:=hrel;rename qh=>y
          have S:rU (Ah o.heap.size o y):=ae (X.out.trans (Q.out.mono aw));obtain⟨mm,aq⟩:=ai (Pl.rMin (Pl.wC es n) (Pl.tP es) n ((k:Int),(b:Int)) j);rw [aq.out]at HX;obtain⟨⟨_,_,_,r3,_⟩,rf,YZ⟩:=bx5 HX.out;have R3:=ae r3;have RF:=ae rf;have Zb:g2<y.heap.size:=GX G S.out.size;have Y:pb<y.heap.size:=GX VR Q.out.size;have aa:=ae ((Q.out.cell (p:=⟨pb,0,none⟩) VR).trans p0);have Z:=ae ((Q.out.cell (p:=⟨pb,1,none⟩) VR).trans p1);by_cases Ux:j<12
          ·have LJ:(j:Int)<12:=by omega
           obtain⟨c,HC⟩:=ai (Pl.wC es n j);have Z0:rU (y.cell? ⟨g2,j*2,none⟩=some (.int .i64 c)):=ae (by rw [<-HC.out];exact(S.out.cell (p:=⟨g2,j*2,none⟩) G).trans (ba.out.2 j Ux).1);have yS:rU (Pl.rMin (Pl.wC es n) (Pl.tP es) n ((k:Int),(b:Int)) (j+1)=if j≠n/\0<=c/\((k:Int),(b:Int))∈Pl.tP es j/\(mm<0\/c<mm)then c else mm):=ae (by rw [<-aq.out,<-HC.out];rfl);clear r3 rf;by_cases l:j=n
           ·have aR:((j:Int) != (n:Int))=false:=by simp [l]
            have B:rU (Pl.rMin (Pl.wC es n) (Pl.tP es) n ((k:Int),(b:Int)) (j+1)=mm):=ae (by rw [yS.out,ag (fun h=>h.1 l)]);clear l;go_wp2_with fail;go_quiet (fail);go_wp2_with fail;go_roundw
            case rel=>exact⟨j+1,by omega,by go_num,ae (by rw [B.out];exact HX.out),ae (aO Q.out _)⟩
            case measure=>simp [Eb];omega
           ·by_cases z:0<=c
            ·obtain⟨b3,O⟩:=ai (decide (((k:Int),(b:Int))∈Pl.tP es j));obtain⟨b4,V⟩:∃x,decide (mm<0)=x:=⟨_,rfl⟩
             obtain⟨b5,d⟩:∃x,decide (c<mm)=x:=⟨_,rfl⟩
             have B:rU (Pl.rMin (Pl.wC es n) (Pl.tP es) n ((k:Int),(b:Int)) (j+1)=if(b3&&(b4||b5))=true then c else mm):=ae (by
              rw [yS.out,<-O.out,<-V,<-d];congr 1
              simp [l,z])
             go_wp2_with fail;refine afe (n:=n) (k:=k) (b:=b) (pb:=pb) (j:=j) (g2:=g2) (c2:=c2) (rb:=q.heap.size) (c:=c) (mm:=mm) (b3:=b3) (b4:=b4) (b5:=b5) rfl rfl rfl rfl rfl rfl rfl (bc.out.below S.out) XA.out Y Zb YZ aa.out Z.out R3.out LJ (by simp;omega) Z0.out z O.out V d ?_ _ (by kernel_rfl)
             ·intro xs W s hx H;rename_i K hK;obtain⟨x0,x1,x2,x3,x4,x5,x6,x7,x8,x9,cg,cf,cc,pM,cb,ca,b9,b8,b7,b6,b2,zF,Au,EX,bX,bS,TF,bR,bO,bN,bL,bE,bB,rfl⟩:=aa7 xs s;have hx:bB= .bool (b3&&(b4||b5)):=hx;subst hx;have eH:=ae H;clear H s;rw [dC];dsimp only [spl];refine hK _ W ?_;have WW:=ae ((eH.out.block _ YZ).trans HX.out);have bp:=ae (Q.out.trans (eH.out.mono Q.out.size));generalize (b3&&(b4||b5))=res at*
              cases res with
              |true=>
               have z0:=(eH.out.cell (p:=⟨g2,j*2,none⟩) Zb).trans Z0.out;obtain⟨⟨_,_,_,r3,_⟩,rf,cM⟩:=bx5 WW.out;clear V d z;go_wp2_with fail;go_roundw
               case rel=>exact⟨j+1,by omega,by go_num,ae (by rw [B.out];exact ZC WW.out _),ae (bp.out.setCell (p:=⟨q.heap.size,3,none⟩) (BD _) _)⟩
               case measure=>simp [Eb];omega
              |false=>
               clear V d z;go_wp2_with fail;go_roundw
               case rel=>exact⟨j+1,by omega,by go_num,ae (by rw [B.out];exact WW.out),bp⟩
               case measure=>simp [Eb];omega
            ·have cP:decide (0<=c)=false:=by simpa using z
             have aR:((j:Int) != (n:Int))=true:=by simp;omega
             have z0:=Z0.out;have B:rU (Pl.rMin (Pl.wC es n) (Pl.tP es) n ((k:Int),(b:Int)) (j+1)=mm):=ae (by rw [yS.out,ag (fun h=>z h.2.1)]);clear z l;go_wp2_with fail;go_quiet (fail);go_wp2_with fail;go_roundw
             case rel=>exact⟨j+1,by omega,by go_num,ae (by rw [B.out];exact HX.out),ae (aO Q.out _)⟩
             case measure=>simp [Eb];omega
          ·obtain rfl:j=12:=by omega
           obtain⟨L,bw⟩:∃g:Nat->Bool,rU (∀h:Nat,kM (Pl.wC es n) (Pl.wH es n) (Pl.tP es) n ((k:Int),(b:Int)) mm (h:Int) 12=g h):=⟨fun h=>kM (Pl.wC es n) (Pl.wH es n) (Pl.tP es) n ((k:Int),(b:Int)) mm (h:Int) 12,ae fun _=>rfl⟩
           have bz:rU (Pl.rX es n k b=if mm<0 then []else [⟨((k:Int),(b:Int)),false,mm,Pl.hopsL L 12⟩]):=ae (by rw [bo.out,aq.out,show(fun h:Nat=>kM (Pl.wC es n) (Pl.wH es n) (Pl.tP es) n ((k:Int),(b:Int)) mm (h:Int) 12)=L from funext bw.out]);clear r3 rf;go_wp2_with fail;go_loopw [14] (fun i T=>∃(hh:Nat) (hv:xx),hh<=12/\i= .int .i64 hh/\rU (mm<0->hh=0)/\rU (T.heap[q.heap.size]? =some (.cells #[.int .i64 k,.int .i64 b,.bool false,.int .i64 mm,hv] 80))/\rU (oh T (q.heap.size+1) hv (Pl.hopsL L hh))/\rU (Ah q.heap.size q T)) (fun i _=>12-(Eb i).toNat)
           case atStart=>exact⟨0,_,by omega,rfl,ae (fun _=>rfl),HX,ae (oh.nil _ _),Q⟩
           case round=>
            clear HX Q S R3 RF aa Z Zb Y YZ aq bo;obtain⟨hh,hv,Za,rfl,cu,a8,HI,N⟩:=hrel;rename qh=>T
            have I:rU (Ah o.heap.size o T):=ae (X.out.trans (N.out.mono aw));have hlen:=DT L hh;obtain⟨a3,A,rfl⟩:=HI.out.slice;obtain⟨n3,pW⟩:=ai ((Pl.hopsL L hh).length);rw [pW.out]at a8 HI hlen;obtain⟨⟨y0,y1,y2,y3,y4⟩,yf,cj⟩:=bx5 a8.out;have cm:=N.out.size;by_cases E:mm<0
            ·obtain rfl:hh=0:=cu.out E;have cv:decide (0<=mm)=false:=by simp;omega
             have cr:rU (Pl.rX es n k b= []):=ae (by rw [bz.out,af E]);clear E;go_wp2_with fail;go_roundw
             case rel=>exact⟨b+1,_,u,rfl,by omega,by go_num,ae (by rw [ak.out,cr.out,OO];exact an.out.below N.out),I⟩
             case measure=>simp [Eb];omega
            ·have cv:decide (0<=mm)=true:=by simp;omega
             by_cases cD:hh<12
             ·have cS:(hh:Int)<12:=by omega
              clear y0 y1 y2 y4;go_wp2_with fail;go_loopw [15,16] (fun t i y=>∃(j:Nat) (tb:Bool),j<=12/\t= .bool tb/\i= .int .i64 j/\rU (kM (Pl.wC es n) (Pl.wH es n) (Pl.tP es) n ((k:Int),(b:Int)) mm (hh:Int) j=tb)/\rU (Ah T.heap.size T y)) (fun _ i _=>12-(Eb i).toNat)
              case atStart=>exact⟨0,false,by omega,rfl,rfl,ae rfl,ae (oP _ _)⟩
              case round=>
               obtain⟨j,tb,hj,rfl,rfl,bq,m⟩:=hrel;rename qh=>y
               have J:rU (Ah q.heap.size q y):=ae (N.out.trans (m.out.mono cm));have S:rU (Ah o.heap.size o y):=ae (I.out.trans (m.out.mono I.out.size));have a7:=ae ((m.out.block _ cj).trans a8.out);obtain⟨⟨_,_,_,r3,r4⟩,rf,YZ⟩:=bx5 a7.out;have R3:=ae r3;have Zb:g2<y.heap.size:=GX G S.out.size;have Y:pb<y.heap.size:=GX VR J.out.size;have aa:=ae ((J.out.cell (p:=⟨pb,0,none⟩) VR).trans p0);have Z:=ae ((J.out.cell (p:=⟨pb,1,none⟩) VR).trans p1);by_cases Ux:j<12
               ·have LJ:(j:Int)<12:=by omega
                obtain⟨c,HC⟩:=ai (Pl.wC es n j);have Z0:rU (y.cell? ⟨g2,j*2,none⟩=some (.int .i64 c)):=ae (by rw [<-HC.out];exact(S.out.cell (p:=⟨g2,j*2,none⟩) G).trans (ba.out.2 j Ux).1);have yS:rU (kM (Pl.wC es n) (Pl.wH es n) (Pl.tP es) n ((k:Int),(b:Int)) mm (hh:Int) (j+1)=(tb||(decide (j≠n)&&decide (c=mm)&&decide (((k:Int),(b:Int))∈Pl.tP es j)&&decide ((hh:Int)∈Pl.wH es n j)))):=ae (by rw [<-bq.out,<-HC.out];rfl);clear r4 rf
                cases tb with
                |true=>
                 have B:rU (kM (Pl.wC es n) (Pl.wH es n) (Pl.tP es) n ((k:Int),(b:Int)) mm (hh:Int) (j+1)=true):=ae (by rw [yS.out];rfl);go_wp2_with fail;go_quiet (fail);go_wp2_with fail;go_roundw
                 case rel=>exact⟨j+1,true,by omega,rfl,by go_num,B,ae (aO m.out _)⟩
                 case measure=>simp [Eb];omega
                |false=>
                 by_cases l:j=n
                 ·have aR:((j:Int) != (n:Int))=false:=by simp [l]
                  have B:rU (kM (Pl.wC es n) (Pl.wH es n) (Pl.tP es) n ((k:Int),(b:Int)) mm (hh:Int) (j+1)=false):=ae (by rw [yS.out];simp [l]);clear l;go_wp2_with fail;go_quiet (fail);go_wp2_with fail;go_roundw
                  case rel=>exact⟨j+1,false,by omega,rfl,by go_num,B,ae (aO m.out _)⟩
                  case measure=>simp [Eb];omega
                 ·by_cases bk:mm=c
                  ·subst bk;obtain⟨b3,O⟩:=ai (decide (((k:Int),(b:Int))∈Pl.tP es j));obtain⟨b4,bA⟩:=ai (decide ((hh:Int)∈Pl.wH es n j));have B:rU (kM (Pl.wC es n) (Pl.wH es n) (Pl.tP es) n ((k:Int),(b:Int)) mm (hh:Int) (j+1)=(b3&&b4)):=ae (by rw [yS.out,O.out,bA.out];simp [l]);obtain⟨ah,ch,a6,aM⟩:=(ba.out.2 j Ux).2;obtain⟨hl,cB⟩:=ai ((Pl.wH es n j).length);rw [cB.out]at a6 aM;have Z1:=ae ((S.out.cell (p:=⟨g2,j*2+1,none⟩) G).trans a6);have cC:=ae (aM.below S.out);clear a6 aM;go_wp2_with fail;refine afd (n:=n) (k:=k) (b:=b) (pb:=pb) (j:=j) (g2:=g2) (c2:=c2) (rb:=q.heap.size) (hh:=hh) (hl:=hl) (ch:=ch) (ah:=ah) (mm:=mm) (b3:=b3) (b4:=b4) rfl rfl rfl rfl rfl rfl rfl rfl rfl (bc.out.below S.out) XA.out Y Zb YZ aa.out Z.out R3.out LJ (by simp;omega) Z0.out Z1.out cC.out O.out bA.out ?_ _ (by kernel_rfl)
                   ·intro xs W s cq H;rename_i K hK;obtain⟨x0,x1,x2,x3,x4,x5,x6,x7,x8,x9,cg,cf,cc,pM,cb,ca,b9,b8,b7,b6,b2,zF,Au,EX,bX,bS,TF,bR,bO,bN,bL,bE,rfl⟩:=aa8 xs s;have eH:=ae H;clear H s cq;simp only [List.setIfInBounds_toArray,List.set_cons_succ,List.set_cons_zero];rw [dC];dsimp only [spl];refine hK _ W ?_;go_wp2_with fail;go_roundw
                    case rel=>exact⟨j+1,_,by omega,rfl,by go_num,B,ae (m.out.trans (eH.out.mono m.out.size))⟩
                    case measure=>simp [Eb];omega
                  ·have cR:(c==mm)=false:=by simp;omega
                   have aR:((j:Int) != (n:Int))=true:=by simp;omega
                   have z0:=Z0.out;have B:rU (kM (Pl.wC es n) (Pl.wH es n) (Pl.tP es) n ((k:Int),(b:Int)) mm (hh:Int) (j+1)=false):=ae (by rw [yS.out,show decide (c=mm)=false by simp;omega];simp);clear bk l;go_wp2_with fail;go_quiet (fail);go_wp2_with fail;go_roundw
                   case rel=>exact⟨j+1,false,by omega,rfl,by go_num,B,ae (aO m.out _)⟩
                   case measure=>simp [Eb];omega
               ·obtain rfl:j=12:=by omega
                have bx:rU (L hh=tb):=ae (by rw [<-bw.out,bq.out]);have bt:=ae (HI.out.below m.out);have cN:=m.out.size
                cases tb with
                |true=>
                 have aL:=ae (wW bx.out);clear r3;go_wp2_with (at_builtin;refine nX Tryz.underlying37 rfl (.tmp 144) (.tmp 146) rfl (q.heap.size+1) (.slice a3 n3 A) (Pl.hopsL L hh) hh rfl bt.out (by omega) rfl (by have:=pW.out;omega) ?_;intro v5 w5 P d;obtain⟨a5,bm,rfl⟩:=P.slice;obtain⟨n5,Xd⟩:=ai ((Pl.hopsL L hh++ [(hh:Int)]).length);rw [Xd.out]at P;have oL:=ae P;have jP:=ae d;have h5:=(d.block q.heap.size (aae _)).trans a7.out;obtain⟨⟨_,_,_,_,k4⟩,kf,cH⟩:=bx5 h5;have H5:=ae h5;rw [Xd.out];clear P d h5);go_roundw
                 case rel=>
                  repeat apply aag
                  refine⟨⟨hh+1,.slice a5 n5 bm,by omega,by go_num,ae (fun h=>absurd h (by omega)),ae (ZB H5.out _),ae ?_,ae ((J.out.trans (jP.out.mono (Nat.le_succ _))).setCell (p:=⟨q.heap.size,4,none⟩) (BD _) _)⟩,rfl⟩;rw [aL.out];exact ownsRow_setCell_below oL.out (aae _) _
                 case measure=>simp [Eb];omega
                |false=>
                 have aL:=ae (pR bx.out);go_wp2_with fail;go_roundw
                 case rel=>
                  repeat apply aag
                  exact⟨⟨hh+1,.slice a3 n3 A,by omega,by go_num,ae (fun h=>absurd h (by omega)),a7,ae (by rw [aL.out];exact bt.out),J⟩,rfl⟩
                 case measure=>simp [Eb];omega
             ·obtain rfl:hh=12:=by omega
              have ct:rU (Pl.rX es n k b= [⟨((k:Int),(b:Int)),false,mm,Pl.hopsL L 12⟩]):=ae (by rw [bz.out,ag E]);have bs:=ae (an.out.below N.out);have cy:=I.out.size;have cA:rU (dI T o.heap.size (.slice a3 n3 A) (Pl.hopsL L 12)):=ae (dI.mono (show dI T (q.heap.size+1) _ _ from HI.out) (by omega));clear E;go_wp2_with (at_builtin;refine uz rfl (.tmp 152) (.tmp 154) rfl o.heap.size v u ⟨((k:Int),(b:Int)),false,mm,a3,n3,A⟩ rfl bs.out.1 cy rfl (by have:=av.out;omega) ?_;intro v5 w5 P F d;have oL:=ae (bs.out.snoc (r:=⟨((k:Int),(b:Int)),false,mm,Pl.hopsL L 12⟩) ⟨rfl,rfl,rfl,cA.out,Xb.out⟩ P F);have jP:=ae d;clear P F d);go_roundw
              case rel=>exact⟨b+1,_,_,rfl,by omega,by go_num,ae (by rw [ak.out,ct.out];exact oL.out),ae (I.out.trans jP.out)⟩
              case measure=>simp [Eb];omega
      ·have cx:(rm != 0)=true:=by simpa using D
       go_wp2_with (go_at_call 121;refine(bd.out _).mono ?_;rintro e w' ⟨rfl,C⟩;rw [C];clear C w');rw [<-ad.out];go_roundw
       case rel=>exact⟨b+1,_,u,rfl,by omega,by go_num,ae (by rw [ak.out,bb.out,ag D,OO];exact HO.out.below bg.out),Jm⟩
       case measure=>simp [Eb];omega
     ·obtain rfl:b=9:=by omega
      go_wp2_with fail;go_roundw
      case rel=>exact⟨k+1,u,by omega,by go_num,HO,HB⟩
      case measure=>simp [Eb];omega
   ·obtain rfl:k=256:=by omega
    go_wp2_with fail;refine bodyPost_ret (results_tmp2 rfl _ _ _) rfl ⟨_,u,ni rfl rfl,by rw [UN.out];exact HO.out.mono ar.out.size,ar.out.trans (HB.out.mono ar.out.size)⟩
 ·have UN:rU (uF es f= []):=ae (by unfold uF;rw [jC.out,ag ay]);have cQ:(cd != 0)=true:=by simpa using ay
  go_wp2_with fail;refine bodyPost_ret (results_tmp2 rfl _ _ _) rfl ⟨_,[],ni rfl rfl,by rw [UN.out];exact dG.nil _ _,ar.out⟩
theorem Me(s:Pl.Nt)(P K T:Nat->xx)(x:Pl.Ac)(w:qh)(hK:Kn w s P K T)(hk:x.kind=9)(ha:0<=x.a/\x.a<=11)(sn:Pl.Nt)(R:Pl.fault (s.K x.a.toNat)=0)(i:{s with T:=cZ s.T x.a.toNat (wz (s.K x.a.toNat) x.a.toNat)}=sn):
  O6 xh 47 #[.agg (ax s.D P K T s.L).toArray,.agg x.cells] w (Ap w 0 [] 0 [] sn):=by
 obtain⟨q,C⟩:=aV (_);obtain⟨A,oq⟩:=IC.new (w:=w) (s:=s) (P:=P) (K:=K) (T:=T) (x:=x) C.out;obtain⟨kind,X,b,n,m,⟨p1,p2⟩,key,val⟩:=x;simp only at hk ha R i⊢;subst hk;obtain⟨a,rfl⟩:∃k:Nat,X=k:=⟨X.toNat,by omega⟩
 have r:a<12:=by omega
 have av:(a:Int)<12:=by omega
 have ad:=ae oq;have aa:w.heap.size<q.heap.size:=by omega
 have ar:w.heap.size+1<q.heap.size:=by omega
 have ak:w.heap.size+1+1+1+1<q.heap.size:=by omega
 obtain⟨m0,m1,m2,m3,m4,m5,m6,m7,m8⟩:=A.nine;have iO:=ae (A.net.place a r);obtain⟨W6,Y⟩:=aV ((q.alloc (.cells #[.slice none 0 0,.bool false,.slice none 0 0,.slice none 0 0,.int .i64 0,.int .i64 0,.int .i64 0,.int .i64 0,.int .i64 0,.int .i64 0,.int .i64 0,.int .i64 0,.int .i64 0,.int .i64 0,.int .i64 0,.int .i64 0] 33)).setCells q.heap.size 0 (bP (s.D a) (P a) (K a) (T a) (s.L a)));obtain⟨p,v,E8,g⟩:=sH A rfl Y.out;rw [<-aP (s.D a) (P a) (K a) (T a) (s.L a)]at g;have yJ:=ae g;have d:=ae (St.of p hK);have Ec:=ae v;have nI:=ae (zk (D:=s.D a) (L:=s.L a) (hK.XP a r) (hK.XQ a r) (hK.XO a r));obtain⟨O,N,M,J,I,H,G,F,E⟩:=p.nine;have JX:=d.out.net.lt;have y:=d.out.net.soft;obtain⟨⟨z0,W,z2,z3⟩,V,U⟩:=aS d.out.gV;have an:w.heap.size+1<W6.heap.size:=by omega
 simp only at m0 m1 m2 m3 m4 m5 m6 m7 m8 O N M J I H G F E;unfold Pl.Ac.cells at C⊢;simp only at C⊢;clear oq A p v g;have HS:=ae i;have S:=ae R;rw [oC]at S;have Iw:rU (je (s.K a) (a:Int)=0):=ae (by unfold je;rw [S.out,ag (fun h=>h rfl),af (by omega)]);obtain⟨sa,sc,ev,j,u,-⟩:=(d.out.kn.2.1 a r).shape (Pl.Good.ok ((bK _).1 S.out));have o:=Ec.out.lq;rw [ev]at o;have hM:=aj.lt Ec.out;obtain⟨nK,CE⟩:=ai ((s.K a).length);rw [CE.out]at o j;have D9:=ae j;clear i R j u ev;go_enter Tryz.func47,Tryz.ntmps47;go_wp2_with fail;rw [<-show q=_ from C.out];refine(kW _ 1 10 _ (by omega)).mono ?_;rintro e w' ⟨rfl,c⟩;rw [c];clear c w';go_wp2_with (first
  |(go_at_call 74;refine(dK _ _).mono ?_;rw [zx ha];rintro e w' ⟨rfl,c⟩;rw [c];clear c w')
  |refine OE rfl 33 (.tmp 51) rfl w.heap.size (a*16) rfl (bP (s.D a) (P a) (K a) (T a) (s.L a)) _ iO.out IA rfl (by rw [aP];exact gq) ?_
  |refine aX rfl 33 (.tmp 7) (.tmp 52) rfl q.heap.size 0 (bP (s.D a) (P a) (K a) (T a) (s.L a)) rfl rfl yJ.out (by rw [aP];exact gq) nI.out Y.out ?_)
 refine(PE sa nK sc (s.K a) a W6 D9.out).mono ?_;rw [Iw.out];rintro e W7 ⟨v7,l,rfl,B,z⟩;obtain⟨a7,c7,rfl⟩:=az B.1;have UN:rU (uF (s.K a) (a:Int)=wz (s.K a) a):=ae (by unfold uF;rw [Iw.out,af rfl,oC]);rw [UN.out]at B;have Z:rU (∃hs,dG W7 0 (.slice a7 l.length c7) hs (wz (s.K a) a)):=ae ⟨l,B.mono (xn _)⟩;have f:=ae (d.out.below z);obtain⟨n7,CP⟩:=ai (l.length);rw [CP.out]at Z⊢;clear O N M J I H G F E z0 W z2 z3 V U y JX o hM z B;obtain⟨O,N,M,J,I,H,G,F,E⟩:=kz f.out.act;obtain⟨⟨z0,W,z2,z3⟩,V,U⟩:=aS f.out.gV;have aw:=f.out.net.lt;have y:=f.out.net.soft;have aq:=f.out.net.table a r;go_wp2_with fail;have e2:sn={s with T:=cZ s.T a (wz (s.K a) a)}:=HS.out.symm;subst e2
 have t:=ae (((f.out.dV 0).Qv a (f.out.afz Z.out 0 _)).fin);rename_i K1 Q;refine bY (w:=w) rfl rfl rfl rfl rfl t.out.net t.out.kn.one t.out.gV t.out.room t.out.nM ?_ _ (by kernel_rfl);intro y0 y1 W' hR hq hb;refine Q _ W' ?_;exact Jj (dU t.out hb hR hq)
theorem Pv(s:Pl.Nt)(P K T:Nat->xx)(x:Pl.Ac)(w:qh)(hK:Kn w s P K T)(hk:x.kind=8)(ha:0<=x.a/\x.a<=11)(c:Int)(J:List ByteArray)(sn:Pl.Nt)(hf:Pl.fault (s.K x.a.toNat)=0)(p:x.key.size<=Jk)(GK:x.val.size<=Jk)(hc:vX s x=c)(q:rW s x=J)(l:pY s x=sn):
  O6 xh 47 #[.agg (ax s.D P K T s.L).toArray,.agg x.cells] w (Ap w c [] 0 J sn):=by
 obtain⟨v,N⟩:=aV (_);obtain⟨I,oq⟩:=IC.new (w:=w) (s:=s) (P:=P) (K:=K) (T:=T) (x:=x) N.out;obtain⟨kind,xa,b,n,m,⟨p1,p2⟩,key,val⟩:=x;simp only at hk ha hf p GK hc q l⊢;subst hk;obtain⟨a,rfl⟩:∃k:Nat,xa=k:=⟨xa.toNat,by omega⟩
 have y:a<12:=by omega
 have aE:(a:Int)<12:=by omega
 have aq:=ae oq;have an:w.heap.size<v.heap.size:=by omega
 have aD:w.heap.size+1<v.heap.size:=by omega
 have ar:w.heap.size+1+1+1+1<v.heap.size:=by omega
 obtain⟨m0,m1,m2,m3,m4,m5,m6,m7,m8⟩:=I.nine;have iO:=ae (I.net.place a y);obtain⟨W6,vS⟩:=aV ((v.alloc (.cells #[.slice none 0 0,.bool false,.slice none 0 0,.slice none 0 0,.int .i64 0,.int .i64 0,.int .i64 0,.int .i64 0,.int .i64 0,.int .i64 0,.int .i64 0,.int .i64 0,.int .i64 0,.int .i64 0,.int .i64 0,.int .i64 0] 33)).setCells v.heap.size 0 (bP (s.D a) (P a) (K a) (T a) (s.L a)));obtain⟨u,B,E8,j⟩:=sH I rfl vS.out;rw [<-aP (s.D a) (P a) (K a) (T a) (s.L a)]at j;have yJ:=ae j;have h:=ae (St.of u hK);have Ec:=ae B;have nI:=ae (zk (D:=s.D a) (L:=s.L a) (hK.XP a y) (hK.XQ a y) (hK.XO a y));obtain⟨k0,k1,k2,Z,Y,X,W,V,U⟩:=u.nine;have JX:=h.out.net.lt;have E:=h.out.net.soft;obtain⟨⟨z0,z1,z2,z3⟩,zf,S⟩:=aS h.out.gV;have av:w.heap.size+1<W6.heap.size:=by omega
 simp only at m0 m1 m2 m3 m4 m5 m6 m7 m8 k0 k1 k2 Z Y X W V U;unfold Pl.Ac.cells at N⊢;simp only at N⊢;clear oq I u B j;have G:=ae hc;have uB:=ae q;have HS:=ae l;have MQ:=ae hf;rw [oC]at MQ;have ad:=ae GK;have ak:=ae p;obtain⟨sa,sc,ev,o,A,-⟩:=(h.out.kn.2.1 a y).shape (Pl.Good.ok ((bK _).1 MQ.out));have r:=Ec.out.lq;rw [ev]at r;have hM:=aj.lt Ec.out;obtain⟨nK,CE⟩:=ai ((s.K a).length);rw [CE.out]at r o;have D9:=ae o;clear hc q l hf GK p o A ev;go_enter Tryz.func47,Tryz.ntmps47;go_wp2_with fail;rw [<-show v=_ from N.out];refine(kW _ 1 10 _ (by omega)).mono ?_;rintro e w' ⟨rfl,f⟩;rw [f];clear f w';go_wp2_with (first
  |(go_at_call 74;refine(dK _ _).mono ?_;rw [zx ha];rintro e w' ⟨rfl,f⟩;rw [f];clear f w')
  |refine OE rfl 33 (.tmp 51) rfl w.heap.size (a*16) rfl (bP (s.D a) (P a) (K a) (T a) (s.L a)) _ iO.out IA rfl (by rw [aP];exact gq) ?_
  |refine aX rfl 33 (.tmp 7) (.tmp 52) rfl v.heap.size 0 (bP (s.D a) (P a) (K a) (T a) (s.L a)) rfl rfl yJ.out (by rw [aP];exact gq) nI.out vS.out ?_)
 refine(Kw sa nK sc (s.K a) a key val W6 D9.out ak.out ad.out).mono ?_;have yK:rU (eQ (s.K a) a key val=c):=ae G.out;rw [yK.out];obtain⟨O,HO⟩:=ai (jH (s.K a) a key val);rw [HO.out];rintro e z ⟨v7,rfl,M,F⟩;obtain⟨R,Q,rfl⟩:=az M;obtain⟨H,CP⟩:=ai (O.length);rw [CP.out]at M⊢;have rV:rU (Own z 0 (.slice R H Q) O):=ae (Own.mono M (xn _));have i:=ae (h.out.below F);clear k0 k1 k2 Z Y X W V U z0 z1 z2 z3 zf S E JX r hM;clear F M;obtain⟨k0,k1,k2,Z,Y,X,W,V,U⟩:=kz i.out.act;obtain⟨⟨z0,z1,z2,z3⟩,zf,S⟩:=aS i.out.gV;have aL:=i.out.net.lt;have E:=i.out.net.soft;have aw:=i.out.net.lq a y;by_cases g:c=0
 ·subst g;have e1:J= [key]:=by rw [<-uB.out];unfold rW;rw [G.out,af rfl]
  have e2:sn={s with K:=cZ s.K a O}:=by rw [<-HS.out];unfold pY;rw [G.out,af rfl,<-HO.out];rfl
  subst e1;subst e2;go_wp2_with fail;have HX:=ae ((i.out.dV 0).CY a (i.out.Ov rV.out 0 _));have C:=bW ((z.setCell ⟨w.heap.size+1+1+1+1,0,none⟩ (.int .i64 0)).setCell ⟨w.heap.size,a*16,none⟩ (.slice R H Q)) (.cells #[.string key] 9);rw [show((z.setCell ⟨w.heap.size+1+1+1+1,0,none⟩ (.int .i64 0)).setCell ⟨w.heap.size,a*16,none⟩ (.slice R H Q)).heap.size=z.heap.size by simp]at C;have aa:w.heap.size+1+1+1+1<((z.setCell ⟨w.heap.size+1+1+1+1,0,none⟩ (.int .i64 0)).setCell ⟨w.heap.size,a*16,none⟩ (.slice R H Q)).heap.size:=by simpa using S
  have hF:=((HX.out.below ((oP _ _).alloc (BD _) (.cells #[.string key] 9))).uH (vk':= .slice (some ⟨z.heap.size,0,none⟩) 1 1) (keys':= [key]) (N9 (xn _) C)).fin;rw [World.setCell_alloc_past _ _ _ _ aa]at hF;have d:=ae hF;rename_i K1 t;refine bY (w:=w) rfl rfl rfl rfl rfl d.out.net d.out.kn.one d.out.gV d.out.room d.out.nM ?_ _ (by kernel_rfl);intro y0 y1 W' hR hq hb;refine t _ W' ?_;exact Jj (dU d.out hb hR hq)
 ·have ay:(c==0)=false:=by simpa using g
  have e1:J= []:=by rw [<-uB.out];unfold rW;rw [G.out,ag g]
  have e2:sn=s:=by rw [<-HS.out];unfold pY;rw [G.out,ag g]
  subst e1;subst e2;clear g;go_wp2_with fail;have d:=ae (i.out.dV c).fin;rename_i K1 t;refine bY (w:=w) rfl rfl rfl rfl rfl d.out.net d.out.kn.one d.out.gV d.out.room d.out.nM ?_ _ (by kernel_rfl);intro y0 y1 W' hR hq hb;refine t _ W' ?_;exact Jj (dU d.out hb hR hq)
theorem Su(s:Pl.Nt)(P K T:Nat->xx)(x:Pl.Ac)(w:qh)(hK:Kn w s P K T)(Z:x.kind=1)(ha:0<=x.a/\x.a<=11)(c:Int)(sn:Pl.Nt)(hc:rE x=c)(q:{s with L:=tX s.L x}=sn):
  O6 xh 47 #[.agg (ax s.D P K T s.L).toArray,.agg x.cells] w (Ap w c [] 0 [] sn):=by
 obtain⟨E,I⟩:=aV (_);obtain⟨H,X⟩:=IC.new (w:=w) (s:=s) (P:=P) (K:=K) (T:=T) (x:=x) I.out;obtain⟨kind,V,b,n,m,⟨p1,p2⟩,key,val⟩:=x;simp only at Z ha hc q⊢;subst Z;obtain⟨a,rfl⟩:∃k:Nat,V=k:=⟨V.toNat,by omega⟩
 have C:a<12:=by omega
 have aL:(a:Int)<12:=by omega
 have ad:=ae X;have aa:w.heap.size<E.heap.size:=by omega
 have aE:w.heap.size+1<E.heap.size:=by omega
 have ak:w.heap.size+1+1+1+1<E.heap.size:=by omega
 obtain⟨m0,m1,m2,m3,m4,m5,m6,m7,m8⟩:=H.nine;have iO:=ae (H.net.place a C);obtain⟨W6,W⟩:=aV ((E.alloc (.cells #[.slice none 0 0,.bool false,.slice none 0 0,.slice none 0 0,.int .i64 0,.int .i64 0,.int .i64 0,.int .i64 0,.int .i64 0,.int .i64 0,.int .i64 0,.int .i64 0,.int .i64 0,.int .i64 0,.int .i64 0,.int .i64 0] 33)).setCells E.heap.size 0 (bP (s.D a) (P a) (K a) (T a) (s.L a)));obtain⟨y,G,E8,p⟩:=sH H rfl W.out;rw [<-aP (s.D a) (P a) (K a) (T a) (s.L a)]at p;have yJ:=ae p;have g:=ae (St.of y hK);have Ec:=ae G;have nI:=ae (zk (D:=s.D a) (L:=s.L a) (hK.XP a C) (hK.XQ a C) (hK.XO a C));obtain⟨k0,k1,k2,k3,k4,k5,k6,k7,k8⟩:=y.nine;have JX:=g.out.net.lt;have ar:=g.out.net.soft;obtain⟨⟨z0,z1,z2,z3⟩,zf,zl⟩:=aS g.out.gV;have av:w.heap.size+1<W6.heap.size:=by omega
 simp only at m0 m1 m2 m3 m4 m5 m6 m7 m8 k0 k1 k2 k3 k4 k5 k6 k7 k8;unfold Pl.Ac.cells at I⊢;simp only at I⊢;clear X H y G p;have o:=ae hc;have M:=ae q;have hM:=aj.lt Ec.out;have aR:=ae (fun j (hj:j<12)=>Ec.out.line j hj);clear hc q;go_enter Tryz.func47,Tryz.ntmps47;go_wp2_with fail;rw [<-show E=_ from I.out];refine(kW _ 1 10 _ (by omega)).mono ?_;rintro e w' ⟨rfl,d⟩;rw [d];clear d w';go_wp2_with (first
  |(go_at_call 74;refine(dK _ _).mono ?_;rw [zx ha];rintro e w' ⟨rfl,d⟩;rw [d];clear d w')
  |refine OE rfl 33 (.tmp 51) rfl w.heap.size (a*16) rfl (bP (s.D a) (P a) (K a) (T a) (s.L a)) _ iO.out IA rfl (by rw [aP];exact gq) ?_
  |refine aX rfl 33 (.tmp 7) (.tmp 52) rfl E.heap.size 0 (bP (s.D a) (P a) (K a) (T a) (s.L a)) rfl rfl yJ.out (by rw [aP];exact gq) nI.out W.out ?_)
 by_cases l:0<=b/\b<=11
 case neg=>
  have zq:decide (0<=b/\b<=11)=false:=Fb l;have B:c=2:=by rw [<-o.out];unfold rE;simp only;rw [af (.inl l)]
  subst B;have A:sn=s:=by rw [<-M.out];unfold tX;rw [o.out,ag (by decide)]
  subst A;clear l;refine(dK b _).mono ?_;rw [zq];rintro e w' ⟨rfl,d⟩;rw [d];clear d w';go_wp2_with fail;have f:=ae (g.out.dV 2).fin;rename_i U h;refine bY (w:=w) rfl rfl rfl rfl rfl f.out.net f.out.kn.one f.out.gV f.out.room f.out.nM ?_ _ (by kernel_rfl);intro O N F z r l;refine h _ F ?_;exact Jj (dU f.out l z r)
 case pos=>
 refine(dK b _).mono ?_;rw [zx l];rintro e w' ⟨rfl,d⟩;rw [d];clear d w';obtain⟨b,rfl⟩:∃k:Nat,b=k:=⟨b.toNat,by omega⟩
 have R:b<12:=by omega
 have aD:(b:Int)<12:=by omega
 go_wp2_with fail;by_cases J:1<=n/\n<=1000
 case neg=>
  have Q:decide (1<=n/\n<=1000)=false:=Fb J;have B:c=2:=by rw [<-o.out];unfold rE;simp only;rw [af (by omega)]
  subst B;have A:sn=s:=by rw [<-M.out];unfold tX;rw [o.out,ag (by decide)]
  subst A;clear J;refine(dZ n 1 1000 _).mono ?_;rw [Q];rintro e w' ⟨rfl,d⟩;rw [d];clear d w';go_wp2_with fail;have f:=ae (g.out.dV 2).fin;rename_i U h;refine bY (w:=w) rfl rfl rfl rfl rfl f.out.net f.out.kn.one f.out.gV f.out.room f.out.nM ?_ _ (by kernel_rfl);intro O N F z r l;refine h _ F ?_;exact Jj (dU f.out l z r)
 case pos=>
 refine(kW n 1 1000 _ J).mono ?_;rintro e w' ⟨rfl,d⟩;rw [d];clear d w';have aq:(n==0)=false:=by simp;omega
 by_cases i:(a:Int)=b
 ·have S:((a:Int)==(b:Int))=true:=by simpa using i
  have B:c=4:=by rw [<-o.out];unfold rE;simp only;rw [ag (by omega),af i]
  subst B;have A:sn=s:=by rw [<-M.out];unfold tX;rw [o.out,ag (by decide)]
  subst A;clear i;go_wp2_with fail;have f:=ae (g.out.dV 4).fin;rename_i U h;refine bY (w:=w) rfl rfl rfl rfl rfl f.out.net f.out.kn.one f.out.gV f.out.room f.out.nM ?_ _ (by kernel_rfl);intro O N F z r l;refine h _ F ?_;exact Jj (dU f.out l z r)
 have S:((a:Int)==(b:Int))=false:=by simpa using i
 have an:a≠b:=fun e=>i (by rw [e]);have B:c=0:=by rw [<-o.out];unfold rE;simp only;rw [ag (by omega),ag i]
 subst B;have A:sn={s with L:=Pl.line s.L a b n}:=by rw [<-M.out];unfold tX;rw [o.out,af rfl];rfl
 subst A;have ay:=g.out.net.line a b C R;have aw:=g.out.net.line b a R C;have Y:b*16+4+a≠a*16+4+b:=by omega
 have aM:a*16+4+b≠b*16+4+a:=by omega
 clear i J;go_wp2_with fail;go_region
 go_wp2_with fail;go_region
 go_wp2_with fail;have f:=ae ((((g.out.qN a b R n).qN b a C n).as (t:={s with L:=Pl.line s.L a b n}) (by
  show({s with L:=_}:Pl.Nt)={s with L:=Pl.line s.L a b n};congr 1
  funext u v
  exact Oq s.L a b n u v)).below ((oP _ _).drew.drew)).fin
 rename_i U h;refine bY (w:=w) rfl rfl rfl rfl rfl f.out.net f.out.kn.one f.out.gV f.out.room f.out.nM ?_ _ (by kernel_rfl);intro O N F z r l;refine h _ F ?_;exact Jj (dU f.out l z r)
theorem WI(s:Pl.Nt)(P K T:Nat->xx)(x:Pl.Ac)(w:qh)(hK:Kn w s P K T)(hk:x.kind=2)(ha:0<=x.a/\x.a<=11)(c:Int)(sn:Pl.Nt)(hc:rJ s.L x=c)(r:{s with L:=uo s.L x}=sn):
  O6 xh 47 #[.agg (ax s.D P K T s.L).toArray,.agg x.cells] w (Ap w c [] 0 [] sn):=by
 obtain⟨F,J⟩:=aV (_);obtain⟨I,Y⟩:=IC.new (w:=w) (s:=s) (P:=P) (K:=K) (T:=T) (x:=x) J.out;obtain⟨kind,W,b,n,m,⟨p1,p2⟩,key,val⟩:=x;simp only at hk ha hc r⊢;subst hk;obtain⟨a,rfl⟩:∃k:Nat,W=k:=⟨W.toNat,by omega⟩
 have E:a<12:=by omega
 have aL:(a:Int)<12:=by omega
 have ad:=ae Y;have aa:w.heap.size<F.heap.size:=by omega
 have aE:w.heap.size+1<F.heap.size:=by omega
 have ak:w.heap.size+1+1+1+1<F.heap.size:=by omega
 obtain⟨m0,m1,m2,m3,m4,m5,m6,m7,m8⟩:=I.nine;have iO:=ae (I.net.place a E);obtain⟨W6,X⟩:=aV ((F.alloc (.cells #[.slice none 0 0,.bool false,.slice none 0 0,.slice none 0 0,.int .i64 0,.int .i64 0,.int .i64 0,.int .i64 0,.int .i64 0,.int .i64 0,.int .i64 0,.int .i64 0,.int .i64 0,.int .i64 0,.int .i64 0,.int .i64 0] 33)).setCells F.heap.size 0 (bP (s.D a) (P a) (K a) (T a) (s.L a)));obtain⟨z,H,E8,q⟩:=sH I rfl X.out;rw [<-aP (s.D a) (P a) (K a) (T a) (s.L a)]at q;have yJ:=ae q;have i:=ae (St.of z hK);have Ec:=ae H;have nI:=ae (zk (D:=s.D a) (L:=s.L a) (hK.XP a E) (hK.XQ a E) (hK.XO a E));obtain⟨k0,k1,k2,k3,k4,k5,k6,k7,k8⟩:=z.nine;have JX:=i.out.net.lt;have ar:=i.out.net.soft;obtain⟨⟨z0,z1,z2,z3⟩,zf,zl⟩:=aS i.out.gV;have av:w.heap.size+1<W6.heap.size:=by omega
 simp only at m0 m1 m2 m3 m4 m5 m6 m7 m8 k0 k1 k2 k3 k4 k5 k6 k7 k8;unfold Pl.Ac.cells at J⊢;simp only at J⊢;clear Y I z H q;have p:=ae hc;have N:=ae r;have hM:=aj.lt Ec.out;have V:=ae (fun j (hj:j<12)=>Ec.out.line j hj);clear hc r;go_enter Tryz.func47,Tryz.ntmps47;go_wp2_with fail;rw [<-show F=_ from J.out];refine(kW _ 1 10 _ (by omega)).mono ?_;rintro e w' ⟨rfl,f⟩;rw [f];clear f w';go_wp2_with (first
  |(go_at_call 74;refine(dK _ _).mono ?_;rw [zx ha];rintro e w' ⟨rfl,f⟩;rw [f];clear f w')
  |refine OE rfl 33 (.tmp 51) rfl w.heap.size (a*16) rfl (bP (s.D a) (P a) (K a) (T a) (s.L a)) _ iO.out IA rfl (by rw [aP];exact gq) ?_
  |refine aX rfl 33 (.tmp 7) (.tmp 52) rfl F.heap.size 0 (bP (s.D a) (P a) (K a) (T a) (s.L a)) rfl rfl yJ.out (by rw [aP];exact gq) nI.out X.out ?_)
 by_cases o:0<=b/\b<=11
 case neg=>
  have zq:decide (0<=b/\b<=11)=false:=Fb o;have C:c=2:=by rw [<-p.out];unfold rJ;simp only;rw [af o]
  subst C;have B:sn=s:=by rw [<-N.out];unfold uo;rw [p.out,ag (by decide)]
  subst B;clear o;refine(dK b _).mono ?_;rw [zq];rintro e w' ⟨rfl,f⟩;rw [f];clear f w';go_wp2_with fail;have d:=ae (i.out.dV 2).fin;rename_i U l;refine bY (w:=w) rfl rfl rfl rfl rfl d.out.net d.out.kn.one d.out.gV d.out.room d.out.nM ?_ _ (by kernel_rfl);intro Q O G A y o;refine l _ G ?_;exact Jj (dU d.out o A y)
 case pos=>
 refine(dK b _).mono ?_;rw [zx o];rintro e w' ⟨rfl,f⟩;rw [f];clear f w';obtain⟨b,rfl⟩:∃k:Nat,b=k:=⟨b.toNat,by omega⟩
 have M:b<12:=by omega
 have aD:(b:Int)<12:=by omega
 by_cases g:(a:Int)=b
 ·have S:((a:Int)==(b:Int))=true:=by simpa using g
  have C:c=4:=by rw [<-p.out];unfold rJ;rw [ag (fun h=>h o),af g]
  subst C;have B:sn=s:=by rw [<-N.out];unfold uo;rw [p.out,ag (by decide)]
  subst B;clear g;go_wp2_with fail;have d:=ae (i.out.dV 4).fin;rename_i U l;refine bY (w:=w) rfl rfl rfl rfl rfl d.out.net d.out.kn.one d.out.gV d.out.room d.out.nM ?_ _ (by kernel_rfl);intro Q O G A y o;refine l _ G ?_;exact Jj (dU d.out o A y)
 have S:((a:Int)==(b:Int))=false:=by simpa using g
 have an:a≠b:=fun e=>g (by rw [e]);have aq:=V.out b M;by_cases hl:s.L a b=0
 ·have R:(s.L a b==0)=true:=by simpa using hl
  have C:c=6:=by rw [<-p.out];unfold rJ;rw [ag (fun h=>h o),ag g];simp only [oC];rw [af hl]
  subst C;have B:sn=s:=by rw [<-N.out];unfold uo;rw [p.out,ag (by decide)]
  subst B;clear hl g;go_wp2_with fail;have d:=ae (i.out.dV 6).fin;rename_i U l;refine bY (w:=w) rfl rfl rfl rfl rfl d.out.net d.out.kn.one d.out.gV d.out.room d.out.nM ?_ _ (by kernel_rfl);intro Q O G A y o;refine l _ G ?_;exact Jj (dU d.out o A y)
 have R:(s.L a b==0)=false:=by simpa using hl
 have C:c=0:=by rw [<-p.out];unfold rJ;rw [ag (fun h=>h o),ag g];simp only [oC];rw [ag hl]
 subst C;have B:sn={s with L:=Pl.line s.L a b 0}:=by rw [<-N.out];unfold uo;rw [p.out,af rfl];rfl
 subst B;have ay:=i.out.net.line a b E M;have aw:=i.out.net.line b a M E;have Z:b*16+4+a≠a*16+4+b:=by omega
 have aM:a*16+4+b≠b*16+4+a:=by omega
 clear g hl;go_wp2_with fail;go_region
 go_wp2_with fail;go_region
 go_wp2_with fail;have d:=ae ((((i.out.qN a b M 0).qN b a E 0).as (t:={s with L:=Pl.line s.L a b 0}) (by
  show({s with L:=_}:Pl.Nt)={s with L:=Pl.line s.L a b 0};congr 1
  funext u v
  exact Oq s.L a b 0 u v)).below ((oP _ _).drew.drew)).fin
 rename_i U l;refine bY (w:=w) rfl rfl rfl rfl rfl d.out.net d.out.kn.one d.out.gV d.out.room d.out.nM ?_ _ (by kernel_rfl);intro Q O G A y o;refine l _ G ?_;exact Jj (dU d.out o A y)
theorem Pl.wV:∀(xs a:List (Int×Int)) (p:Int×Int),(∀q∈xs,dw p q=false)->Pl.insP (xs++a) p=xs++Pl.insP a p
 | [],_,_,_=>rfl
 |q::r,a,p,h=>by
  show(if dw p q then p::q::(r++a)else q::Pl.insP (r++a) p)=q::(r++Pl.insP a p);rw [h q (by simp),ag (by simp),wV r a p fun x b=>h x (by simp [b])]
theorem Pl.Gy:∀(xs a:List (Int×Int)) (p:Int×Int),(∃q∈xs,dw p q=true)->Pl.insP (xs++a) p=Pl.insP xs p++a
 | [],_,_,h=>by obtain⟨q,b,_⟩:=h;cases b
 |q::r,a,p,h=>by
  show(if dw p q then p::q::(r++a)else q::Pl.insP (r++a) p)=(if dw p q then p::q::r else q::Pl.insP r p)++a;by_cases b:dw p q=true
  ·rw [af b,af b];rfl
  ·rw [ag b,ag b,Gy r a p]
   ·rfl
   ·obtain⟨x,c,d⟩:=h;rcases List.mem_cons.1 c with rfl|c
    ·exact absurd d b
    ·exact⟨x,c,d⟩
theorem Pl.YQ(xs:List (Int×Int))(p:Int×Int)(h:∀q∈xs,dw p q=false):Pl.insP xs p=xs++ [p]:=by
 have:=wV xs [] p h;rwa [OO]at this
theorem Pl.OB(p:Int×Int):∀xs:List (Int×Int),(Pl.insP xs p).length=xs.length+1
 | []=>rfl
 |q::r=>by
  show(if dw p q then p::q::r else q::Pl.insP r p).length=_;split
  ·rfl
  ·simp [OB p r]
def Pl.wpS(ps:List (Int×Int))(p:Int×Int)(k:Nat)(d:Bool)(os:List (Int×Int)):Prop:=
 (d=false->(∀q∈ps.take k,dw p q=false)/\os=ps.take k)/\(d=true->(∃q∈ps.take k,dw p q=true)/\os=Pl.insP (ps.take k) p)
theorem Pl.aaP{ps p k d os}(h:Pl.wpS ps p k d os):os.length<=ps.length+1:=by
 cases d
 ·rw [(h.1 rfl).2];simp;omega
 ·rw [(h.2 rfl).2,OB];simp;omega
theorem Pl.XD(ps p):Pl.wpS ps p 0 false []:=⟨fun _=>⟨by simp,rfl⟩,fun e=>by cases e⟩
theorem Pl.ada{ps:List (Int×Int)}{p q:Int×Int}{k:Nat}{os:List (Int×Int)}(h:Pl.wpS ps p k false os)(b:ps.take (k+1)=ps.take k++ [q])(c:dw p q=false):Pl.wpS ps p (k+1) false (os++ [q]):=by
 obtain⟨f,d⟩:=h.1 rfl;refine⟨fun _=>⟨fun x a=> ?_,by rw [d,b]⟩,fun e=>by cases e⟩;rw [b]at a;rcases List.mem_append.1 a with a|a
 ·exact f x a
 ·have:x=q:=by simpa using a
  rw [this];exact c
theorem Pl.aaQ{ps:List (Int×Int)}{p q:Int×Int}{k:Nat}{os:List (Int×Int)}(h:Pl.wpS ps p k false os)(a:ps.take (k+1)=ps.take k++ [q])(b:dw p q=true):Pl.wpS ps p (k+1) true ((os++ [p])++ [q]):=by
 obtain⟨d,c⟩:=h.1 rfl;refine⟨fun e=>by(cases e),fun _=>⟨⟨q,by rw [a];simp,b⟩,?_⟩⟩;rw [a,wV _ _ _ d,c];show _=ps.take k++(if dw p q then p::q:: []else q::Pl.insP [] p);rw [af b];simp
theorem Pl.ac'{ps:List (Int×Int)}{p q:Int×Int}{k:Nat}{os:List (Int×Int)}(h:Pl.wpS ps p k true os)(b:ps.take (k+1)=ps.take k++ [q]):Pl.wpS ps p (k+1) true (os++ [q]):=by
 obtain⟨⟨x,a,c⟩,d⟩:=h.2 rfl;refine⟨fun e=>by(cases e),fun _=>⟨⟨x,by rw [b];exact List.mem_append.2 (.inl a),c⟩,?_⟩⟩;rw [b,Gy _ _ _ ⟨x,a,c⟩,d]
theorem Pl.aaR{ps:List (Int×Int)}{p:Int×Int}{k:Nat}{d:Bool}{os:List (Int×Int)}(h:Pl.wpS ps p k d os)(c:k=ps.length):(if d then os else os++ [p])=Pl.insP ps p:=by
 subst c
 cases d
 ·obtain⟨b,a⟩:=h.1 rfl;rw [Rz]at b a;rw [ag (by simp),a,YQ _ _ b]
 ·obtain⟨b,a⟩:=h.2 rfl;rw [Rz]at a;rw [af rfl,a]
theorem di.at{w:qh}{a:Option Addr}{len cap:Nat}{ps:List (Int×Int)}(h:di w a len cap ps){k:Nat}(d:k<len):∃b off,a=some ⟨b,off,none⟩/\b<w.heap.size/\eP w b off ps:=by
 rcases h.2.2.2.2 with e|c
 ·have:=h.1;rw [e]at this;simp at this;omega
 ·exact c
theorem Fp(a:Option Addr)(len cap:Nat)(ps:List (Int×Int))(p1 p2:Int)(w:qh)(h:di w a len cap ps)(Rn:len<=1000):
  O6 xh 75 #[.slice a len cap,.agg #[.int .i64 p1,.int .i64 p2]] w fun e w'=>∃v,e= .returned v/\bJ w' w.heap.size v (Pl.insP ps (p1,p2))/\Ah w.heap.size w w':=by
 have HH:=ae h;have P:rU (ps.length=len):=ae h.1;have aq:=h.2.1;have hm:=h.2.2.1;unfold Jk at hm;clear h;obtain⟨g,u⟩:=aV (w.alloc (.cells #[.int .i64 p1,.int .i64 p2] 49));have x:rU (Ah w.heap.size w g):=ae (by rw [u.out];exact(oP _ _).alloc (BD _) _);have nH:rU (g.heap[w.heap.size]? =some (.cells #[.int .i64 p1,.int .i64 p2] 49)):=ae (by rw [u.out];exact bW _ _);have ar:g.heap.size=w.heap.size+1:=by rw [u.out];simp
 obtain⟨k0,k1,ad,aa,I⟩:=aQ nH.out;have K0:=ae k0;have K1:=ae k1;clear k0 k1 ad aa;go_enter Tryz.func75,Tryz.ntmps75;go_wp2_with (rw [<-u.out]);go_loopw [5,6,7] (fun vo vd U wr=>∃(k:Nat) (d:Bool) (v:xx) (os:List (Int×Int)),v=vo/\k<=len/\vd= .bool d/\U= .int .i64 k/\rU (Pl.wpS ps (p1,p2) k d os)/\rU (bJ wr g.heap.size v os)/\rU (Ah g.heap.size g wr)) (fun _ _ U _=>len-(Eb U).toNat)
 case atStart=>exact⟨0,false,_,[],rfl,xn _,rfl,rfl,ae (XD _ _),ae (aU.nil _ _ _),ae (oP _ _)⟩
 case round=>
  obtain⟨k,d,v,os,hv,hk,rfl,rfl,L,R,y⟩:=hrel;subst hv;have hz:=y.out.size;have O:=(y.out.cell (p:=⟨w.heap.size,0,none⟩) I).trans K0.out;have N:=(y.out.cell (p:=⟨w.heap.size,1,none⟩) I).trans K1.out;have s:w.heap.size<wr.heap.size:=by omega
  have n:rU (os.length<=len+1):=ae (by rw [<-P.out];exact aaP L.out);by_cases A:k<len
  ·obtain⟨b,off,rfl,hb,hr⟩:=HH.out.at A;have Q:=ae (EY ps k (by rw [P.out];exact A));obtain⟨Y,X⟩:=hr k (by rw [P.out];exact A);obtain⟨⟨q,o⟩,HQ⟩:=ai (Pl.pr ps k);rw [HQ.out]at Y X Q;have t:b<g.heap.size:=by omega
   have R0:=ae ((x.out.cell (p:=⟨b,off+k*2,none⟩) hb).trans Y);have R1:=ae ((x.out.cell (p:=⟨b,off+k*2+1,none⟩) hb).trans X);have an:(k:Int)<(len:Int):=by omega
   have J:b<wr.heap.size:=by omega
   clear hr Y X;have u0:=(y.out.cell (p:=⟨b,off+k*2,none⟩) t).trans R0.out;have u1:=(y.out.cell (p:=⟨b,off+k*2+1,none⟩) t).trans R1.out;have C:rU (∀(F:qh) (v5:xx) (H:List (Int×Int)),bJ F g.heap.size v5 H->Ah g.heap.size g F->F.cell? ⟨b,off+k*2,none⟩=some (.int .i64 q)/\F.cell? ⟨b,off+k*2+1,none⟩=some (.int .i64 o)/\g.heap.size<=F.heap.size):=ae fun F v5 H _ B=>
    ⟨(B.cell (p:=⟨b,off+k*2,none⟩) t).trans R0.out,(B.cell (p:=⟨b,off+k*2+1,none⟩) t).trans R1.out,B.size⟩
   cases d
   ·obtain⟨lt,Z⟩:=ai (dw (p1,p2) (q,o));have ak:rU (∀W,O6 xh 120 #[.agg #[.int .i64 q,.int .i64 o],.agg #[.int .i64 p1,.int .i64 p2]] W fun e w'=>e= .returned (.bool lt)/\Ah W.heap.size W w'):=ae fun W=>by
     have:=Ig q o p1 p2 W;rwa [Z.out]at this
    go_wp2_with fail;have i0:=aC J u0;have i1:=aC J u1;have i2:=aC s O;have i3:=aC s N;have z:=dO wr;refine aN (by kernel_rfl) (by kernel_rfl) ?_;repeat (go_big_quiet_step ((go_at_call 120;exact dP (ak.out _))))
    refine Pe ?_;intro T l;have f:=eU l;clear l z i0 i1 i2 i3 u0 u1;have i:=ae (y.out.trans (f.mono hz));have G:=ae (R.out.below f);have M:=i.out.size;have y0:=(f.cell (p:=⟨w.heap.size,0,none⟩) s).trans O;have y1:=(f.cell (p:=⟨w.heap.size,1,none⟩) s).trans N;clear f O N
    cases lt
    ·obtain⟨u0,u1,_⟩:=C.out T _ _ G.out i.out;have m:=ae (ada L.out Q.out Z.out);go_wp2_with (at_builtin;refine dM MJ kG rfl (.tmp 28) (.tmp 33) rfl g.heap.size v os (q,o) rfl G.out M rfl (by have:=n.out;omega) ?_;intro V S j c _;have E:=ae j;have D:=ae (i.out.trans c);clear j c);go_roundw
     case rel=>exact⟨k+1,false,_,os++ [(q,o)],rfl,by omega,rfl,by go_num,m,E,D⟩
     case measure=>simp [Eb];omega
    ·have m:=ae (aaQ L.out Q.out Z.out);go_wp2_with (first|(at_builtin;refine dM MJ kG rfl (.tmp 24) (.tmp 26) rfl g.heap.size v os (p1,p2) rfl G.out M rfl (by have:=n.out;omega) ?_;intro v7 w7 Ew K _;have rV:=ae Ew;have IJ:=ae (i.out.trans K);clear Ew K;obtain⟨z0,z1,z2⟩:=C.out w7 _ _ rV.out IJ.out)|(at_builtin;refine dM MJ kG rfl (.tmp 28) (.tmp 33) rfl g.heap.size v7 (os++ [(p1,p2)]) (q,o) rfl rV.out z2 rfl (by have:=n.out;simp;omega) ?_;intro V S j c _;have E:=ae j;have D:=ae (IJ.out.trans c);clear j c));go_roundw
     case rel=>exact⟨k+1,true,_,(os++ [(p1,p2)])++ [(q,o)],rfl,by omega,rfl,by go_num,m,E,D⟩
     case measure=>simp [Eb];omega
   ·go_wp2_with fail;have z:=dO wr;refine aN (by kernel_rfl) (by kernel_rfl) ?_;repeat (go_big_quiet_step (fail))
    refine Pe ?_;intro T l;have f:=eU l;clear l z u0 u1;have i:=ae (y.out.trans (f.mono hz));have G:=ae (R.out.below f);have M:=i.out.size;clear f O N;obtain⟨u0,u1,_⟩:=C.out T _ _ G.out i.out;have m:=ae (ac' L.out Q.out);go_wp2_with (at_builtin;refine dM MJ kG rfl (.tmp 28) (.tmp 33) rfl g.heap.size v os (q,o) rfl G.out M rfl (by have:=n.out;omega) ?_;intro V S j c _;have E:=ae j;have D:=ae (i.out.trans c);clear j c);go_roundw
    case rel=>exact⟨k+1,true,_,os++ [(q,o)],rfl,by omega,rfl,by go_num,m,E,D⟩
    case measure=>simp [Eb];omega
  ·obtain rfl:k=len:=by omega
   have UR:=ae (aaR L.out P.out.symm);have r:w.heap.size<=g.heap.size:=by omega
   cases d
   ·go_wp2_with (at_builtin;refine dM MJ kG rfl (.tmp 37) (.tmp 39) rfl g.heap.size v os (p1,p2) rfl R.out hz rfl (by have:=n.out;omega) ?_;intro V S j c _;have E:=ae j;have D:=ae (y.out.trans c);clear j c);go_ret;exact⟨_,rfl,by rw [<-UR.out];exact aU.mono E.out r,x.out.trans (D.out.mono r)⟩
   ·go_wp2_with fail;go_ret;exact⟨_,rfl,by rw [<-UR.out];exact aU.mono R.out r,x.out.trans (y.out.mono r)⟩
theorem Pl.OA:∀(ps:List (Int×Int)) (p:Int×Int) {q:Int×Int},q∈Pl.insP ps p->q=p\/q∈ps
 | [],p,q,h=> .inl (by simpa [Pl.insP]using h)
 |x::r,p,q,h=>by
  unfold Pl.insP at h;split at h
  ·rcases List.mem_cons.1 h with h|h
   ·exact .inl h
   ·exact .inr h
  ·rcases List.mem_cons.1 h with h|h
   ·exact .inr (by simp [h])
   ·rcases OA r p h with h|h
    ·exact .inl h
    ·exact .inr (List.mem_cons_of_mem _ h)
theorem Sz(s:Pl.Nt)(P K T:Nat->xx)(x:Pl.Ac)(w:qh)(hK:Kn w s P K T)(hk:x.kind=4)(ha:0<=x.a/\x.a<=11)(c:Int)(sn:Pl.Nt)(I:∀p∈s.P x.a.toNat,dJ p)(Rn:(s.P x.a.toNat).length<=1000)(H:dJ x.p)(hc:zt s x=c)(G:Ez s x=sn):
  O6 xh 47 #[.agg (ax s.D P K T s.L).toArray,.agg x.cells] w (Ap w c [] 0 [] sn):=by
 obtain⟨Q,kD⟩:=aV (_);obtain⟨lS,oq⟩:=IC.new (w:=w) (s:=s) (P:=P) (K:=K) (T:=T) (x:=x) kD.out;obtain⟨kind,xa,b,n,m,⟨p1,p2⟩,key,val⟩:=x;simp only at hk ha I Rn H hc G⊢;subst hk;obtain⟨a,rfl⟩:∃k:Nat,xa=k:=⟨xa.toNat,by omega⟩
 have V:a<12:=by omega
 have bb:(a:Int)<12:=by omega
 have aM:=ae oq;have aL:w.heap.size<Q.heap.size:=by omega
 have ba:w.heap.size+1<Q.heap.size:=by omega
 have aR:w.heap.size+1+1+1+1<Q.heap.size:=by omega
 obtain⟨m0,m1,m2,m3,m4,m5,m6,m7,m8⟩:=lS.nine;have iO:=ae (lS.net.place a V);obtain⟨W6,vS⟩:=aV ((Q.alloc (.cells #[.slice none 0 0,.bool false,.slice none 0 0,.slice none 0 0,.int .i64 0,.int .i64 0,.int .i64 0,.int .i64 0,.int .i64 0,.int .i64 0,.int .i64 0,.int .i64 0,.int .i64 0,.int .i64 0,.int .i64 0,.int .i64 0] 33)).setCells Q.heap.size 0 (bP (s.D a) (P a) (K a) (T a) (s.L a)));obtain⟨N,Z,E8,F⟩:=sH lS rfl vS.out;rw [<-aP (s.D a) (P a) (K a) (T a) (s.L a)]at F;have yJ:=ae F;have o:=ae (St.of N hK);have Ec:=ae Z;have nI:=ae (zk (D:=s.D a) (L:=s.L a) (hK.XP a V) (hK.XQ a V) (hK.XO a V));obtain⟨E,C,B,A,z,y,v,u,t⟩:=N.nine;have JX:=o.out.net.lt;have f:=o.out.net.soft;obtain⟨⟨z0,U,z2,z3⟩,S,R⟩:=aS o.out.gV;have a6:w.heap.size+1<W6.heap.size:=by omega
 simp only at m0 m1 m2 m3 m4 m5 m6 m7 m8 E C B A z y v u t;unfold Pl.Ac.cells at kD⊢;simp only at kD⊢;clear oq lS N Z F;have HC:=ae hc;have HS:=ae G;have Qj:=ae H;have h:=I;rw [oC]at h Rn;have ak:=ae h;obtain⟨pa,pc,ev,J,ar,-⟩:=(o.out.kn.1 a V).shape ak.out;have M:=Ec.out.jh;rw [ev]at M;have hM:=aj.lt Ec.out;obtain⟨nP,vT⟩:=ai ((s.P a).length);rw [vT.out]at M J Rn;have aD:=ae J;have aE:=ae Rn;clear hc G J ar ev H I h Rn;go_enter Tryz.func47,Tryz.ntmps47;go_wp2_with fail;rw [<-show Q=_ from kD.out];refine(kW _ 1 10 _ (by omega)).mono ?_;rintro e w' ⟨rfl,g⟩;rw [g];clear g w';go_wp2_with (first
  |(go_at_call 74;refine(dK _ _).mono ?_;rw [zx ha];rintro e w' ⟨rfl,g⟩;rw [g];clear g w')
  |refine OE rfl 33 (.tmp 51) rfl w.heap.size (a*16) rfl (bP (s.D a) (P a) (K a) (T a) (s.L a)) _ iO.out IA rfl (by rw [aP];exact gq) ?_
  |refine aX rfl 33 (.tmp 7) (.tmp 52) rfl Q.heap.size 0 (bP (s.D a) (P a) (K a) (T a) (s.L a)) rfl rfl yJ.out (by rw [aP];exact gq) nI.out vS.out ?_)
 refine(Fp pa nP pc (s.P a) p1 p2 W6 aD.out aE.out).mono ?_;obtain⟨O,HO⟩:=ai (Pl.insP (s.P a) (p1,p2));have lD:rU (∀p∈O,dJ p):=ae fun p hp=>by
  rw [<-HO.out]at hp;rcases OA (s.P a) (p1,p2) hp with e|e
  ·rw [e];exact Qj.out
  ·exact ak.out p e
 rw [HO.out];rintro e W7 ⟨v7,rfl,kK,ad⟩;obtain⟨a7,c7,rfl⟩:=az kK;obtain⟨n7,CP⟩:=ai (O.length);rw [CP.out]at kK⊢;have rV:rU (bJ W7 0 (.slice a7 n7 c7) O):=ae (aU.mono kK (xn _));have W:=ae (o.out.below ad);clear ad kK M hM JX;clear E C B A z y v u t z0 U z2 z3 S R f;obtain⟨E,C,B,A,z,y,v,u,t⟩:=kz W.out.act;obtain⟨⟨z0,U,z2,z3⟩,S,R⟩:=aS W.out.gV;have aw:=W.out.net.lt;have f:=W.out.net.soft;obtain⟨d1,aq⟩:=ai (fM [(p1,p2)]);obtain⟨d2,an⟩:=ai (fM O);have pX:rU (c=if d1=0 then d2 else d1):=ae (by rw [<-HC.out];unfold zt;simp only [oC];rw [aq.out,HO.out,an.out]);have D9:rU (sn=if c=0 then{s with P:=cZ s.P a O}else s):=ae (by rw [<-HS.out];unfold Ez;rw [HC.out,<-HO.out];rfl);go_wp2_with fail
 refine(eX _ 1 1 [(p1,p2)] _ (yg W7 W7.heap.size p1 p2 49 Qj.out rfl)).mono ?_;rw [aq.out];rintro e W8 ⟨rfl,aa⟩;have oW:Ah W7.heap.size W7 W8:=((oP _ _).alloc (BD _) _).trans (aa.mono (by simp));have q:=ae (W.out.below oW);have PT:=ae (rV.out.below oW);clear aa oW aw;clear E C B A z y v u t z0 U z2 z3 S R f;obtain⟨E,C,B,A,z,y,v,u,t⟩:=kz q.out.act;obtain⟨⟨z0,U,z2,z3⟩,S,R⟩:=aS q.out.gV;have av:=q.out.net.lt;have f:=q.out.net.soft;by_cases l:d1=0
 ·subst l;have X:=q.out.dV 0;have ay:=ae X;go_wp2_with fail;refine(eX a7 n7 c7 O _ (aU.vG (q.out.YM PT.out 0 _) lD.out)).mono ?_;rw [an.out];rintro e W9 ⟨rfl,CJ⟩;have r:=ae (ay.out.below CJ);have Tc:=ae ((q.out.YM PT.out 0 (.int .i64 0)).below CJ);clear CJ av X;clear E C B A z y v u t z0 U z2 z3 S R f;obtain⟨E,C,B,A,z,y,v,u,t⟩:=kz r.out.act;obtain⟨⟨z0,U,z2,z3⟩,S,R⟩:=aS r.out.gV;have bc:=r.out.net.lt;have f:=r.out.net.soft;have a8:=r.out.net.jh a V;have e1:c=d2:=by rw [pX.out];simp
  subst e1;by_cases j:c=0
  ·have e2:sn={s with P:=cZ s.P a O}:=by rw [D9.out,af j]
   subst j;subst e2;go_wp2_with fail;have d:=ae ((r.out.dV 0).KJ a (r.out.YM Tc.out 0 _)).fin;rename_i K1 i;refine bY (w:=w) rfl rfl rfl rfl rfl d.out.net d.out.kn.one d.out.gV d.out.room d.out.nM ?_ _ (by kernel_rfl);intro y0 y1 W' hR Y hb;refine i _ W' ?_;exact Jj (dU d.out hb hR Y)
  ·have e2:sn=s:=by rw [D9.out,ag j]
   have zq:(c==0)=false:=by simpa using j
   subst e2;clear j;go_wp2_with fail;have d:=ae (r.out.dV c).fin;rename_i K1 i;refine bY (w:=w) rfl rfl rfl rfl rfl d.out.net d.out.kn.one d.out.gV d.out.room d.out.nM ?_ _ (by kernel_rfl);intro y0 y1 W' hR Y hb;refine i _ W' ?_;exact Jj (dU d.out hb hR Y)
 ·have e1:c=d1:=by rw [pX.out,ag l]
  subst e1;have e2:sn=s:=by rw [D9.out,ag l]
  have zq:(c==0)=false:=by simpa using l
  subst e2;clear l;go_wp2_with fail;have d:=ae (q.out.dV c).fin;rename_i K1 i;refine bY (w:=w) rfl rfl rfl rfl rfl d.out.net d.out.kn.one d.out.gV d.out.room d.out.nM ?_ _ (by kernel_rfl);intro y0 y1 W' hR Y hb;refine i _ W' ?_;exact Jj (dU d.out hb hR Y)
def Pl.qB(ps:List (Int×Int))(p:Int×Int):List (Int×Int):=ps.filter fun q=> !decide (q=p)
theorem Pl.Gs(ps:List (Int×Int))(p q:Int×Int):qB (ps++ [q]) p=qB ps p++(if q=p then []else [q]):=by
 unfold qB;rw [List.filter_append];by_cases h:q=p
 ·simp [h]
 ·simp [h]
theorem Pl.QZ(ps:List (Int×Int))(p:Int×Int)(h:∀q∈ps,q≠p):qB ps p=ps:=by
 unfold qB;rw [List.filter_eq_self];intro q a;simp [h q a]
theorem Pl.JR:∀(ps:List (Int×Int)) (p:Int×Int) (i:Int),0<=i->ps.Pairwise (fun a b=>dw a b=true)->
  (mP ps p i<0/\qB ps p=ps)\/(∃k:Nat,mP ps p i=i+k/\k<ps.length/\qB ps p=ps.take k++ps.drop (k+1))
 | [],_,_,_,_=> .inl ⟨by show(-1:Int)<0;omega,rfl⟩
 |q::r,p,i,n,hp=>by
  obtain⟨l,j⟩:=List.pairwise_cons.1 hp;by_cases h:q=p
  ·right;refine⟨0,by show(if q=p then i else _)=_;rw [af h];omega,by simp,?_⟩;have m:∀x∈r,x≠p:=fun x g e=>by
    have:=l x g;rw [h,e]at this;obtain⟨p1,p2⟩:=p;simp [dw]at this
   show qB (q::r) p=r;unfold qB;rw [List.filter_cons_of_neg (by simp [h])];exact QZ r p m
  ·have f:mP (q::r) p i=mP r p (i+1):=by show(if q=p then i else _)=_;rw [ag h]
   have d:qB (q::r) p=q::qB r p:=by unfold qB;rw [List.filter_cons_of_pos (by simp [h])]
   rcases JR r p (i+1) (by omega) j with⟨a,b⟩|⟨k,a,b,c⟩
   ·exact .inl ⟨by rw [f];exact a,by rw [d,b]⟩
   ·refine .inr ⟨k+1,by rw [f,a];omega,by simp;omega,?_⟩;rw [d,c];simp
theorem Pl.YE(ps:List (Int×Int))(p:Int×Int)(k:Nat):(qB (ps.take k) p).length<=ps.length:=by
 unfold qB;exact PW (List.length_filter_le _ _) (by simp;omega)
theorem Sl(s:Pl.Nt)(P K T:Nat->xx)(x:Pl.Ac)(w:qh)(hK:Kn w s P K T)(hk:x.kind=5)(ha:0<=x.a/\x.a<=11)(c:Int)(sn:Pl.Nt)(y:∀p∈s.P x.a.toNat,dJ p)(Rn:(s.P x.a.toNat).length<=1000)(i:(s.P x.a.toNat).Pairwise fun a b=>dw a b=true)(hc:Eh s x=c)(B:Pl.takeN s x=sn):
  O6 xh 47 #[.agg (ax s.D P K T s.L).toArray,.agg x.cells] w (Ap w c [] 0 [] sn):=by
 obtain⟨u,kD⟩:=aV (_);obtain⟨lS,oq⟩:=IC.new (w:=w) (s:=s) (P:=P) (K:=K) (T:=T) (x:=x) kD.out;obtain⟨kind,xa,b,n,m,⟨p1,p2⟩,key,val⟩:=x;simp only at hk ha y Rn i hc B⊢;subst hk;obtain⟨a,rfl⟩:∃k:Nat,xa=k:=⟨xa.toNat,by omega⟩
 have S:a<12:=by omega
 have bg:(a:Int)<12:=by omega
 have a8:=ae oq;have a6:w.heap.size<u.heap.size:=by omega
 have bd:w.heap.size+1<u.heap.size:=by omega
 have ba:w.heap.size+1+1+1+1<u.heap.size:=by omega
 obtain⟨m0,m1,m2,m3,m4,m5,m6,m7,m8⟩:=lS.nine;have iO:=ae (lS.net.place a S);obtain⟨W6,vS⟩:=aV ((u.alloc (.cells #[.slice none 0 0,.bool false,.slice none 0 0,.slice none 0 0,.int .i64 0,.int .i64 0,.int .i64 0,.int .i64 0,.int .i64 0,.int .i64 0,.int .i64 0,.int .i64 0,.int .i64 0,.int .i64 0,.int .i64 0,.int .i64 0] 33)).setCells u.heap.size 0 (bP (s.D a) (P a) (K a) (T a) (s.L a)));obtain⟨H,aa,E8,A⟩:=sH lS rfl vS.out;rw [<-aP (s.D a) (P a) (K a) (T a) (s.L a)]at A;have yJ:=ae A;have t:=ae (St.of H hK);have Ec:=ae aa;have nI:=ae (zk (D:=s.D a) (L:=s.L a) (hK.XP a S) (hK.XQ a S) (hK.XO a S));obtain⟨k0,k1,k2,k3,k4,Y,X,k7,k8⟩:=H.nine;have JX:=t.out.net.lt;have G:=t.out.net.soft;obtain⟨⟨z0,z1,z2,z3⟩,zf,zl⟩:=aS t.out.gV;have bb:w.heap.size+1<W6.heap.size:=by omega
 simp only at m0 m1 m2 m3 m4 m5 m6 m7 m8 k0 k1 k2 k3 k4 Y X k7 k8;unfold Pl.Ac.cells at kD⊢;simp only at kD⊢;clear oq lS H aa A;have HC:=ae hc;have HS:=ae B;rw [oC]at y Rn i;have aD:=ae y;have Xj:=ae i;obtain⟨pa,pc,ev,C,aq,-⟩:=(t.out.kn.1 a S).shape aD.out;have f:=Ec.out.jh;rw [ev]at f;have hM:=aj.lt Ec.out;obtain⟨N,z⟩:=ai ((s.P a).length);rw [z.out]at f C Rn;have M:=ae C;have aL:=ae Rn;clear hc B C aq ev y Rn i;go_enter Tryz.func47,Tryz.ntmps47;go_wp2_with fail;rw [<-show u=_ from kD.out];refine(kW _ 1 10 _ (by omega)).mono ?_;rintro e w' ⟨rfl,d⟩;rw [d];clear d w';go_wp2_with (first
  |(go_at_call 74;refine(dK _ _).mono ?_;rw [zx ha];rintro e w' ⟨rfl,d⟩;rw [d];clear d w')
  |refine OE rfl 33 (.tmp 51) rfl w.heap.size (a*16) rfl (bP (s.D a) (P a) (K a) (T a) (s.L a)) _ iO.out IA rfl (by rw [aP];exact gq) ?_
  |refine aX rfl 33 (.tmp 7) (.tmp 52) rfl u.heap.size 0 (bP (s.D a) (P a) (K a) (T a) (s.L a)) rfl rfl yJ.out (by rw [aP];exact gq) nI.out vS.out ?_)
 have aM:=ae f;have HM:=ae hM;have ar:=M.out.2.2.1;have bk:=M.out.2.1;unfold Jk at ar;clear f hM JX;clear k0 k1 k2 k3 k4 Y X k7 k8 z0 z1 z2 z3 zf zl G;go_loopw [10,11] (fun vo vi wr=>∃(k:Nat) (v:xx) (os:List (Int×Int)),v=vo/\k<=N/\vi= .int .i64 k/\rU (os=qB ((s.P a).take k) (p1,p2))/\rU (bJ wr W6.heap.size v os)/\rU (Ah W6.heap.size W6 wr)) (fun _ vi _=>N-(Eb vi).toNat)
 case atStart=>exact⟨0,_,[],rfl,xn _,rfl,ae rfl,ae (aU.nil _ _ _),ae (oP _ _)⟩
 case round=>
  obtain⟨k,v,os,hv,hk,rfl,h,HO,U⟩:=hrel;subst hv;have J:=ae (t.out.below U.out);have hz:=U.out.size;have f:=(U.out.cell (p:=⟨u.heap.size,2,none⟩) HM.out).trans aM.out;have I:u.heap.size<wr.heap.size:=by have:=HM.out;omega
  have aE:rU (os.length<=N):=ae (by rw [h.out,<-z.out];exact YE _ _ _);have ak:w.heap.size+1<wr.heap.size:=by omega
  obtain⟨k0,k1,k2,k3,k4,Y,X,k7,k8⟩:=kz J.out.act;obtain⟨⟨z0,z1,z2,z3⟩,zf,zl⟩:=aS J.out.gV;have aw:=J.out.net.lt;have G:=J.out.net.soft;by_cases o:k<N
  ·obtain⟨b0,off,rfl,O,hr⟩:=M.out.at o;obtain⟨r0,r1⟩:=hr k (by rw [z.out];exact o);have Qg:=ae (EY (s.P a) k (by rw [z.out];exact o));obtain⟨⟨W,V⟩,HQ⟩:=ai (Pl.pr (s.P a) k);rw [HQ.out]at r0 r1 Qg;have R0:=ae r0;have R1:=ae r1;have aR:(k:Int)<(N:Int):=by omega
   have r:b0<wr.heap.size:=by omega
   have u0:=(U.out.cell (p:=⟨b0,off+k*2,none⟩) O).trans R0.out;have u1:=(U.out.cell (p:=⟨b0,off+k*2+1,none⟩) O).trans R1.out;obtain⟨R,g1⟩:∃c,(W==p1)=c:=⟨_,rfl⟩
   obtain⟨Q,g2⟩:∃c,(V==p2)=c:=⟨_,rfl⟩
   have an:rU (((W,V)=(p1,p2))↔(R&&Q)=true):=ae (by rw [<-g1,<-g2];simp);clear hr r0 r1;go_wp2_with fail;have i0:=aC r u0;have i1:=aC r u1;have i2:=aC I f;have i3:=aC ak Y;have i4:=aC ak X;have av:=dO wr
   cases R
   all_goals cases Q
   all_goals
    refine aN (by kernel_rfl) (by kernel_rfl) ?_;repeat (go_big_quiet_step (fail))
    refine Pe ?_;intro w6 d;have g:=eU d;clear d av i0 i1 i2 i3 i4;have vW:=ae (U.out.trans (g.mono hz));have CO:=ae (HO.out.below g);have E8:=vW.out.size;have v0:=(g.cell (p:=⟨b0,off+k*2,none⟩) r).trans u0;have v1:=(g.cell (p:=⟨b0,off+k*2+1,none⟩) r).trans u1;have v2:=(g.cell (p:=⟨u.heap.size,2,none⟩) I).trans f;have bj:=GX r g.size;have bh:=GX I g.size;clear g u0 u1 f k0 k1 k2 k3 k4 Y X k7 k8 z0 z1 z2 z3 zf zl G aw;first
     |(
             have HE:=ae (an.out.2 rfl);go_wp2_with fail;go_roundw
             case rel=>exact⟨k+1,v,os,rfl,by omega,by go_num,ae (by rw [Qg.out,Gs,af HE.out,OO];exact h.out),CO,vW⟩
             case measure=>simp [Eb];omega)
     |(
             have HE:rU (¬((W,V)=(p1,p2))):=ae (fun q=>by cases an.out.1 q);go_wp2_with (at_builtin;refine dM MJ kG rfl (.tmp 182) (.tmp 188) rfl W6.heap.size v os (W,V) rfl CO.out E8 rfl (by have:=aE.out;have:=aL.out;omega) ?_;intro v8 w8 rF ad _;have PT:=ae rF;have Xi:=ae (vW.out.trans ad);clear rF ad);go_roundw
             case rel=>exact⟨k+1,_,os++ [(W,V)],rfl,by omega,by go_num,ae (by rw [Qg.out,Gs,ag HE.out,h.out]),PT,Xi⟩
             case measure=>simp [Eb];omega)
  ·obtain rfl:k=N:=by omega
   have ay:rU ((s.P a).take k=s.P a):=ae (by rw [<-z.out];exact Rz);rw [ay.out]at h;obtain⟨a7,c7,rfl⟩:=az HO.out;obtain⟨n7,CP⟩:=ai (os.length);have rV:rU (bJ wr 0 (.slice a7 n7 c7) os):=ae (by rw [<-CP.out];exact aU.mono HO.out (xn _));have bc:=J.out.net.jh a S;have Ql:=ae (JR (s.P a) (p1,p2) 0 (by omega) Xj.out);rw [CP.out];rcases Ql.out with⟨i1,i2⟩|⟨j,i1,i2,i3⟩
   ·have Z:n7=k:=by rw [<-CP.out,h.out,i2,z.out]
    subst Z;have R:c=6:=by rw [<-HC.out];unfold Eh;simp only [oC];rw [af i1]
    have Q:sn=s:=by rw [<-HS.out];unfold Pl.takeN;simp only [oC];rw [af i1]
    subst R;subst Q;clear i1 i2 o;go_wp2_with fail;have l:=ae (J.out.dV 6).fin;rename_i K1 E;refine bY (w:=w) rfl rfl rfl rfl rfl l.out.net l.out.kn.one l.out.gV l.out.room l.out.nM ?_ _ (by kernel_rfl);intro y0 y1 W' hR hq O;refine E _ W' ?_;exact Jj (dU l.out O hR hq)
   ·have Z:((n7:Int)==(k:Int))=false:=by
     have:n7+1=k:=by
      rw [<-CP.out,h.out,i3,<-z.out];simp;omega
     simp;omega
    have F:¬mP (s.P a) (p1,p2) 0<0:=by omega
    have R:c=0:=by rw [<-HC.out];unfold Eh;simp only [oC];rw [ag F]
    have Q:sn={s with P:=cZ s.P a os}:=by
     rw [<-HS.out];unfold Pl.takeN;simp only [oC];rw [ag F,h.out,i3,i1,show((0:Int)+(j:Int)).toNat=j by omega]
    subst R;subst Q;clear i1 i2 i3 F o;go_wp2_with fail;have l:=ae (J.out.KJ a rV.out).fin;rename_i K1 E;refine bY (w:=w) rfl rfl rfl rfl rfl l.out.net l.out.kn.one l.out.gV l.out.room l.out.nM ?_ _ (by kernel_rfl);intro y0 y1 W' hR hq O;refine E _ W' ?_;exact Jj (dU l.out O hR hq)
theorem AX{w w':qh}{b off k:Nat}{es:List aK}{y:aK}(h:dN w b off es)(d:b<w.heap.size)(hw:Ah w.heap.size w w')(a:eF es k=y)(c:k<es.length):
  w'.cell? ⟨b,off+k*4,none⟩=some (.string y.key)/\w'.cell? ⟨b,off+k*4+1,none⟩=some (.int .i64 y.gz)/\w'.cell? ⟨b,off+k*4+2,none⟩=some (.int .i64 y.org)/\w'.cell? ⟨b,off+k*4+3,none⟩=some (.string y.val):=by
 subst a;exact(h.below d hw) k c
theorem Fh{n:Int}(h0:0<=n)(a:n<=255):IntKind.u8.wrap n=n:=by
 simp [IntKind.wrap,IntKind.bits,IntKind.signed];omega
theorem Ym{w:qh}{base:Nat}{v:xx}{a:List UInt8}(h:gQ w base v a):gQ w.drew base v a:=h
theorem VE{base:Nat}{w w':qh}{o:Obj}(a:base<=w.heap.size)(h:lZ base (w.alloc o).drew w'):lZ base w w':=by
 have b:lZ base w (w.alloc o).drew:=lZ.tN (Qd ((oP w.heap.size w).alloc (BD _) o)) a;exact b.trans h
theorem aiY(s:ByteArray):s.data.toList.length=s.size:=by simp
theorem aaV{ops:Array Oper}{o:Oper}{a:Z5}{w:qh}{K:Z5->qh->Prop}{Q:Exit->Z5->qh->Prop}{E:Prop}(z:o.guard=none)(s x:Operand)
  (y:o.op= .call {callee:= .builtin .append,args:=#[s,x],argTypes:=#[105,105]})
  (base:Nat)(v:xx)(f:List UInt8)(n m:Int)(t:a.eval s=v)(c:gQ w base v f)(b:base<=w.heap.size)(g:Nat)(r:a.eval x= .slice (some ⟨g,0,none⟩) 2 2)
  (c0:w.cell? ⟨g,0,none⟩=some (.int .u8 n))(c1:w.cell? ⟨g,1,none⟩=some (.int .u8 m))(h0:0<=n)(C:n<=255)(B:0<=m)(A:m<=255)(D:f.length+2<=140737488355328)
  (hK:∀h w',gQ w' base h (f++ [Pl.u8 n,Pl.u8 m])->lZ base w w'->K (a.put o.dst h) w'):
  if Tn o (yielded ops a.tmps)=true then xk xh o a w K Q else E:=by
 have hw:Tn o (yielded ops a.tmps)=true:=by simp [Tn,z]
 rw [af hw];obtain⟨i0,p,l,k,i⟩:=info_parts infoByte;refine Xh (w:=_) s x 105 y base 5 i0 _ 1 1 Tryz.underlying105 p l k i rfl (by decide) _ f.length (dH f) t c ⟨g,0,none⟩ 2 2 [.int .u8 n,.int .u8 m] r rfl ?_ ?_ (by unfold Jk;omega) (by omega) b ?_
 ·intro j u e;match j,e with
  |0,e=>simp at e;subst e;rw [bD];exact c0
  |1,e=>simp at e;subst e;rw [bD];exact c1
 ·intro u hu;simp at hu;rcases hu with rfl|rfl<;>rfl
 ·intro h w' d q _;refine hK h w' (uN d ?_) (lZ.Bi c q b);rw [nD];simp [dH,rY h0 C,rY B A]
theorem Ik(a:Option Addr)(len cap:Nat)(es:List aK)(w:qh)(h:bI w a len cap es):
  O6 xh 81 #[.slice a len cap] w fun e w'=>∃v,e= .returned (.tuple #[v,.int .i64 (Pl.fault es)])/\gQ w' w.heap.size v (uT es)/\Ah w.heap.size w w':=by
 have HH:=ae h;have hlen:es.length=len:=h.1;have an:=h.2.1;have hm:=h.2.2.1;unfold Jk at hm;clear h;obtain⟨c,D⟩:=ai (Pl.fault es);by_cases r:c=0
 ·subst r;have HG:=ae ((bK es).1 D.out);have a6:len<=60:=by have:=HG.out.1;omega
  go_enter Tryz.func81,Tryz.ntmps81;go_wp2_with fail;refine(bM _ _ _ es _ HH.out).mono ?_;rw [D.out];rintro e w1 ⟨rfl,s⟩;have G:=s.size;go_wp2_with fail;go_loopw [5,6] (fun vv i wr=>∃(k:Nat) (c:List UInt8) (u:xx),u=vv/\k<=len/\i= .int .i64 k/\rU (gQ wr w.heap.size u c)/\c.length<=2+k*138/\rU (Pl.body es=c++Pl.encL (es.drop k))/\Ah w.heap.size w wr) (fun _ i _=>len-(Eb i).toNat)
  case atStart=>exact⟨0,[116,Pl.u8 (es.length:Int)],_,rfl,xn _,rfl,by rw [hlen];exact(JK w1 116 (len:Int) (by omega) (by omega)).mono G,by simp,rfl,s.alloc G _⟩
  case round=>
   obtain⟨k,c,u,rfl,hk,rfl,HO,aR,HE,U⟩:=hrel;have hz:=U.size;by_cases aw:k<len
   ·obtain⟨b,off,rfl,f,W⟩:∃b off,a=some ⟨b,off,none⟩/\b<w.heap.size/\dN w b off es:=by
     rcases HH.out.2.2.2.2 with h|h
     ·rw [h]at hlen;simp at hlen;omega
     ·exact h
    obtain⟨o,n,m,l⟩:=W.below f U k (by omega);have j:=ae W;have F:rU (k<es.length):=by show _<_;omega
    clear W;have z:=Dw (HG.out.2.1 _ (lU es k (by omega)));have lF:=ae (Hg (HG.out.2.1 _ (lU es k (by omega))));have HD:=ae (xg es k (by omega));obtain⟨x,E⟩:=ai (eF es k);rw [E.out]at o n m l z lF HD;obtain⟨d,t,y,p⟩:=x;simp only at o n m l z;obtain⟨p1,p2,p3,p4,p5,p6,p7⟩:=z;go_wp2_with (first
     |(at_builtin;refine uA rfl (.tmp 22) (.tmp 30) rfl w.heap.size u c (d.size:Int) rfl HO.out hz rfl (by omega) (by omega) (by omega) ?_;intro v3 w3 g K;have vC:=ae g;clear g;have V:=K.1.size;have O:=U.trans K.1;clear o n m l;obtain⟨o,n,m,l⟩:=AX j.out f O E.out F.out;have aL:(c++ [Pl.u8 (d.size:Int)]).length<=2+k*138+1:=(by rw [LM];simp only [List.length_singleton];omega))
     |(at_builtin;refine Ae rfl (.tmp 32) (.tmp 37) rfl w.heap.size v3 _ d rfl vC.out (by omega) rfl (by omega) ?_;intro v4 w4 T q;have sV:=ae T;clear T;have yw:=q.1.size;have P:=O.trans q.1;clear o n m l;obtain⟨o,n,m,l⟩:=AX j.out f P E.out F.out))
    have aE:(c++ [Pl.u8 (d.size:Int)]++d.data.toList).length<=2+k*138+9:=by rw [LM,aiY];omega
    refine(Qu 6 t _ (by omega) (by simp only [Pl.lim];omega) (by omega) (by omega)).mono ?_;rintro e w5 ⟨v5,rfl,iW,B⟩;obtain⟨a5,c5,rfl,L,H,_⟩:=iW.shape;have aa:=ae L;have Xd:=ae H;have oL:=ae (sV.out.below B);have oq:=B.size;have Q:=P.trans (B.mono (by omega));clear iW L H o n m l;have aD:=xe 6 t;obtain⟨o,n,m,l⟩:=AX j.out f Q E.out F.out;go_wp2_with (at_builtin;refine yH rfl (.tmp 39) (.tmp 45) rfl w.heap.size v4 _ _ _ _ (Pl.encV 6 t) rfl oL.out (by omega) rfl aa.out Xd.out (by omega) ?_;intro v6 w6 I7 J;have CO:=ae I7;clear I7;have E8:=J.1.size;have R:=Q.trans J.1;clear o n m l;obtain⟨o,n,m,l⟩:=AX j.out f R E.out F.out);have Rn:(c++ [Pl.u8 (d.size:Int)]++d.data.toList++Pl.encV 6 t).length<=2+k*138+16:=by rw [LM];omega
    have av:IntKind.u8.wrap y=y:=Fh (by omega) (by omega);have ar:IntKind.u8.wrap (p.size:Int)=(p.size:Int):=Fh (by omega) (by omega);go_region_held3 (fun w'=>w'.cell? ⟨b,off+k*4+2,none⟩=some (.int .i64 y)/\w'.cell? ⟨b,off+k*4+3,none⟩=some (.string p)) (go_keep) ((refine aaV rfl (.tmp 47) (.tmp 61) rfl w.heap.size v6 (c++ [Pl.u8 (d.size:Int)]++d.data.toList++Pl.encV 6 t) y (p.size:Int) rfl ?_ ?_ w6.heap.size rfl ?_ ?_ (by omega) (by omega) (by omega) (by omega) (by omega) ?_;(exact Ym (aaj CO.out _));(simp;omega);simp;simp;intro v7 w7 kK Uw;have rV:=ae kK;clear kK;have N:=VE (by omega) Uw;have aq:=N.1.size;have S:=R.trans N.1;obtain⟨j0,j1,j2,j3⟩:=AX j.out f S E.out F.out))
    have ay:(c++ [Pl.u8 (d.size:Int)]++d.data.toList++Pl.encV 6 t++ [Pl.u8 y,Pl.u8 (p.size:Int)]).length<=2+k*138+18:=by rw [LM];simp only [List.length_cons,List.length_nil];omega
    have ak:rU (c++ [Pl.u8 (d.size:Int)]++d.data.toList++Pl.encV 6 t++ [Pl.u8 y,Pl.u8 (p.size:Int)]++p.data.toList=c++I9 ⟨d,t,y,p⟩):=by
     show _=_;simp [I9,BK]
    go_wp2_with (at_builtin;refine Ae rfl (.tmp 63) (.tmp 68) rfl w.heap.size v7 _ p rfl rV.out (by omega) rfl (by omega) ?_;intro v8 w8 A Y;rw [ak.out]at A;have HF:=ae A;clear A);go_roundw
    case rel=>exact⟨k+1,_,_,rfl,by omega,by go_num,HF,by rw [LM];have:=lF.out;omega,by show _=_;rw [HE.out,HD.out];simp [Pl.encL],S.trans Y.1⟩
    case measure=>simp [Eb];omega
   ·obtain rfl:k=len:=by omega
    have HB:rU (Pl.body es=c):=by show _=_;rw [HE.out,OG (by omega)];simp [Pl.encL]
    obtain⟨a2,c2,rfl,M,X,_⟩:=HO.out.shape;have HI:=ae M;clear M X;go_wp2_with fail;refine(Af _ _ _ c _ HI.out).mono ?_;rintro e w3 ⟨v3,rfl,g,C⟩;have V:=C.size;obtain⟨a3,c3,rfl,Xr,I,_⟩:=g.shape;have ad:=ae Xr;have pW:=ae I;have Z:=ae (HO.out.below C);clear g Xr I;go_wp2_with (at_builtin;refine yH rfl (.tmp 70) (.tmp 72) rfl w.heap.size _ c _ _ _ (mi c) rfl Z.out (by omega) rfl ad.out pW.out (by rw [C9];omega) ?_;intro v4 w4 T q);go_ret2;exact⟨_,by rw [D.out];rfl,by unfold uT Pl.enc;rw [af D.out,HB.out];exact T,(U.trans (C.mono hz)).trans q.1⟩
 ·have aM:(c != 0)=true:=by simp [r]
  have HP:rU (uT es= []):=by show _=_;unfold uT;rw [D.out,ag r]
  clear r;go_enter Tryz.func81,Tryz.ntmps81;go_wp2_with fail;refine(bM _ _ _ es _ HH.out).mono ?_;rw [D.out];rintro e w1 ⟨rfl,s⟩;go_wp2_with fail;go_ret2;exact⟨_,by rw [D.out];rfl,by rw [HP.out];exact gQ.nil _ _,s⟩
def jW(w:qh)(B R:Nat)(c:Int)(rs:List UInt8):Prop:=
 ∃a len cap bs i,w.cell? ⟨R,0,none⟩=some (.slice a len cap)/\w.cell? ⟨R,1,none⟩=some (.int .i64 ((i:Nat):Int))/\w.cell? ⟨R,2,none⟩=some (.int .i64 c)/\
  w.frozen? ⟨R,0,none⟩=false/\w.frozen? ⟨R,1,none⟩=false/\w.frozen? ⟨R,2,none⟩=false/\
  dF w a len cap bs/\(∀x,a=some x->¬bs= []->x.block<B)/\B<=R/\R<w.heap.size/\i<=len/\(c=0->rs=bs.drop i)/\¬bs= []/\len<=20000
theorem jW.bad{w:qh}{B R:Nat}{c:Int}{rs:List UInt8}(h:jW w B R c rs)(hc:¬c=0)(b:List UInt8):jW w B R c b:=by
 obtain⟨a,len,cap,o,i,h0,n,m,f0,f1,f2,k,f,l,j,g,_,d,e⟩:=h;exact⟨a,len,cap,o,i,h0,n,m,f0,f1,f2,k,f,l,j,g,(fun h=>absurd h hc),d,e⟩
theorem jW.drewN{w:qh}{B R:Nat}{c:Int}{rs:List UInt8}(h:jW w B R c rs)(n:Nat):jW (w.drewN n) B R c rs:=h
theorem eG.drewN{R:Nat}{a w:qh}(h:eG R a w)(n:Nat):eG R a (w.drewN n):=h.trans (eG.tN (below_drewN (oP _ _) n))
theorem jW.err{w:qh}{B R:Nat}{c n:Int}{rs:List UInt8}(h:jW w B R c rs)(j:¬n=0)(b:List UInt8):jW (w.setCell ⟨R,2,none⟩ (.int .i64 n)) B R n b:=by
 obtain⟨a,len,cap,o,i,h0,q,p,f0,f1,f2,m,f,g,l,k,_,d,e⟩:=h;refine⟨a,len,cap,o,i,?_,?_,?_,?_,?_,?_,oV m (eG.set R 2 w _) g f,f,g,by simpa [BG]using l,k,(fun h=>absurd h j),d,e⟩
 ·go_simp
 ·go_simp
 ·go_simp
 ·rw [Ee];exact f0
 ·rw [Ee];exact f1
 ·rw [Ee];exact f2
theorem jW.on{w:qh}{B R:Nat}{c:Int}{a:Option Addr}{len cap i j:Nat}{b:List UInt8}(h0:w.cell? ⟨R,0,none⟩=some (.slice a len cap))(n:w.cell? ⟨R,1,none⟩=some (.int .i64 ((i:Nat):Int)))(m:w.cell? ⟨R,2,none⟩=some (.int .i64 c))
  (f0:w.frozen? ⟨R,0,none⟩=false)(f1:w.frozen? ⟨R,1,none⟩=false)(f2:w.frozen? ⟨R,2,none⟩=false)(l:dF w a len cap b)(f:∀x,a=some x->¬b= []->x.block<B)(g:B<=R)(k:R<w.heap.size)(h:j<=len)(d:¬b= [])(e:len<=20000):
  jW (w.setCell ⟨R,1,none⟩ (.int .i64 (j:Int))) B R c (b.drop j):=by
 refine⟨a,len,cap,b,j,?_,?_,?_,?_,?_,?_,oV l (eG.set R 1 w _) g f,f,g,by simpa [BG]using k,h,(fun _=>rfl),d,e⟩
 ·go_simp
 ·go_simp
 ·go_simp
 ·rw [Ee];exact f0
 ·rw [Ee];exact f1
 ·rw [Ee];exact f2
theorem EZ(B R:Nat)(c:Int)(rs:List UInt8)(w:qh)(h:jW w B R c rs):
  O6 xh 127 #[.pointer (some ⟨R,0,none⟩)] w fun e w'=>e= .returned (.int .i64 (Pl.num c rs).1)/\jW w' B R (Pl.num c rs).2.1 (Pl.num c rs).2.2/\eG R w w':=by
 have u:=ae h;obtain⟨a,len,cap,l,i,h0,H,G,f0,f1,f2,t,m,F,E,N,g,f,r⟩:=h;have J:=ae t;obtain⟨hl,y,hm,d⟩:=t;unfold Jk at hm;by_cases hc:c=0
 ·subst hc;have p:=g rfl;subst p;by_cases x:i<len
  ·obtain⟨b,off,rfl,O,o⟩:=d.resolve_left f;have q:=m _ rfl f;simp at q;have M:=o i _ (xB (by omega));have D:¬b=R:=by omega
   have k:rU (Pl.num 0 (l.drop i)=(((l.getD i 0).toNat:Int),0,l.drop (i+1))):=by
    show _=_;rw [List.drop_eq_getElem_cons (by omega),wP];rw [GM,Uz (by omega)];rfl
   have v:=o8 (l.getD i 0);have I:=ae (fun n=>jW.on (w:=w.drewN n) (j:=i+1) h0 H G f0 f1 f2 J.out m F E (by omega) f r);generalize (l.getD i 0).toNat=L at*;clear o d g m f;go_enter Tryz.func127,Tryz.ntmps127;go_wp2;go_quiet (fail);go_wp2;go_quiet (fail);go_wp2;go_ret;refine⟨aF (by rw [k.out]),?_,((eG.refl R w).drewN _ |>.trans (eG.set R 1 _ _)).drewN _⟩;rw [k.out,show((i:Int)+1)=((i+1:Nat):Int) by omega];exact(I.out _).drewN _
  ·have p:l.drop i= []:=OG (by omega);have k:rU (Pl.num 0 (l.drop i)=(0,5,[])):=by show _=_;rw [p];rfl
   have s:=ae (fun n=>(u.out.drewN n).err (n:=5) (by omega) []);have z:(len:Int)<=(i:Int):=by omega
   clear d g m p f;go_enter Tryz.func127,Tryz.ntmps127;go_wp2;go_quiet (fail);go_wp2;go_ret;refine⟨aF (by rw [k.out]),?_,(eG.refl R w).drewN _ |>.trans (eG.set R 2 _ _)⟩;rw [k.out];exact s.out _
 ·have A:(c==0)=false:=by simp [hc]
  have C:(c != 0)=true:=by simp [hc]
  have K:=ae hc;have k:rU (Pl.num c rs=(0,c,[])):=Bl hc;clear d g m hc f;go_enter Tryz.func127,Tryz.ntmps127;go_wp2;go_quiet (fail);go_wp2;go_ret;refine⟨aF (by rw [k.out]),?_,(eG.refl R w).drewN _⟩;rw [k.out];exact(u.out.bad K.out _).drewN _
theorem FK(B R:Nat)(c:Int)(rs:List UInt8)(w:qh)(h:jW w B R c rs):
  O6 xh 128 #[.pointer (some ⟨R,0,none⟩)] w fun e w'=>e= .returned (.string (kE c rs).1)/\jW w' B R (kE c rs).2.1 (kE c rs).2.2/\eG R w w':=by
 have HD:=ae h;clear h;have p:=iw c rs;have A:=ae (EZ B R c rs w HD.out);obtain⟨n,c1,r,Q⟩:∃n c1 r,rU (Pl.num c rs=(n,c1,r)):=⟨_,_,_,rfl⟩
 have z:rU (kE c rs=if c1=0 then(if n.toNat<=r.length then(⟨(r.take n.toNat).toArray⟩,0,r.drop n.toNat)else(⟨#[]⟩,5,[]))else(⟨#[]⟩,c1,[])):=by
  show _=_;unfold kE;rw [Q.out]
 rw [Q.out]at p A;simp only at p A;obtain⟨E,T⟩:=p;obtain⟨m,rfl⟩:=UX E;simp only [oC]at z;go_enter Tryz.func128,Tryz.ntmps128;go_wp2_with fail;refine A.out.mono ?_;rintro e q ⟨rfl,s,t⟩;have x:=ae s;have y:=ae t;obtain⟨a,len,cap,v,i,h0,h1,h2,f0,f1,f2,M,o,N,hR,hi,f,d,F⟩:=s;have P:=ae M;obtain⟨hl,U,hm,g⟩:=M;unfold Jk at hm;clear t;by_cases hc:c1=0
 ·subst hc;have S:=f rfl;subst S;obtain⟨b,off,rfl,hb,D⟩:=g.resolve_left d;clear D g;by_cases hle:i+m<=len
  ·obtain⟨j,G⟩:∃j,i+m=j:=⟨_,rfl⟩
   have C:=o _ rfl d;simp at C;have an:¬b=R:=by omega
   have l:rU (kE c rs=(⟨((v.drop i).take m).toArray⟩,0,v.drop j)):=by
    show _=_;rw [z.out,af rfl,af (by simp;omega),List.drop_drop,G]
   have O:=ae (fun n=>jW.on (w:=q.drewN n) (j:=j) h0 h1 h2 f0 f1 f2 P.out o N hR (by omega) d F);have X:(i:Int)+(m:Int)=(j:Int):=by omega
   have V:(j:Int)-(m:Int)=(i:Int):=by omega
   have aq:¬((len:Int)<(j:Int)):=by omega
   have Z:(i:Int)<=(j:Int):=by omega
   have W:(j:Int)<=(len:Int):=by omega
   have u:j-i=m:=by omega
   have J:=ae u;clear u;have Y:(j:Int)<=(cap:Int):=by omega
   have ar:j<=cap:=by omega
   have L:i<=j:=by omega
   by_cases I:cap=i
   ·subst I;obtain rfl:j=cap:=by omega
    have H:∀n k,(convert 105 9 (.slice (some ⟨b,off,none⟩) 0 0)).run xh (((q.drewN n).setCell ⟨R,1,none⟩ (.int .i64 (j:Int))).drewN k)= .ok (.string ⟨((v.drop j).take m).toArray⟩) (((q.drewN n).setCell ⟨R,1,none⟩ (.int .i64 (j:Int))).drewN k):=by
     intro n k;refine jL ?_;rw [show m=0 by omega];exact⟨by simp,BD _,by simp,.inl (by simp)⟩
    clear f o d G;go_wp2;go_quiet (fail);go_wp2;go_quiet (fail);go_wp2;go_ret;refine⟨by rw [l.out];rfl,?_,((y.out.drewN _).trans (eG.set R 1 _ _)).drewN _⟩;rw [l.out];exact(O.out _).drewN _
   ·have H:∀n k,(convert 105 9 (.slice (some ⟨b,off+i,none⟩) (j-i) (cap-i))).run xh (((q.drewN n).setCell ⟨R,1,none⟩ (.int .i64 (j:Int))).drewN k)= .ok (.string ⟨((v.drop i).take m).toArray⟩) (((q.drewN n).setCell ⟨R,1,none⟩ (.int .i64 (j:Int))).drewN k):=by
     intro n k;refine jL ?_;rw [J.out];have hW:dF (q.drewN n) (some ⟨b,off,none⟩) len cap v:=P.out;exact uw (qH (oV hW ((eG.set R 1 _ _).drewN _) N o) hi) (by omega)
    clear f o d G;go_wp2;go_quiet (fail);go_wp2;go_quiet (fail);go_wp2;go_ret;refine⟨by rw [l.out];rfl,?_,((y.out.drewN _).trans (eG.set R 1 _ _)).drewN _⟩;rw [l.out];exact(O.out _).drewN _
  ·have l:rU (kE c rs=(⟨#[]⟩,5,[])):=by
    show _=_;rw [z.out,af rfl,ag (by simp;omega)]
   have K:=ae (fun n=>(x.out.drewN n).err (n:=5) (by omega) []);have aa:(len:Int)<(i:Int)+(m:Int):=by omega
   clear f o d;go_wp2;go_quiet (fail);go_wp2;go_ret;refine⟨by rw [l.out];rfl,?_,y.out.drewN _ |>.trans (eG.set R 2 _ _)⟩;rw [l.out];exact K.out _
 ·have ad:(c1==0)=false:=by simp [hc]
  have ak:(c1 != 0)=true:=by simp [hc]
  have HC:=ae hc;have l:rU (kE c rs=(⟨#[]⟩,c1,[])):=by show _=_;rw [z.out,ag hc]
  clear g f o hc d;go_wp2;go_quiet (fail);go_wp2;go_ret;refine⟨by rw [l.out];rfl,?_,y.out.drewN _⟩;rw [l.out];exact(x.out.bad HC.out _).drewN _
theorem NV(k:Nat):(128:Int)*128^k=128^(k+1):=by rw [Int.pow_succ,Int.mul_comm]
theorem aa5{k:Nat}(h:k<=6):(1:Int)<=128^k/\(128:Int)^k<=4398046511104:=by
 have a:k=0\/k=1\/k=2\/k=3\/k=4\/k=5\/k=6:=by omega
 rcases a with rfl|rfl|rfl|rfl|rfl|rfl|rfl<;>decide
theorem Yt(B R:Nat)(c:Int)(rs:List UInt8)(w:qh)(h:jW w B R c rs):
  O6 xh 129 #[.pointer (some ⟨R,0,none⟩)] w fun e w'=>e= .returned (.int .i64 (gz c rs).1)/\jW w' B R (gz c rs).2.1 (gz c rs).2.2/\eG R w w':=by
 have HD:=ae h;clear h;go_enter Tryz.func129,Tryz.ntmps129;go_wp2;go_loopw [3,4,5] (fun nn uu i wr=>∃(k f:Nat) (v u c1:Int) (C:List UInt8),f+k=8/\1<=f/\i= .int .i64 k/\nn= .int .i64 v/\uu= .int .i64 u/\0<=v/\rU (v<128^k)/\rU (u=128^k)/\rU (jW wr B R c1 C)/\rU (gz c rs=Pl.verF f k v c1 C)/\rU (eG R w wr)/\rU (¬c1=0->v=0)) (fun _ _ i _=>8-(Eb i).toNat)
 case atStart=>exact⟨0,8,0,1,c,rs,rfl,by omega,rfl,rfl,rfl,by omega,by show _<_;omega,rfl,HD,rfl,eG.refl _ _,fun _=>rfl⟩
 case round=>
  obtain⟨k,f,v,u,c1,C,aL,aM,rfl,rfl,rfl,an,HV,D,S,I,HO,U⟩:=hrel;obtain⟨g,rfl⟩:∃g,f=g+1:=⟨f-1,by omega⟩
  obtain⟨a,len,cap,bs,i,h0,Z,Y,f0,f1,f2,Q,K,hB,hR,N,s,z,y⟩:=S.out;clear Q K s z N y;by_cases d:c1=0
  ·subst d;have t:=iw 0 C;have J:=ae (EZ B R 0 C wr S.out);obtain⟨n,c2,o,HN⟩:∃n c2 o,rU (Pl.num 0 C=(n,c2,o)):=⟨_,_,_,rfl⟩
   rw [HN.out]at t J;simp only at t J;obtain⟨aD,ay⟩:=t;have m:rU (gz c rs=if c2=0 then(if k=7\/(0<k/\n=0)then(0,4,[])else if n<128 then(v+n%128*128^k,0,o)else Pl.verF g (k+1) (v+n%128*128^k) 0 o)else(0,c2,[])):=by
    show _=_;rw [I.out,Pl.verF,HN.out]
   clear I;go_wp2_with fail;refine J.out.mono ?_;rintro e w1 ⟨rfl,E,G⟩;have j:=ae E;have r:=ae (HO.out.trans G);clear h0 Z Y f0 f1 f2;obtain⟨a1,W,aa,a6,i1,h0,Z,Y,f0,f1,f2,Q,K,hB,hR,N,s,z,y⟩:=E;clear Q K s z N y G;by_cases l:c2=0
   ·subst l;simp only [if_true]at m;by_cases Uw:k=7
    ·subst Uw;have b:rU (gz c rs=(0,4,[])):=by show _=_;rw [m.out,af (.inl rfl)]
     have A:=ae (j.out.err (n:=4) (by omega) []);clear m;go_wp2;go_ret;refine⟨aF (by rw [b.out]),?_,r.out.trans (eG.set R 2 _ _)⟩;rw [b.out];exact A.out
    ·have aE:((k:Int)==7)=false:=by simp;omega
     by_cases M:0<k/\n=0
     ·obtain⟨H,rfl⟩:=M;have q:(0:Int)<(k:Int):=by omega
      have b:rU (gz c rs=(0,4,[])):=by show _=_;rw [m.out,af (.inr ⟨H,rfl⟩)]
      have A:=ae (j.out.err (n:=4) (by omega) []);clear m;go_wp2;go_ret;refine⟨aF (by rw [b.out]),?_,r.out.trans (eG.set R 2 _ _)⟩;rw [b.out];exact A.out
     ·have b:rU (gz c rs=if n<128 then(v+n%128*u,0,o)else Pl.verF g (k+1) (v+n%128*u) 0 o):=by
       show _=_;rw [m.out,ag (by omega),D.out]
      have hu:=aa5 (show k<=6 by omega);rw [<-D.out]at hu;obtain⟨ar,aq⟩:=hu;have L:0<=n%128*u:=Int.mul_nonneg (by omega) (by omega);have F:n%128*u<=127*u:=Int.mul_le_mul_of_nonneg_right (by omega) (by omega);have T:rU (v+n%128*u<128^(k+1)):=by
       show _<_;rw [<-NV,<-D.out];have:=HV.out;rw [<-D.out]at this;omega
      have SK:rU (128*u=128^(k+1)):=by show _=_;rw [<-NV,D.out]
      have ak:v<4398046511104:=by have:=HV.out;rw [<-D.out]at this;omega
      clear m;obtain⟨p,hp⟩:∃p,n%128*u=p:=⟨_,rfl⟩
      rw [hp]at b L F T;have av:p<=558551906910208:=by omega
      have ad:wrap64 p=p:=by unfold wrap64;omega
      clear F;by_cases H:k=0
      ·have q:¬((0:Int)<(k:Int)):=by omega
       have X:decide ((0:Int)<(k:Int))=false:=by simp;omega
       go_wp2
       ·go_ret;have x:n<128:=by assumption
        rw [af x]at b;exact⟨aF (by rw [b.out]),by rw [b.out];exact j.out,r.out⟩
       ·go_roundw
        case rel=>
         have O:128<=n:=by assumption
         rw [ag (by omega)]at b;exact⟨k+1,g,v+p,128*u,0,o,by omega,by omega,by go_num,rfl,rfl,by omega,T,SK,j,b,r.out,fun h=>absurd rfl h⟩
        case measure=>simp [Eb];omega
      ·have q:(0:Int)<(k:Int):=by omega
       have aw:(n==0)=false:=by simp;omega
       go_wp2
       ·go_ret;have x:n<128:=by assumption
        rw [af x]at b;exact⟨aF (by rw [b.out]),by rw [b.out];exact j.out,r.out⟩
       ·go_roundw
        case rel=>
         have O:128<=n:=by assumption
         rw [ag (by omega)]at b;exact⟨k+1,g,v+p,128*u,0,o,by omega,by omega,by go_num,rfl,rfl,by omega,T,SK,j,b,r.out,fun h=>absurd rfl h⟩
        case measure=>simp [Eb];omega
   ·have P:(c2==0)=false:=by simp [l]
    have aR:(c2 != 0)=true:=by simp [l]
    have V:=ae l;have b:rU (gz c rs=(0,c2,[])):=by show _=_;rw [m.out,ag l]
    clear m l;go_wp2;go_ret;refine⟨aF (by rw [b.out]),?_,r.out⟩;rw [b.out];exact j.out.bad V.out _
  ·have P:(c1==0)=false:=by simp [d]
   have V:=ae d;have hv:=U.out d;subst hv;have b:rU (gz c rs=(0,c1,[])):=by
    show _=_;rw [I.out,Pl.verF,Bl d,ag d]
   clear d I;go_wp2;go_ret;refine⟨aF (by rw [b.out]),?_,HO.out⟩;rw [b.out];exact S.out.bad V.out _
theorem adh{w:qh}{B b off len cap:Nat}{a:List UInt8}(h:dF w (some ⟨b,off,none⟩) len cap a)(e:b<B)(f:B<=w.heap.size)(g:1<=len)(hl:len<=20000)(c:¬a= []):
  jW (w.alloc (.cells #[.slice (some ⟨b,off,none⟩) len cap,.int .i64 1,.int .i64 0] 187)) B w.heap.size 0 (a.drop 1):=by
 refine⟨some ⟨b,off,none⟩,len,cap,a,1,by simp,by simp,by simp,by simp,by simp,by simp,h.below ((oP _ _).alloc (BD _) _),?_,f,by simp,g,fun _=>rfl,c,hl⟩;intro x d _
 cases d;exact e
theorem jW.keep{w w':qh}{B R:Nat}{c:Int}{rs:List UInt8}(h:jW w B R c rs)(A:w.heap.size<=w'.heap.size)(n:∀k,k<w.heap.size->(k<B\/k=R)->w'.heap[k]? =w.heap[k]?):jW w' B R c rs:=by
 obtain⟨a,len,cap,z,i,h0,y,x,f0,f1,f2,t,m,v,s,q,f,e,g⟩:=h;have d:=n R s (.inr rfl);refine⟨a,len,cap,z,i,(OM (w:=w) d).trans h0,(OM (w:=w) d).trans y,(OM (w:=w) d).trans x,(Qi (w:=w) d).trans f0,(Qi (w:=w) d).trans f1,(Qi (w:=w) d).trans f2,?_,m,v,by omega,q,f,e,g⟩;obtain⟨i1,i2,i3,i5⟩:=t;refine⟨i1,i2,i3,?_⟩;rcases i5 with i5|⟨b,off,rfl,r,o⟩
 ·exact .inl i5
 ·have l:=m _ rfl e;exact .inr ⟨b,off,rfl,by omega,fun j u p=>(OM (w:=w) (n b r (.inl l))).trans (o j u p)⟩
theorem jW.below{w w':qh}{B R:Nat}{c:Int}{rs:List UInt8}(h:jW w B R c rs)(k:Ah w.heap.size w w'):jW w' B R c rs:=
 h.keep k.size (fun i a _=>k.block i a)
theorem jW.lt{w:qh}{B R:Nat}{c:Int}{rs:List UInt8}(h:jW w B R c rs):R<w.heap.size/\B<=R:=by
 obtain⟨a,len,cap,o,i,h0,n,m,f0,f1,f2,l,j,g,f,k,b,e,d⟩:=h;exact⟨f,g⟩
theorem jW.set{w:qh}{B R b o:Nat}{c:Int}{rs:List UInt8}{v:xx}(h:jW w B R c rs)(d:R<b):jW (w.setCell ⟨b,o,none⟩ v) B R c rs:=by
 have hl:=h.lt;exact h.keep (by simp [BG]) (fun k _ a=>Below.heap_setCell _ _ _ _ (by simp;omega))
theorem Own.set{W:qh}{base X o:Nat}{v val:xx}{l:List aK}(h:Own W base v l)(a:v.ownBlock≠some X):Own (W.setCell ⟨X,o,none⟩ val) base v l:=
 Own.kept h (eG.set X o W val) (.inr a)
theorem kU{B X o:Nat}{a W:qh}{val:xx}(h:Ah B a W)(c:B<=X)(b:X<=W.heap.size):Ah B a (W.setCell ⟨X,o,none⟩ val):=
 h.trans ((eG.set X o W val).below c b)
namespace Pl
def wL(f:Nat)(l:List aK)(r:List UInt8):List aK×Int:=
 if(entsN f l 0 r).2.1=0 then(if(entsN f l 0 r).2.2= []then((entsN f l 0 r).1,0)else([],4))else([],(entsN f l 0 r).2.1)
theorem X0{r a:List UInt8}{n:Int}(h:num 0 r=(n,0,a)):vF r=wL n.toNat [] a:=by
 unfold vF wL;rw [h];simp only;rw [af trivial]
theorem aa2{r a:List UInt8}{n c:Int}(h:num 0 r=(n,c,a))(hc:¬c=0):vF r=([],c):=by
 unfold vF;rw [h];simp only;rw [ag hc]
theorem QD{f:Nat}{l:List aK}{r:List UInt8}{x:aK}{a:List UInt8}(h:jU 0 r=(x,0,a)):wL (f+1) l r=wL f (l++ [x]) a:=by
 unfold wL;rw [entsN,h];simp only;rw [af trivial]
theorem Vp{f:Nat}{l:List aK}{r:List UInt8}{x:aK}{c:Int}{a:List UInt8}(h:jU 0 r=(x,c,a))(hc:¬c=0):wL (f+1) l r=([],c):=by
 unfold wL;rw [entsN,h];simp only;rw [ag hc];simp only;rw [ag hc]
theorem Vo{l:List aK}{r:List UInt8}:wL 0 l r=if r= []then(l,0)else([],4):=by
 unfold wL;rw [entsN];simp
end Pl
theorem MF(b off len cap e:Nat)(j:List UInt8)(w:qh)(h:dF w (some ⟨b,off,none⟩) len cap j)(he:len=e+4)(h1:len<=20000)(h2:6<=len)(h3:j.getD 0 0=116)(hb:b<w.heap.size)(hq:mi (j.take e)=j.drop e)
  (q0:w.cell? ⟨b,off,none⟩=some (.int .u8 116)):
  O6 xh 82 #[.slice (some ⟨b,off,none⟩) len cap] w fun e w'=>∃v,e= .returned (.tuple #[v,.int .i64 (kP j)])/\Own w' w.heap.size v (mf j)/\Ah w.heap.size w w':=by
 have HI:=ae h;obtain⟨hl,ck,hm,ak⟩:=h;unfold Jk at hm;clear ak;have cb:(0:Int)<(len:Int):=by omega
 have Qm:rU (fU j=0):=by
  show _=_;unfold fU;rw [ag (by omega),ag (by omega),ag (fun h=>h h3),hl,show len-4=e by omega,ag (fun h=>h hq)]
 have EW:rU (kP j=if(vF ((j.take e).drop 1)).2=0 then Pl.fault (vF ((j.take e).drop 1)).1 else(vF ((j.take e).drop 1)).2):=by
  show _=_;unfold kP;rw [af Qm.out,hl,show len-4=e by omega]
 have Aj:rU (mf j=if kP j=0 then(vF ((j.take e).drop 1)).1 else []):=by
  show _=_;unfold mf;rw [hl,show len-4=e by omega]
 have cA:=ae he;have aa:=ae (uw HI.out (show e<=len by omega));have PS:=ae (qH (n:=e) HI.out (by omega));have cv:(convert 105 9 (.slice (some ⟨b,off+e,none⟩) (len-e) (cap-e))).run xh w.drew= .ok (.string ⟨(j.drop e).toArray⟩) w.drew:=jL PS.out;have ca:(len:Int)-4=(e:Int):=by omega
 have hle:(e:Int)<=(len:Int):=by omega
 have a6:¬(cap=e):=by omega
 have cz:¬((cap:Int)=(e:Int)):=by omega
 have cn:(mi (j.take e)==j.drop e)=true:=by rw [beq_iff_eq];exact hq
 have cf:IntKind.i64.wrap (e:Int)=(e:Int):=by rw [X6];omega
 have cm:(e:Int)<=(cap:Int):=by omega
 have cx:e<=cap:=by omega
 have cy:e<=len:=by omega
 have bq:b<w.heap.size:=hb;obtain⟨n,c1,r1,HN⟩:∃n c1 r1,rU (Pl.num 0 ((j.take e).drop 1)=(n,c1,r1)):=⟨_,_,_,rfl⟩
 have aD:=iw 0 ((j.take e).drop 1);rw [HN.out]at aD;obtain⟨aE,bm⟩:=aD;simp only at aE bm;obtain⟨m,rfl⟩:=UX aE;have Ar:rU (e<=20000/\1<=e/\¬j.take e= []):=by
  refine⟨by omega,by omega,?_⟩;intro h;have:=aa.out.1;rw [h]at this;simp at this;omega
 have rQ:rU ((c1=0->vF ((j.take e).drop 1)=wL m [] r1)/\(¬c1=0->vF ((j.take e).drop 1)=([],c1))):=by
  refine⟨fun h=> ?_,fun h=>aa2 HN.out h⟩;subst h;have:=X0 HN.out;rwa [oC]at this
 obtain⟨rd,bt⟩:=ai (vF ((j.take e).drop 1));rw [bt.out]at EW Aj rQ;clear he hl h3 hq;go_enter Tryz.func82,Tryz.ntmps82;go_wp2_with fail;go_region_with (first
  |(go_at_call 126;refine(Af _ _ _ (j.take e) _ (aa.out.below (Qd (oP _ _)))).mono ?_;rintro e w1 ⟨v1,rfl,ay,V⟩;obtain⟨a1,cr,rfl,ba,_,_⟩:=ay.shape;have aR:=jL ba;have aM:=jL (PS.out.below ((Qd (oP _ _)).trans V));have b9:=ae V;clear ba ay V))
 all_goals
  have eH:=ae ((Qd (oP _ _)).trans b9.out);have MZ:=ae (adh (aa.out.below eH.out) bq eH.out.size Ar.out.2.1 Ar.out.1 Ar.out.2.2);have vO:=ae (EZ _ _ _ _ _ MZ.out);rw [HN.out]at vO;simp only at vO;have p:=eH.out.size;have p:w.heap.size<=w1.heap.size:=p;clear aR aM;go_wp2_with fail;refine vO.out.mono ?_;rintro e1 w2 ⟨rfl,q,R⟩;have bX:=ae q;have yR:=ae R;have bj:=R.size;simp at bj;have b8:rU (Ah w.heap.size w w2):=(eH.out.alloc p _).trans (R.below p (by simp));go_wp2;go_loopw [5,7] (fun vl i wr=>∃(k f:Nat) (l:List aK) (c2:Int) (E:List UInt8) (u:xx),u=vl/\f+k=m/\i= .int .i64 k/\rU (Own wr (w1.heap.size+1) u l)/\l.length<=k/\rU (∀e∈l,e.ok)/\rU (jW wr w.heap.size w1.heap.size c2 E)/\rU (c2=0->rd=wL f l E)/\rU (¬c2=0->rd=([],c2))/\rU (Ah w.heap.size w wr)) (fun _ i _=>m-(Eb i).toNat)
  case atStart=>exact⟨0,m,[],c1,r1,_,rfl,rfl,rfl,Own.nil _ _,BD _,(fun _ h=>by cases h),bX,rQ.out.1,rQ.out.2,b8⟩
  case round=>
   obtain⟨k,f,l,c2,E,u,rfl,cl,rfl,HO,cj,lD,HR,Na,bg,Z⟩:=hrel;have hz:=HR.out.lt.1;by_cases cg:k<m
   ·obtain⟨g,rfl⟩:∃g,f=g+1:=⟨f-1,by omega⟩
    by_cases c:c2=0
    ·subst c;have G:=ae (Na.out rfl);obtain⟨a3,l3,bc,Y,i3,q1,q2,q3,f1,f2,f3,Xr,s,bb,W,z,H,C,B⟩:=HR.out;clear Xr s H C z B;obtain⟨s1,d1,t1,H1⟩:∃a b d,rU (kE 0 E=(a,b,d)):=⟨_,_,_,rfl⟩
     obtain⟨v2,d2,t2,H2⟩:∃a b d,rU (gz d1 t1=(a,b,d)):=⟨_,_,_,rfl⟩
     obtain⟨Q,d3,t3,H3⟩:∃a b d,rU (Pl.num d2 t2=(a,b,d)):=⟨_,_,_,rfl⟩
     obtain⟨D,d4,t4,H4⟩:∃a b d,rU (kE d3 t3=(a,b,d)):=⟨_,_,_,rfl⟩
     have HE:rU (jU 0 E=(⟨s1,v2,Q,D⟩,d4,t4)):=by
      show _=_;unfold jU;rw [H1.out];simp only;rw [H2.out];simp only;rw [H3.out];simp only;rw [H4.out]
     have bA:rU ((⟨s1,v2,Q,D⟩:aK).ok):=by
      have:=UB 0 E;rw [HE.out]at this;exact this
     have yS:rU (u.ownBlock≠some wr.heap.size):=by
      intro h;have:=(Iy HO.out _ h).2;omega
     have yL:=ae ((oP wr.heap.size wr).alloc (BD _) (.cells #[.string ⟨#[]⟩,.int .i64 0,.int .i64 0,.string ⟨#[]⟩] 55));have E1:=ae (wY wr (.cells #[.string ⟨#[]⟩,.int .i64 0,.int .i64 0,.string ⟨#[]⟩] 55));go_wp2_with fail;have U:=FK _ _ _ _ _ (HR.out.below yL.out);rw [H1.out]at U;refine U.mono ?_;rintro e1 w3 ⟨rfl,av,x⟩;have bh:=x.size;simp at bh;have bS:=ae av;have vC:=ae ((HO.out.below yL.out).only x (by omega));have b7:=ae ((Z.out.alloc Z.out.size _).trans (x.below p (by simp;omega)));have a1:=x.blk E1.out (by omega);obtain⟨⟨P,O,N,M⟩,⟨L,K,J,I⟩⟩:=LZ a1;have A1:=ae a1;clear a1 av U q1 q2 q3 f1 f2 f3;go_wp2_with fail;have c:=Yt _ _ d1 t1 _ (bS.out.set (b:=wr.heap.size) (o:=0) (v:= .string s1) (by omega));rw [H2.out]at c;refine c.mono ?_;rintro e1 w4 ⟨rfl,ar,wX⟩;have yw:=wX.size
     simp [BG]at yw;have bR:=ae ar;have sV:=ae ((vC.out.set (o:=0) (val:= .string s1) yS.out).only wX (by omega));have b6:=ae ((kU (X:=wr.heap.size) (o:=0) (val:= .string s1) b7.out (by omega) (by omega)).trans (wX.below p (by simp [BG];omega)));have b1:=wX.blk (yF A1.out) (by omega);simp at b1;clear P O N M L K J I ar c;obtain⟨⟨P,O,N,M⟩,⟨L,K,J,I⟩⟩:=LZ b1;have B1:=ae b1;clear b1;go_wp2_with fail;have T:=EZ _ _ d2 t2 _ (bR.out.set (b:=wr.heap.size) (o:=1) (v:= .int .i64 v2) (by omega));rw [H3.out]at T;refine T.mono ?_;rintro e1 w5 ⟨rfl,aq,iW⟩;have oq:=iW.size;simp [BG]at oq;have bO:=ae aq;have oL:=ae ((sV.out.set (o:=1) (val:= .int .i64 v2) yS.out).only iW (by omega))
     have jP:=ae ((kU (X:=wr.heap.size) (o:=1) (val:= .int .i64 v2) b6.out (by omega) (by omega)).trans (iW.below p (by simp [BG];omega)));have b1:=iW.blk (yF B1.out) (by omega);simp at b1;clear P O N M L K J I aq T;obtain⟨⟨P,O,N,M⟩,⟨L,K,J,I⟩⟩:=LZ b1;have C1:=ae b1;clear b1;go_wp2_with fail;have S:=FK _ _ d3 t3 _ (bO.out.set (b:=wr.heap.size) (o:=2) (v:= .int .i64 Q) (by omega));rw [H4.out]at S;refine S.mono ?_;rintro e1 w6 ⟨rfl,an,I7⟩;have E8:=I7.size;simp [BG]at E8;have bN:=ae an;have CO:=ae ((oL.out.set (o:=2) (val:= .int .i64 Q) yS.out).only I7 (by omega));have vW:=ae ((kU (X:=wr.heap.size) (o:=2) (val:= .int .i64 Q) jP.out (by omega) (by omega)).trans (I7.below p (by simp [BG];omega)));have b1:=I7.blk (yF C1.out) (by omega);simp at b1
     clear P O N M L K J I an S;obtain⟨⟨P,O,N,M⟩,⟨L,K,J,I⟩⟩:=LZ b1;clear b1;have bL:=ae (bN.out.set (b:=wr.heap.size) (o:=3) (v:= .string D) (by omega));have rV:=ae (CO.out.set (o:=3) (val:= .string D) yS.out);have IJ:=ae (kU (X:=wr.heap.size) (o:=3) (val:= .string D) vW.out (by omega) (by omega));have ad:(w6.setCell ⟨wr.heap.size,3,none⟩ (.string D)).heap.size=w6.heap.size:=by simp [BG]
     have bd:=ae ad;clear ad;go_wp2_with (at_builtin;refine qI rfl (.tmp 67) (.tmp 69) rfl (w1.heap.size+1) u l ⟨s1,v2,Q,D⟩ rfl rV.out (by rw [bd.out];omega) (by rw [bd.out];rfl) (by omega) ?_;intro v8 w8 aw A);have bE:rU (jW w8 w.heap.size w1.heap.size d4 t4):=bL.out.keep A.size (fun i _ hi=>A.block i (by omega));have Xi:rU (Ah w.heap.size w w8):=IJ.out.trans (A.mono (by omega));have PT:=ae aw;clear A aw P O N M L K J I;go_wp2_with fail;go_roundw
     case rel=>
      refine⟨k+1,g,l++ [(⟨s1,v2,Q,D⟩:aK)],d4,t4,_,rfl,by omega,by go_num,PT,by simp;omega,?_,bE,?_,?_,Xi⟩
      ·intro y hy;rcases List.mem_append.1 hy with hy|hy
       ·exact lD.out y hy
       ·rw [List.mem_singleton.1 hy];exact bA.out
      ·intro h;rw [G.out];have:=HE.out;rw [h]at this;exact QD this
      ·intro h;rw [G.out];exact Vp HE.out h
     case measure=>simp [Eb];omega
    ·have a6:(c2==0)=false:=by simp [c]
     have bp:(c2 != 0)=true:=by simp [c]
     have r:rU (kP j=c2):=by show _=_;rw [EW.out,bg.out c];simp only;rw [ag c]
     have t:rU (mf j= []):=by show _=_;rw [Aj.out,ag (by rw [r.out];exact c)]
     clear c;obtain⟨a3,l3,bc,Y,i3,q1,q2,q3,f1,f2,f3,Xr,s,bb,W,z,H,C,B⟩:=HR.out;clear Xr s H C z B;go_wp2;go_quiet (fail);go_wp2;go_quiet (fail);go_wp2;go_ret2;exact⟨_,by rw [r.out];rfl,by rw [t.out];exact Own.nil _ _,below_drewN (below_drewN Z.out _) _⟩
   ·obtain rfl:k=m:=by omega
    obtain rfl:f=0:=by omega
    obtain⟨a3,l3,bc,Y,i3,q1,q2,q3,f1,f2,f3,Xr,s,bb,W,z,H,C,B⟩:=HR.out;have cu:Y.length=l3:=Xr.1;clear Xr s;by_cases c:c2=0
    ·subst c;have q:=H rfl;have G:=ae ((Na.out rfl).trans Vo);by_cases cc:i3<l3
     ·have F:¬E= []:=by
       rw [q];intro h;have:=congrArg List.length h;simp at this;omega
      rw [ag F]at G;have r:rU (kP j=4):=by show _=_;rw [EW.out,G.out];rfl
      have t:rU (mf j= []):=by show _=_;rw [Aj.out,ag (by rw [r.out];omega)]
      clear F q H;go_wp2;go_quiet (fail);go_wp2;go_quiet (fail);go_wp2;go_ret2;exact⟨_,by rw [r.out];rfl,by rw [t.out];exact Own.nil _ _,below_drewN (kU (below_drewN Z.out _) p (Wq W)) _⟩
     ·have aL:E= []:=by rw [q];exact OG (by omega)
      rw [af aL]at G;obtain⟨ao,co,bl,a8,_,_⟩:=HO.out.shape lD.out;subst bl;have b2:=ae a8;have r:rU (kP j=Pl.fault l):=by show _=_;rw [EW.out,G.out];rfl
      have t:rU (mf j=if Pl.fault l=0 then l else []):=by show _=_;rw [Aj.out,r.out,G.out]
      clear aL q H a8;go_wp2;go_quiet (fail);go_wp2_with fail;refine(bM _ _ _ _ _ (b2.out.below (below_drewN (oP _ _) _))).mono ?_;rintro e1 w9 ⟨rfl,CJ⟩;have cB:=ae CJ;have bB:=ae ((HR.out.drewN nq).below CJ);clear q1 q2 q3 f1 f2 f3;obtain⟨a9,l9,cq,ct,i9,q1,q2,q3,f1,f2,f3,br,bk,cp,a7,bo,bz,bx,bw⟩:=bB.out;clear br bk bz bx bo bw;have UY:=ae ((below_drewN Z.out nq).trans (CJ.mono Z.out.size));have Tc:=ae (((HO.out.drewN nq).below CJ).set (X:=w1.heap.size) (o:=2) (val:= .int .i64 (Pl.fault l)) (by
       intro h;have:=(Iy HO.out _ h).1;omega))
      clear CJ;by_cases hz:Pl.fault l=0
      ·rw [hz]at Tc r t⊢;go_wp2;go_ret2;exact⟨_,by rw [r.out];rfl,by rw [t.out];exact Tc.out.mono (by omega),kU UY.out p (Wq a7)⟩
      ·rw [ag hz]at t;have cd:(Pl.fault l != 0)=true:=by simp [hz]
       clear Tc;generalize Pl.fault l=c9 at*;go_wp2;go_quiet (fail);go_wp2;go_ret2;exact⟨_,by rw [r.out];rfl,by rw [t.out];exact Own.nil _ _,below_drewN (kU UY.out p (Wq a7)) _⟩
    ·have a6:(c2==0)=false:=by simp [c]
     have bp:(c2 != 0)=true:=by simp [c]
     have r:rU (kP j=c2):=by show _=_;rw [EW.out,bg.out c];simp only;rw [ag c]
     have t:rU (mf j= []):=by show _=_;rw [Aj.out,ag (by rw [r.out];exact c)]
     clear c H;go_wp2;go_quiet (fail);go_wp2;go_quiet (fail);go_wp2;go_ret2;exact⟨_,by rw [r.out];rfl,by rw [t.out];exact Own.nil _ _,below_drewN (below_drewN Z.out _) _⟩
theorem xI(a:Option Addr)(len cap:Nat)(d:List UInt8)(w:qh)(h:dF w a len cap d):
  O6 xh 82 #[.slice a len cap] w fun e w'=>∃v,e= .returned (.tuple #[v,.int .i64 (kP d)])/\Own w' w.heap.size v (mf d)/\Ah w.heap.size w w':=by
 have t:=ae h;obtain⟨hl,K,hm,f⟩:=h;unfold Jk at hm;have c:∀n:Int,¬n=0->fU d=n->rU (kP d=n)/\rU (mf d= []):=by
  intro n D L;have hc:kP d=n:=by unfold kP;rw [L,ag D]
  exact⟨hc,by show _=_;unfold mf;rw [hc,ag D]⟩
 by_cases Z:20000<len
 ·obtain⟨l,k⟩:=c 1 (by omega) (by unfold fU;rw [af (by omega)]);clear f c;go_enter Tryz.func82,Tryz.ntmps82;go_wp2;go_ret2;exact⟨_,by rw [l.out];rfl,by rw [k.out];exact Own.nil _ _,oP _ _⟩
 by_cases Y:len<6
 ·obtain⟨l,k⟩:=c 5 (by omega) (by unfold fU;rw [ag (by omega),af (by omega)]);clear f c;go_enter Tryz.func82,Tryz.ntmps82;go_wp2;go_ret2;exact⟨_,by rw [l.out];rfl,by rw [k.out];exact Own.nil _ _,oP _ _⟩
 obtain⟨b,off,rfl,P,B⟩:∃b off,a=some ⟨b,off,none⟩/\b<w.heap.size/\∀j u,(dH d)[j]? =some u->w.cell? ⟨b,off+j,none⟩=some u:=by
  rcases f with h|h
  ·rw [h]at hl;simp at hl;omega
  ·exact h
 have z:=B 0 _ (xB (by omega));simp only [Nat.add_zero]at z;clear B;have C:(0:Int)<(len:Int):=by omega
 by_cases i:d.getD 0 0=116
 ·have r:(((d.getD 0 0).toNat:Int) != 116)=false:=by rw [i];rfl
  have H:=ae i;have V:rU (w.cell? ⟨b,off,none⟩=some (.int .u8 116)):=by
   have:=z;rw [i]at this;exact this
  clear i;generalize ((d.getD 0 0).toNat:Int)=I at*;obtain⟨e,he⟩:∃e,len=e+4:=⟨len-4,by omega⟩
  have x:=ae he;have s:=ae (uw t.out (show e<=len by omega));have G:=ae (qH (n:=e) t.out (by omega));have R:(convert 105 9 (.slice (some ⟨b,off+e,none⟩) (len-e) (cap-e))).run xh w.drew= .ok (.string ⟨(d.drop e).toArray⟩) w.drew:=jL G.out;obtain⟨q,p⟩:=ai (decide (d.drop e=mi (d.take e)));have W:rU (fU d=if q=true then 0 else 9):=by
   show _=_;unfold fU;rw [ag (by omega),ag (by omega),ag (fun h=>h H.out),hl,show len-4=e by omega]
   cases q
   ·have:=of_decide_eq_false p.out;rw [af (fun h=>this h.symm)];rfl
   ·have:=of_decide_eq_true p.out;rw [ag (fun h=>h this.symm)];rfl
  have A:(len:Int)-4=(e:Int):=by omega
  have hle:(e:Int)<=(len:Int):=by omega
  have N:¬(cap=e):=by omega
  have U:¬((cap:Int)=(e:Int)):=by omega
  have O:(mi (d.take e)==d.drop e)=q:=by
   rw [<-p.out,SQ];simp only [beq_iff_eq,ik];exact⟨Eq.symm,Eq.symm⟩
  have J:IntKind.i64.wrap (e:Int)=(e:Int):=by rw [X6];omega
  have M:(e:Int)<=(cap:Int):=by omega
  have S:e<=cap:=by omega
  have T:e<=len:=by omega
  clear he hl f
  cases q
  ·obtain⟨l,k⟩:=c 9 (by omega) W.out;clear c;go_enter Tryz.func82,Tryz.ntmps82;go_wp2_with fail;go_region_with (first
    |(go_at_call 126;refine(Af _ _ _ (d.take e) _ (s.out.below (Qd (oP _ _)))).mono ?_;rintro e X ⟨v1,rfl,m,g⟩;obtain⟨a1,c1,rfl,o,_,_⟩:=m.shape;have F:=jL o;have E:=jL (G.out.below ((Qd (oP _ _)).trans g));have y:=ae g;clear o m g))
   all_goals
    go_wp2;go_ret2;exact⟨_,by rw [l.out];rfl,by rw [k.out];exact Own.nil _ _,(Qd (oP _ _)).trans y.out⟩
  ·exact MF b off len cap e d w t.out x.out (by omega) (by omega) H.out P (of_decide_eq_true p.out).symm V.out
 ·have r:(((d.getD 0 0).toNat:Int) != 116)=true:=by
   rw [bne_iff_ne];intro e;have Q:(d.getD 0 0).toNat=(116:UInt8).toNat:=by show _=116;omega
   exact i (UInt8.toNat_inj.1 Q)
  obtain⟨l,k⟩:=c 4 (by omega) (by unfold fU;rw [ag (by omega),ag (by omega),af i]);generalize ((d.getD 0 0).toNat:Int)=I at*;clear i f c;go_enter Tryz.func82,Tryz.ntmps82;go_wp2;go_ret2;exact⟨_,by rw [l.out];rfl,by rw [k.out];exact Own.nil _ _,oP _ _⟩
theorem vz(a:Option Addr)(len cap:Nat)(f:List aK)(b:Option Addr)(l yO:Nat)(c:List aK)(w:qh)(h:bI w a len cap f)(R:a=none->cap=0)(hB:bI w b l yO c):
  O6 xh 83 #[.slice a len cap,.slice b l yO] w fun e w'=>∃vo vk,e= .returned (.tuple #[vo,vk,.int .i64 (dY f c)])/\
   Own w' w.heap.size vo (iJ f c)/\bF w' w.heap.size vk (gW f c)/\Ah w.heap.size w w':=by
 have HH:rU (bI w a len cap f):=h;have HN:rU (a=none->cap=0):=R;have HB:rU (bI w b l yO c):=hB;clear h R hB;obtain⟨ca,U⟩:=ai (Pl.fault f);obtain⟨cb,Kz⟩:=ai (Pl.fault c);by_cases s:ca=0
 ·by_cases C:cb=0
  ·subst s C;have av:rU (Pl.Good f):=(bK f).1 U.out;have ar:rU (Pl.Good c):=(bK c).1 Kz.out;have H:rU (dY f c=0/\iJ f c=(Pl.mrg f [] c).1/\gW f c=(Pl.mrg f [] c).2):=by
    have:dY f c=0:=by unfold dY;rw [U.out,Kz.out];rfl
    refine⟨this,?_,?_⟩
    ·unfold iJ;rw [af this]
    ·unfold gW;rw [af this]
   have hlen:len<=60:=by have:=HH.out.1;have:=av.out.1;omega
   have bm:l<=60:=by have:=HB.out.1;have:=ar.out.1;omega
   have an:c.length=l:=HB.out.1;have a6:=HB.out.2.1;have aE:=HB.out.2.2.1;unfold Jk at aE;go_enter Tryz.func83,Tryz.ntmps83;go_wp2_with fail;refine(bM _ _ _ f _ HH.out).mono ?_;rw [U.out];rintro e w1 ⟨rfl,q⟩;go_wp2_with fail;refine(bM _ _ _ c _ (HB.out.below q)).mono ?_;rw [Kz.out];rintro e w2 ⟨rfl,L⟩;have LK:Ah w.heap.size w w2:=q.trans (L.mono q.size);clear q L;go_wp2_with (at_builtin;refine EI rfl (.const (.slice none 0 0)) (.tmp 21) rfl _ _ _ f rfl rfl (HH.out.below LK) HN.out (by omega) ?_;intro vo w3 Q aq);have bc:Ah w.heap.size w w3:=LK.trans (aq.mono LK.size);have HO:rU (Own w3 w.heap.size vo f):=Q.mono LK.size;clear Q aq
   go_loopw [8,9,10] (fun vo vk i wr=>∃(k:Nat) (ol:List aK) (B:List ByteArray) (aa:xx),aa=vk/\k<=l/\i= .int .i64 k/\rU (Own wr w.heap.size vo ol)/\rU (bF wr w.heap.size aa B)/\B.length<=k/\rU (Pl.mrg f [] c=Pl.mrg ol B (c.drop k))/\rU (Pl.Good ol)/\Ah w.heap.size w wr) (fun _ _ i _=>l-(Eb i).toNat)
   case atStart=>exact⟨0,f,[],_,rfl,xn _,rfl,HO,bF.nil _ _,BD _,rfl,av,bc⟩
   case round=>
    obtain⟨k,ol,B,vk,rfl,hk,rfl,O,X,bk,G,M,o⟩:=hrel;by_cases bj:k<l
    ·obtain⟨bb,ba,rfl,D,S⟩:∃b0 off,b=some ⟨b0,off,none⟩/\b0<w.heap.size/\dN w b0 off c:=by
      rcases HB.out.2.2.2.2 with h|h
      ·rw [h]at an;simp at an;omega
      ·exact h
     obtain⟨q0,q1,q2,q3⟩:=S.below D o k (by omega);have HX:rU ((eF c k).may=true):=ar.out.2.1 _ (lU c k (by omega));have HD:rU (c.drop k=eF c k::c.drop (k+1)):=xg c k (by omega);have HA:rU (MV ol):=(yG ol).2 M.out.2.2;have pq:rU (k<c.length):=by show _<_;omega
     have N:rU (dN w bb ba c):=S;obtain⟨ao,cp,rfl,hE,hn,aD⟩:=O.out.shape M.out.ok;have I:rU (bI wr ao ol.length cp ol):=hE;have HL:rU (ol.length<=60):=M.out.1;clear hE hn S aD;have P:=o.size;obtain⟨y,HY⟩:=ai (eF c k);rw [HY.out]at q0 q1 q2 q3 HX HD;obtain⟨j,v,x,u⟩:=y;simp only at q0 q1 q2 q3;obtain⟨tt,Y⟩:=ai (Pl.there ol j)
     cases tt
     ·have HC:rU (jM ol ⟨j,v,x,u⟩=decide ((ol.length:Int)<60)):=by
       show _=_;unfold jM;rw [Y.out,SQ];simp;omega
      obtain⟨cc,K⟩:=ai (jM ol ⟨j,v,x,u⟩);have ak:decide ((ol.length:Int)<60)=cc:=by rw [<-HC.out,K.out]
      have aL:=I.out.2.1;have T:=I.out.2.2.1;unfold Jk at T;have vP:rU (ol.length<=60):=HL
      cases cc
      ·have a8:¬((ol.length:Int)<60):=by simpa using ak
       go_wp2_with fail;refine(fK _ _ _ ol _ _ I.out).mono ?_;rw [jJ HA.out,Y.out];rintro e J ⟨rfl,rfl⟩;go_wp2_with fail;have z:=dO J;refine aN (by kernel_rfl) (by kernel_rfl) ?_;repeat (go_big_quiet_step (fail))
       refine Pe ?_;intro w5 m;have d:=eU m;clear m;clear z;go_wp2_with fail;go_roundw
       case rel=>exact⟨k+1,ol,B,_,rfl,by omega,by go_num,O.out.below d,X.out.below d,by omega,by show _=_;rw [G.out,HD.out];simp [Pl.mrg,K.out],M,o.trans (d.mono P)⟩
       case measure=>simp [Eb];omega
      ·have a8:(ol.length:Int)<60:=by simpa using ak
       go_wp2_with fail;refine(fK _ _ _ ol _ _ I.out).mono ?_;rw [jJ HA.out,Y.out];rintro e J ⟨rfl,rfl⟩;go_wp2_with fail;have z:=dO J;refine aN (by kernel_rfl) (by kernel_rfl) ?_;repeat (go_big_quiet_step (fail))
       refine Pe ?_;intro w5 m;have d:=eU m;clear m;clear z;obtain⟨j0,j1,j2,j3⟩:=sD N.out D (o.trans (d.mono P)) HY.out pq.out;have oq:=d.size;go_wp2_with fail;refine(mY _ _ _ ol ⟨j,v,x,u⟩ _ (I.out.below d) HL.out).mono ?_;rintro e w6 ⟨v6,rfl,n,F⟩;have E8:=F.size;have V:=d.trans (F.mono oq);clear j0 j1 j2 j3;obtain⟨j0,j1,j2,j3⟩:=sD N.out D (o.trans (V.mono P)) HY.out pq.out;have Z:rU (bF w6 w.heap.size vk B):=X.out.below V;have CO:rU (Own w6 w5.heap.size v6 (Pl.ins ol ⟨j,v,x,u⟩)):=by
        have:=n;rwa [Fq ol _ M.out.2.2]at this
       clear n;go_wp2_with (at_builtin;refine uX rfl (.tmp 64) (.tmp 70) rfl w.heap.size vk B j rfl Z.out (by omega) rfl (by omega) ?_;intro ay w7 Uw JW E);have rV:rU (Own w7 w.heap.size v6 (Pl.ins ol ⟨j,v,x,u⟩)):=by
        have ha:=Own.below CO.out ((oP _ _).alloc (BD _) (.cells #[.string j] 9));refine(Own.kept ha JW ?_).mono (by omega);have l1:=Iy CO.out;have l2:=Iy X.out
        cases e1:v6.ownBlock with
        |none=>exact .inl rfl
        |some g=>
         right;intro e2;have a1:=(l1 g e1).1;have a2:=(l2 g e2.symm).2;omega
       have CS:rU (Pl.Good (Pl.ins ol ⟨j,v,x,u⟩)):=BC M.out HX.out K.out;have Ze:Ah w.heap.size w w7:=(o.trans (V.mono P)).trans E;clear JW E;go_wp2_with fail;go_roundw
       case rel=>exact⟨k+1,_,B++ [j],_,rfl,by omega,by go_num,rV,Uw,by simp;omega,by show _=_;rw [G.out,HD.out];simp [Pl.mrg,K.out],CS,Ze⟩
       case measure=>simp [Eb];omega
     ·have A:Pl.pos ol j<ol.length:=by
       have:=Y.out;unfold Pl.there at this;simp only [aac,ik]at this;exact this.1
      have HC:rU (jM ol ⟨j,v,x,u⟩=vw v x u (eF ol (Pl.pos ol j)).gz (eF ol (Pl.pos ol j)).org (eF ol (Pl.pos ol j)).val):=by
       show _=_;unfold jM vw;rw [Y.out];have:=Wv v x u (eF ol (Pl.pos ol j)).gz (eF ol (Pl.pos ol j)).org (eF ol (Pl.pos ol j)).val;simp only [if_true];rw [SQ];simp;omega
      obtain⟨ab,bl,rfl,t,a7⟩:∃b off,ao=some ⟨b,off,none⟩/\b<wr.heap.size/\dN wr b off ol:=by
       rcases I.out.2.2.2.2 with h|h
       ·rw [h]at A;simp at A
       ·exact h
      obtain⟨z0,z1,z2,z3⟩:=a7 _ A;have aL:=I.out.2.1;have T:=I.out.2.2.1;unfold Jk at T;obtain⟨p,HP⟩:=ai (Pl.pos ol j);rw [HP.out]at A z0 z1 z2 z3 HC;generalize eF ol p=y at*;obtain⟨yk,yv,yo,yx⟩:=y;simp only at z0 z1 z2 z3;have bh:(p:Int)<(ol.length:Int):=by omega
      have bg:decide ((p:Int)<0)=false:=Fb (by omega);have bd:decide ((0:Int)<=(p:Int))=true:=zx (by omega);obtain⟨cc,K⟩:=ai (jM ol ⟨j,v,x,u⟩);have aw:rU (∀W,O6 xh 130 #[.agg #[.string j,.int .i64 v,.int .i64 x,.string u],.agg #[.string yk,.int .i64 yv,.int .i64 yo,.string yx]] W fun e w'=>e= .returned (.bool cc)/\Ah W.heap.size W w'):=by
       intro W;have:=Xo j yk v x yv yo u yx W;rwa [<-HC.out,K.out]at this
      cases cc
      ·go_wp2_with fail;refine(fK _ _ _ ol _ _ I.out).mono ?_;rw [jJ HA.out,Y.out,HP.out];rintro e J ⟨rfl,rfl⟩;go_wp2_with fail;have r:bb<J.heap.size:=by omega
       have i0:=aC r q0;have i1:=aC r q1;have i2:=aC r q2;have i3:=aC r q3;have i4:=aC t z0;have i5:=aC t z1;have i6:=aC t z2;have i7:=aC t z3;have z:=dO J;refine aN (by kernel_rfl) (by kernel_rfl) ?_;repeat (go_big_quiet_step ((go_at_call 130;exact dP (aw.out _))))
       refine Pe ?_;intro w5 m;have d:=eU m;clear m;clear i0 i1 i2 i3 i4 i5 i6 i7 z0 z1 z2 z3 z;go_wp2_with fail;go_roundw
       case rel=>exact⟨k+1,ol,B,_,rfl,by omega,by go_num,O.out.below d,X.out.below d,by omega,by show _=_;rw [G.out,HD.out];simp [Pl.mrg,K.out],M,o.trans (d.mono P)⟩
       case measure=>simp [Eb];omega
      ·go_wp2_with fail;refine(fK _ _ _ ol _ _ I.out).mono ?_;rw [jJ HA.out,Y.out,HP.out];rintro e J ⟨rfl,rfl⟩;go_wp2_with fail;have r:bb<J.heap.size:=by omega
       have i0:=aC r q0;have i1:=aC r q1;have i2:=aC r q2;have i3:=aC r q3;have i4:=aC t z0;have i5:=aC t z1;have i6:=aC t z2;have i7:=aC t z3;have z:=dO J;refine aN (by kernel_rfl) (by kernel_rfl) ?_;repeat (go_big_quiet_step ((go_at_call 130;exact dP (aw.out _))))
       refine Pe ?_;intro w5 m;have d:=eU m;clear m;clear i0 i1 i2 i3 i4 i5 i6 i7 z0 z1 z2 z3 z;obtain⟨j0,j1,j2,j3⟩:=sD N.out D (o.trans (d.mono P)) HY.out pq.out;have oq:=d.size;go_wp2_with fail;refine(mY _ _ _ ol ⟨j,v,x,u⟩ _ (I.out.below d) HL.out).mono ?_;rintro e w6 ⟨v6,rfl,n,F⟩;have E8:=F.size;have V:=d.trans (F.mono oq);clear j0 j1 j2 j3;obtain⟨j0,j1,j2,j3⟩:=sD N.out D (o.trans (V.mono P)) HY.out pq.out;have Z:rU (bF w6 w.heap.size vk B):=X.out.below V;have CO:rU (Own w6 w5.heap.size v6 (Pl.ins ol ⟨j,v,x,u⟩)):=by
        have:=n;rwa [Fq ol _ M.out.2.2]at this
       clear n;go_wp2_with (at_builtin;refine uX rfl (.tmp 64) (.tmp 70) rfl w.heap.size vk B j rfl Z.out (by omega) rfl (by omega) ?_;intro ay w7 Uw JW E);have rV:rU (Own w7 w.heap.size v6 (Pl.ins ol ⟨j,v,x,u⟩)):=by
        have ha:=Own.below CO.out ((oP _ _).alloc (BD _) (.cells #[.string j] 9));refine(Own.kept ha JW ?_).mono (by omega);have l1:=Iy CO.out;have l2:=Iy X.out
        cases e1:v6.ownBlock with
        |none=>exact .inl rfl
        |some g=>
         right;intro e2;have a1:=(l1 g e1).1;have a2:=(l2 g e2.symm).2;omega
       have CS:rU (Pl.Good (Pl.ins ol ⟨j,v,x,u⟩)):=BC M.out HX.out K.out;have Ze:Ah w.heap.size w w7:=(o.trans (V.mono P)).trans E;clear JW E;go_wp2_with fail;go_roundw
       case rel=>exact⟨k+1,_,B++ [j],_,rfl,by omega,by go_num,rV,Uw,by simp;omega,by show _=_;rw [G.out,HD.out];simp [Pl.mrg,K.out],CS,Ze⟩
       case measure=>simp [Eb];omega
    ·obtain rfl:k=l:=by omega
     go_wp2_with fail;go_ret3;have ad:Pl.mrg f [] c=(ol,B):=by
      rw [G.out,OG (by omega)];rfl
     exact⟨_,_,by rw [H.out.1];rfl,by rw [H.out.2.1,ad];exact O.out,by rw [H.out.2.2,ad];exact X.out,o⟩
  ·subst s;have aM:(cb != 0)=true:=by simp [C]
   have aR:(cb==0)=false:=by simp [C]
   have H:rU (dY f c=cb/\iJ f c= []/\gW f c= []):=by
    have:dY f c=cb:=by unfold dY;rw [U.out,Kz.out];rfl
    refine⟨this,?_,?_⟩
    ·unfold iJ;rw [this,ag C]
    ·unfold gW;rw [this,ag C]
   clear C;go_enter Tryz.func83,Tryz.ntmps83;go_wp2_with fail;refine(bM _ _ _ f _ HH.out).mono ?_;rw [U.out];rintro e w1 ⟨rfl,q⟩;go_wp2_with fail;refine(bM _ _ _ c _ (HB.out.below q)).mono ?_;rw [Kz.out];rintro e w2 ⟨rfl,L⟩;go_wp2_with fail;go_ret3;exact⟨_,_,by rw [H.out.1];rfl,by rw [H.out.2.1];exact Own.nil _ _,by rw [H.out.2.2];exact bF.nil _ _,q.trans (L.mono q.size)⟩
 ·have aM:(ca != 0)=true:=by simp [s]
  have aR:(ca==0)=false:=by simp [s]
  have H:rU (dY f c=ca/\iJ f c= []/\gW f c= []):=by
   have:dY f c=ca:=by unfold dY;rw [U.out,ag s]
   refine⟨this,?_,?_⟩
   ·unfold iJ;rw [this,ag s]
   ·unfold gW;rw [this,ag s]
  clear s;go_enter Tryz.func83,Tryz.ntmps83;go_wp2_with fail;refine(bM _ _ _ f _ HH.out).mono ?_;rw [U.out];rintro e w1 ⟨rfl,q⟩;go_wp2_with fail;go_ret3;exact⟨_,_,by rw [H.out.1];rfl,by rw [H.out.2.1];exact Own.nil _ _,by rw [H.out.2.2];exact bF.nil _ _,q⟩
theorem Pl.V4(c:UInt8)(h:c.toNat%2=0):((Pl.flip c).toNat:Int)=(c.toNat:Int)+1:=by
 have key:∀n:Fin 256,(Qe n).toNat%2=0->(Pl.flip (Qe n)).toNat=(Qe n).toNat+1:=by decide+kernel
 have:=key ⟨c.toNat,Tf c⟩;simp only [Zf]at this;have:=this h;omega
theorem Pl.Zn(c:UInt8)(h:¬c.toNat%2=0):((Pl.flip c).toNat:Int)=(c.toNat:Int)-1:=by
 have key:∀n:Fin 256,¬(Qe n).toNat%2=0->(Pl.flip (Qe n)).toNat+1=(Qe n).toNat:=by decide+kernel
 have:=key ⟨c.toNat,Tf c⟩;simp only [Zf]at this;have:=this h;omega
theorem Sm(s:Pl.Nt)(P K T:Nat->xx)(x:Pl.Ac)(w:qh)(hK:Kn w s P K T)(hk:x.kind=7)(ha:0<=x.a/\x.a<=11)(c:Int)(ks:List ByteArray)(sn:Pl.Nt)(a8:∀i,i<12->Pl.fault (s.K i)=0)(an:x.n<=9223372036854775807)(hc:tC s x=c)(bj:tu s x=ks)(bg:qZ s x=sn):
  O6 xh 47 #[.agg (ax s.D P K T s.L).toArray,.agg x.cells] w (Ap w c [] 0 ks sn):=by
 obtain⟨W5,kD⟩:=aV (_);obtain⟨lS,oq⟩:=IC.new (w:=w) (s:=s) (P:=P) (K:=K) (T:=T) (x:=x) kD.out;obtain⟨kind,xa,b,n,m,⟨p1,p2⟩,key,val⟩:=x;simp only at hk ha a8 an hc bj bg⊢;subst hk;obtain⟨a,rfl⟩:∃k:Nat,xa=k:=⟨xa.toNat,by omega⟩
 have dD:a<12:=by omega
 have ct:(a:Int)<12:=by omega
 have cc:=ae oq;have ca:w.heap.size<W5.heap.size:=by omega
 have cr:w.heap.size+1<W5.heap.size:=by omega
 have cf:w.heap.size+1+1+1+1<W5.heap.size:=by omega
 obtain⟨m0,m1,m2,m3,m4,m5,m6,m7,m8⟩:=lS.nine;have iO:=ae (lS.net.place a dD);obtain⟨W6,vS⟩:=aV ((W5.alloc (.cells #[.slice none 0 0,.bool false,.slice none 0 0,.slice none 0 0,.int .i64 0,.int .i64 0,.int .i64 0,.int .i64 0,.int .i64 0,.int .i64 0,.int .i64 0,.int .i64 0,.int .i64 0,.int .i64 0,.int .i64 0,.int .i64 0] 33)).setCells W5.heap.size 0 (bP (s.D a) (P a) (K a) (T a) (s.L a)));obtain⟨bo,bw,E8,bd⟩:=sH lS rfl vS.out;rw [<-aP (s.D a) (P a) (K a) (T a) (s.L a)]at bd;have yJ:=ae bd;have J:=ae (St.of bo hK);have Ec:=ae bw;have nI:=ae (zk (D:=s.D a) (L:=s.L a) (hK.XP a dD) (hK.XQ a dD) (hK.XO a dD));obtain⟨k0,k1,k2,k3,k4,k5,k6,k7,k8⟩:=bo.nine;have JX:=J.out.net.lt;have y:=J.out.net.soft;obtain⟨⟨z0,z1,z2,z3⟩,zf,zl⟩:=aS J.out.gV;have cm:w.heap.size+1<W6.heap.size:=by omega
 simp only at m0 m1 m2 m3 m4 m5 m6 m7 m8 k0 k1 k2 k3 k4 k5 k6 k7 k8;unfold Pl.Ac.cells at kD⊢;simp only at kD⊢;clear oq lS bo bw bd;have Tj:=ae hK;have HC:=ae hc;have uB:=ae bj;have HS:=ae bg;have ad:=ae a8;have MQ:rU (Pl.fault (s.K a)=0):=ae (a8 a dD);obtain⟨sa,sc,ev,bh,br,-⟩:=(J.out.kn.2.1 a dD).shape (Pl.Good.ok ((bK _).1 MQ.out));have bk:=Ec.out.lq;rw [ev]at bk;have hM:=aj.lt Ec.out;obtain⟨nK,CE⟩:=ai ((s.K a).length);rw [CE.out]at bk bh;have D9:=ae bh;have b8:=ae (fun j (hj:j<12)=>Ec.out.line j hj);have HM:=ae hM;have cv:=ae an;clear hc bj bg a8 bh br ev an;go_enter Tryz.func47,Tryz.ntmps47;go_wp2_with fail;rw [<-show W5=_ from kD.out];refine(kW _ 1 10 _ (by omega)).mono ?_;rintro e w' ⟨rfl,t⟩;rw [t];clear t w';go_wp2_with (first
  |(go_at_call 74;refine(dK _ _).mono ?_;rw [zx ha];rintro e w' ⟨rfl,t⟩;rw [t];clear t w')
  |refine OE rfl 33 (.tmp 51) rfl w.heap.size (a*16) rfl (bP (s.D a) (P a) (K a) (T a) (s.L a)) _ iO.out IA rfl (by rw [aP];exact gq) ?_
  |refine aX rfl 33 (.tmp 7) (.tmp 52) rfl W5.heap.size 0 (bP (s.D a) (P a) (K a) (T a) (s.L a)) rfl rfl yJ.out (by rw [aP];exact gq) nI.out vS.out ?_)
 by_cases B:0<=b/\b<=11
 case neg=>
  have zq:decide (0<=b/\b<=11)=false:=Fb B;have F:qi s ⟨7,(a:Int),b,n,m,(p1,p2),key,val⟩=2:=by unfold qi;simp only;rw [af B]
  have p:c=2:=by rw [<-HC.out];unfold tC;rw [F,ag (by decide)]
  have X:ks= []:=by rw [<-uB.out];unfold tu;rw [F,ag (by decide)]
  have W:sn=s:=by rw [<-HS.out];unfold qZ;rw [F,ag (by decide)]
  subst p;subst X;subst W;clear B F;refine(dK b _).mono ?_;rw [zq];rintro e w' ⟨rfl,t⟩;rw [t];clear t w';go_wp2_with fail;have d:=ae (J.out.dV 2).fin;rename_i K1 l;refine bY (w:=w) rfl rfl rfl rfl rfl d.out.net d.out.kn.one d.out.gV d.out.room d.out.nM ?_ _ (by kernel_rfl);intro y0 y1 Y V U B;refine l _ Y ?_;exact Jj (dU d.out B V U)
 case pos=>
 refine(dK b _).mono ?_;rw [zx B];rintro e w' ⟨rfl,t⟩;rw [t];clear t w';obtain⟨b,rfl⟩:∃k:Nat,b=k:=⟨b.toNat,by omega⟩
 have R:b<12:=by omega
 have cq:(b:Int)<12:=by omega
 have bR:=b8.out b R;by_cases hl:s.L a b=0
 ·have bS:(s.L a b==0)=true:=by simpa using hl
  have F:qi s ⟨7,(a:Int),(b:Int),n,m,(p1,p2),key,val⟩=6:=by unfold qi;simp only [oC];rw [ag (fun h=>h B),af hl]
  have p:c=6:=by rw [<-HC.out];unfold tC;rw [F,ag (by decide)]
  have X:ks= []:=by rw [<-uB.out];unfold tu;rw [F,ag (by decide)]
  have W:sn=s:=by rw [<-HS.out];unfold qZ;rw [F,ag (by decide)]
  subst p;subst X;subst W;clear hl F;go_wp2_with fail;have d:=ae (J.out.dV 6).fin;rename_i K1 l;refine bY (w:=w) rfl rfl rfl rfl rfl d.out.net d.out.kn.one d.out.gV d.out.room d.out.nM ?_ _ (by kernel_rfl);intro y0 y1 Y V U B;refine l _ Y ?_;exact Jj (dU d.out B V U)
 have bS:(s.L a b==0)=false:=by simpa using hl
 have WY:rU (qi s ⟨7,(a:Int),(b:Int),n,m,(p1,p2),key,val⟩=0):=ae (by unfold qi;simp only [oC];rw [ag (fun h=>h B),ag hl]);clear hl B;go_wp2_with fail;refine(Ik sa nK sc (s.K a) W6 D9.out).mono ?_;have UR:rU (uT (s.K a)=Pl.enc (s.K a)):=ae (by unfold uT;rw [MQ.out,af rfl]);have aa:=ae (UC MQ.out);rw [MQ.out,UR.out];rintro e W7 ⟨v7,rfl,kK,bz⟩;obtain⟨g,gc,rfl,bX,cl,bx,ck,bm,bl⟩:=kK.opened (by have:=aa.out.1;omega);obtain⟨bs,vU⟩:=ai (Pl.enc (s.K a));rw [vU.out]at aa kK bx bm bl;rw [vU.out];have aw:rU (lM (s.K a) n=if 0<=n then bs.set (n.toNat%bs.length) (Pl.flip (bs.getD (n.toNat%bs.length) 0))else bs):=ae (by unfold lM;rw [vU.out]);have b7:=ae kK;have Iz:=ae bm;have bE:w.heap.size+5<=g:=by have:=J.out.sz;omega
 have aL:=ae bl;obtain⟨S,lF⟩:=ai (bs.length);have Rn:6<=S:=by have:=aa.out.1;have:=lF.out;omega
 have cg:S<=20000:=by have:=aa.out.2.1;have:=lF.out;omega
 rw [lF.out];rw [lF.out]at bx;have jB:=ae (J.out.below bz);have cb:W6.heap.size<=g:=bX;clear bz kK bm bl bk hM JX bR;clear k0 k1 k2 k3 k4 k5 k6 k7 k8 z0 z1 z2 z3 zf zl y;obtain⟨k0,k1,k2,k3,k4,k5,k6,k7,k8⟩:=kz jB.out.act;obtain⟨⟨z0,z1,z2,z3⟩,zf,zl⟩:=aS jB.out.gV;have cu:=jB.out.net.lt;have y:=jB.out.net.soft;by_cases hn:0<=n
 ·have bO:decide (0<=n)=true:=by simpa using hn
  obtain⟨k,bp⟩:=ai (n.toNat%S);have cj:k<S:=by rw [<-bp.out];exact Nat.mod_lt _ (by omega)
  have b9:(k:Int)<(S:Int):=by omega
  have Rk:n.tmod (S:Int)=(k:Int):=by
   rw [Tq hn,<-bp.out];have:n=(n.toNat:Int):=by omega
   rw [this];simp
  have cd:((S:Int)==0)=false:=by simp;omega
  obtain⟨b2,cp⟩:=Iz.out k (by have:=lF.out;omega);obtain⟨ch,bN⟩:∃c,rU (bs[k]'(by have:=lF.out;omega)=c):=⟨_,ae rfl⟩
  rw [bN.out]at b2;have bB:rU (bs.set k (Pl.flip ch)=lM (s.K a) n):=ae (by
   rw [aw.out,af hn,lF.out,bp.out];congr 1
   rw [<-bN.out,GM,Uz (by have:=lF.out;omega)];rfl)
  have cn:ch.toNat<256:=Tf ch;by_cases bb:ch.toNat%2=0
  ·have b6:((ch.toNat:Int)%2==0)=true:=by simp;omega
   have aq:((ch.toNat:Int)+1)%256=((Pl.flip ch).toNat:Int):=by rw [V4 ch bb];omega
   clear bb;go_wp2_with fail;rw [aq];obtain⟨W8,Z⟩:=aV (W7.setCell ⟨g,k,none⟩ (.int .u8 ((Pl.flip ch).toNat:Int)));obtain⟨o,Jl⟩:=ai (bs.set k (Pl.flip ch));have Ak:rU (lM (s.K a) n=o):=ae (by rw [<-bB.out,Jl.out]);have a6:rU (dF W8 (some ⟨g,0,none⟩) S gc o):=ae (by
    have h1:=aL.out k (Pl.flip ch);rw [<-Z.out,Jl.out]at h1;obtain⟨ba,bc,We,I,_,_⟩:=h1.shape;rw [show o.length=S by rw [<-Jl.out,aaf,lF.out]]at We I;rw [lF.out]at We
    cases We;exact I)
   have xK:rU (St w W8 s P K T ⟨7,(a:Int),(b:Int),n,m,(p1,p2),key,val⟩ 0 [] 0 [] (.slice none 0 0) (.slice none 0 0)):=ae (by
    rw [Z.out];exact jB.out.bytes Tj.out bE)
   rw [<-Z.out];clear aw aL Iz aq;refine(xI (some ⟨g,0,none⟩) S gc o _ a6.out).mono ?_;obtain⟨dc,EW⟩:=ai (kP o);obtain⟨C,Q⟩:=ai (mf o);rw [EW.out,Q.out];rintro e W9 ⟨v9,rfl,Uu,CJ⟩;obtain⟨a9,c9,rfl⟩:=az Uu;obtain⟨n9,aD⟩:=ai (C.length);rw [aD.out]at Uu⊢;have Tc:rU (Own W9 0 (.slice a9 n9 c9) C):=ae (Own.mono Uu (xn _));have q:=ae (xK.out.below CJ);clear CJ Uu;obtain⟨k0,k1,k2,k3,k4,k5,k6,k7,k8⟩:=kz q.out.act;obtain⟨⟨z0,z1,z2,z3⟩,zf,zl⟩:=aS q.out.gV;have ar:=q.out.net.lt;have y:=q.out.net.soft;have E:rU (c=nN s b o):=ae (by rw [<-HC.out];unfold tC;simp only [oC];rw [WY.out,af rfl,Ak.out]);have Xa:rU (ks=qm s b o):=ae (by rw [<-uB.out];unfold tu;simp only [oC];rw [WY.out,af rfl,Ak.out])
   have M:rU (sn=oN s b o):=ae (by rw [<-HS.out];unfold qZ;simp only [oC];rw [WY.out,af rfl,Ak.out]);by_cases f:dc=0
   ·obtain⟨MO,O⟩:=ai (iJ (s.K b) C);obtain⟨MK,Xy⟩:=ai (gW (s.K b) C);have Uy:Pl.fault C=0:=by rw [<-Q.out];exact(xm (by rw [EW.out,f])).1
    have v:dY (s.K b) C=0:=by unfold dY;rw [ad.out b R,af rfl,Uy]
    have p:c=0:=by rw [E.out];unfold nN;rw [EW.out,af f,Q.out,v]
    have X:MK=ks:=by rw [Xa.out];unfold qm;rw [<-E.out,af p,Q.out,Xy.out]
    have W:sn={s with K:=cZ s.K b MO}:=by rw [M.out];unfold oN;rw [<-E.out,af p,Q.out,O.out]
    subst f;have aE:=ae v;have bL:=ae Uy;have GN:=q.out.dV 0;have Z9:=ae GN;obtain⟨ba,bc,Zo,A,H,-⟩:=(GN.kn.2.1 b R).shape (Pl.Good.ok ((bK _).1 (ad.out b R)));obtain⟨nB,ay⟩:=ai ((s.K b).length);have z:=q.out.net.lq b R;rw [ay.out]at Zo A;rw [Zo]at z;obtain⟨G,ak⟩:=Own.LP (q.out.Ov Tc.out 0 (.int .i64 0)) (Pl.Good.ok ((bK _).1 Uy));have a7:=ae A;have aR:=ae H;have aM:=ae G;clear v Uy Zo A H G ak GN;subst p;subst X;subst W;go_wp2_with fail;refine(vz ba nB bc (s.K b) a9 n9 c9 C _ a7.out aR.out aM.out).mono ?_;rw [aE.out,O.out,Xy.out];rintro e Xt ⟨vo,vk,rfl,Y5,u,G5⟩;obtain⟨oa,oc,rfl⟩:=az Y5;obtain⟨ka,kc,rfl⟩:=az u;have r:=ae (Z9.out.below G5)
    have N:rU (Own Xt 0 (.slice oa MO.length oc) MO):=ae (Own.mono Y5 (xn _));have lD:rU (bF Xt 0 (.slice ka MK.length kc) MK):=ae (World.dh u (xn _));clear G5 Y5 u ar z;clear k0 k1 k2 k3 k4 k5 k6 k7 k8 z0 z1 z2 z3 zf zl y;obtain⟨k0,k1,k2,k3,k4,k5,k6,k7,k8⟩:=kz r.out.act;obtain⟨⟨z0,z1,z2,z3⟩,zf,zl⟩:=aS r.out.gV;have bA:=r.out.net.lt;have y:=r.out.net.soft;obtain⟨nO,UO⟩:=ai (MO.length);obtain⟨bq,av⟩:=ai (MK.length);rw [UO.out]at N⊢;rw [av.out]at lD⊢;have z:=r.out.net.lq b R;go_wp2_with fail;have d:=ae ((r.out.CY b N.out).uH (r.out.YL lD.out _ _)).fin;rename_i K1 l;refine bY (w:=w) rfl rfl rfl rfl rfl d.out.net d.out.kn.one d.out.gV d.out.room d.out.nM ?_ _ (by kernel_rfl);intro y0 y1 Y V U B;refine l _ Y ?_;exact Jj (dU d.out B V U)
   ·have zq:(dc==0)=false:=by simpa using f
    have p:c=dc:=by rw [E.out];unfold nN;rw [EW.out,ag f]
    have X:ks= []:=by rw [Xa.out];unfold qm;rw [<-E.out,ag (by rw [p];exact f)]
    have W:sn=s:=by rw [M.out];unfold oN;rw [<-E.out,ag (by rw [p];exact f)]
    subst p;subst X;subst W;clear f;go_wp2_with fail;have d:=ae (q.out.dV c).fin;rename_i K1 l;refine bY (w:=w) rfl rfl rfl rfl rfl d.out.net d.out.kn.one d.out.gV d.out.room d.out.nM ?_ _ (by kernel_rfl);intro y0 y1 Y V U B;refine l _ Y ?_;exact Jj (dU d.out B V U)
  ·have b6:((ch.toNat:Int)%2==0)=false:=by simp;omega
   have aq:((ch.toNat:Int)-1)%256=((Pl.flip ch).toNat:Int):=by rw [Zn ch bb];omega
   clear bb;go_wp2_with fail;rw [aq];obtain⟨W8,Z⟩:=aV (W7.setCell ⟨g,k,none⟩ (.int .u8 ((Pl.flip ch).toNat:Int)));obtain⟨o,Jl⟩:=ai (bs.set k (Pl.flip ch));have Ak:rU (lM (s.K a) n=o):=ae (by rw [<-bB.out,Jl.out]);have a6:rU (dF W8 (some ⟨g,0,none⟩) S gc o):=ae (by
    have h1:=aL.out k (Pl.flip ch);rw [<-Z.out,Jl.out]at h1;obtain⟨ba,bc,We,I,_,_⟩:=h1.shape;rw [show o.length=S by rw [<-Jl.out,aaf,lF.out]]at We I;rw [lF.out]at We
    cases We;exact I)
   have xK:rU (St w W8 s P K T ⟨7,(a:Int),(b:Int),n,m,(p1,p2),key,val⟩ 0 [] 0 [] (.slice none 0 0) (.slice none 0 0)):=ae (by
    rw [Z.out];exact jB.out.bytes Tj.out bE)
   rw [<-Z.out];clear aw aL Iz aq;refine(xI (some ⟨g,0,none⟩) S gc o _ a6.out).mono ?_;obtain⟨dc,EW⟩:=ai (kP o);obtain⟨C,Q⟩:=ai (mf o);rw [EW.out,Q.out];rintro e W9 ⟨v9,rfl,Uu,CJ⟩;obtain⟨a9,c9,rfl⟩:=az Uu;obtain⟨n9,aD⟩:=ai (C.length);rw [aD.out]at Uu⊢;have Tc:rU (Own W9 0 (.slice a9 n9 c9) C):=ae (Own.mono Uu (xn _));have q:=ae (xK.out.below CJ);clear CJ Uu;obtain⟨k0,k1,k2,k3,k4,k5,k6,k7,k8⟩:=kz q.out.act;obtain⟨⟨z0,z1,z2,z3⟩,zf,zl⟩:=aS q.out.gV;have ar:=q.out.net.lt;have y:=q.out.net.soft;have E:rU (c=nN s b o):=ae (by rw [<-HC.out];unfold tC;simp only [oC];rw [WY.out,af rfl,Ak.out]);have Xa:rU (ks=qm s b o):=ae (by rw [<-uB.out];unfold tu;simp only [oC];rw [WY.out,af rfl,Ak.out])
   have M:rU (sn=oN s b o):=ae (by rw [<-HS.out];unfold qZ;simp only [oC];rw [WY.out,af rfl,Ak.out]);by_cases f:dc=0
   ·obtain⟨MO,O⟩:=ai (iJ (s.K b) C);obtain⟨MK,Xy⟩:=ai (gW (s.K b) C);have Uy:Pl.fault C=0:=by rw [<-Q.out];exact(xm (by rw [EW.out,f])).1
    have v:dY (s.K b) C=0:=by unfold dY;rw [ad.out b R,af rfl,Uy]
    have p:c=0:=by rw [E.out];unfold nN;rw [EW.out,af f,Q.out,v]
    have X:MK=ks:=by rw [Xa.out];unfold qm;rw [<-E.out,af p,Q.out,Xy.out]
    have W:sn={s with K:=cZ s.K b MO}:=by rw [M.out];unfold oN;rw [<-E.out,af p,Q.out,O.out]
    subst f;have aE:=ae v;have bL:=ae Uy;have GN:=q.out.dV 0;have Z9:=ae GN;obtain⟨ba,bc,Zo,A,H,-⟩:=(GN.kn.2.1 b R).shape (Pl.Good.ok ((bK _).1 (ad.out b R)));obtain⟨nB,ay⟩:=ai ((s.K b).length);have z:=q.out.net.lq b R;rw [ay.out]at Zo A;rw [Zo]at z;obtain⟨G,ak⟩:=Own.LP (q.out.Ov Tc.out 0 (.int .i64 0)) (Pl.Good.ok ((bK _).1 Uy));have a7:=ae A;have aR:=ae H;have aM:=ae G;clear v Uy Zo A H G ak GN;subst p;subst X;subst W;go_wp2_with fail;refine(vz ba nB bc (s.K b) a9 n9 c9 C _ a7.out aR.out aM.out).mono ?_;rw [aE.out,O.out,Xy.out];rintro e Xt ⟨vo,vk,rfl,Y5,u,G5⟩;obtain⟨oa,oc,rfl⟩:=az Y5;obtain⟨ka,kc,rfl⟩:=az u;have r:=ae (Z9.out.below G5)
    have N:rU (Own Xt 0 (.slice oa MO.length oc) MO):=ae (Own.mono Y5 (xn _));have lD:rU (bF Xt 0 (.slice ka MK.length kc) MK):=ae (World.dh u (xn _));clear G5 Y5 u ar z;clear k0 k1 k2 k3 k4 k5 k6 k7 k8 z0 z1 z2 z3 zf zl y;obtain⟨k0,k1,k2,k3,k4,k5,k6,k7,k8⟩:=kz r.out.act;obtain⟨⟨z0,z1,z2,z3⟩,zf,zl⟩:=aS r.out.gV;have bA:=r.out.net.lt;have y:=r.out.net.soft;obtain⟨nO,UO⟩:=ai (MO.length);obtain⟨bq,av⟩:=ai (MK.length);rw [UO.out]at N⊢;rw [av.out]at lD⊢;have z:=r.out.net.lq b R;go_wp2_with fail;have d:=ae ((r.out.CY b N.out).uH (r.out.YL lD.out _ _)).fin;rename_i K1 l;refine bY (w:=w) rfl rfl rfl rfl rfl d.out.net d.out.kn.one d.out.gV d.out.room d.out.nM ?_ _ (by kernel_rfl);intro y0 y1 Y V U B;refine l _ Y ?_;exact Jj (dU d.out B V U)
   ·have zq:(dc==0)=false:=by simpa using f
    have p:c=dc:=by rw [E.out];unfold nN;rw [EW.out,ag f]
    have X:ks= []:=by rw [Xa.out];unfold qm;rw [<-E.out,ag (by rw [p];exact f)]
    have W:sn=s:=by rw [M.out];unfold oN;rw [<-E.out,ag (by rw [p];exact f)]
    subst p;subst X;subst W;clear f;go_wp2_with fail;have d:=ae (q.out.dV c).fin;rename_i K1 l;refine bY (w:=w) rfl rfl rfl rfl rfl d.out.net d.out.kn.one d.out.gV d.out.room d.out.nM ?_ _ (by kernel_rfl);intro y0 y1 Y V U B;refine l _ Y ?_;exact Jj (dU d.out B V U)
 ·have bO:decide (0<=n)=false:=by simpa using hn
  obtain⟨o,Jl⟩:=ai (bs);have Ak:rU (lM (s.K a) n=o):=ae (by rw [aw.out,ag hn,Jl.out]);have xK:=jB;have a6:rU (dF W7 (some ⟨g,0,none⟩) S gc o):=ae (by
   obtain⟨ba,bc,We,I,_,_⟩:=b7.out.shape;rw [lF.out]at We I
   cases We;rw [<-Jl.out];exact I)
  clear hn aw aL Iz;go_wp2_with fail;refine(xI (some ⟨g,0,none⟩) S gc o _ a6.out).mono ?_;obtain⟨dc,EW⟩:=ai (kP o);obtain⟨C,Q⟩:=ai (mf o);rw [EW.out,Q.out];rintro e W9 ⟨v9,rfl,Uu,CJ⟩;obtain⟨a9,c9,rfl⟩:=az Uu;obtain⟨n9,aD⟩:=ai (C.length);rw [aD.out]at Uu⊢;have Tc:rU (Own W9 0 (.slice a9 n9 c9) C):=ae (Own.mono Uu (xn _));have q:=ae (xK.out.below CJ);clear CJ Uu;obtain⟨k0,k1,k2,k3,k4,k5,k6,k7,k8⟩:=kz q.out.act;obtain⟨⟨z0,z1,z2,z3⟩,zf,zl⟩:=aS q.out.gV;have ar:=q.out.net.lt;have y:=q.out.net.soft;have E:rU (c=nN s b o):=ae (by rw [<-HC.out];unfold tC;simp only [oC];rw [WY.out,af rfl,Ak.out]);have Xa:rU (ks=qm s b o):=ae (by rw [<-uB.out];unfold tu;simp only [oC];rw [WY.out,af rfl,Ak.out])
  have M:rU (sn=oN s b o):=ae (by rw [<-HS.out];unfold qZ;simp only [oC];rw [WY.out,af rfl,Ak.out]);by_cases f:dc=0
  ·obtain⟨MO,O⟩:=ai (iJ (s.K b) C);obtain⟨MK,Xy⟩:=ai (gW (s.K b) C);have Uy:Pl.fault C=0:=by rw [<-Q.out];exact(xm (by rw [EW.out,f])).1
   have v:dY (s.K b) C=0:=by unfold dY;rw [ad.out b R,af rfl,Uy]
   have p:c=0:=by rw [E.out];unfold nN;rw [EW.out,af f,Q.out,v]
   have X:MK=ks:=by rw [Xa.out];unfold qm;rw [<-E.out,af p,Q.out,Xy.out]
   have W:sn={s with K:=cZ s.K b MO}:=by rw [M.out];unfold oN;rw [<-E.out,af p,Q.out,O.out]
   subst f;have aE:=ae v;have bL:=ae Uy;have GN:=q.out.dV 0;have Z9:=ae GN;obtain⟨ba,bc,Zo,A,H,-⟩:=(GN.kn.2.1 b R).shape (Pl.Good.ok ((bK _).1 (ad.out b R)));obtain⟨nB,ay⟩:=ai ((s.K b).length);have z:=q.out.net.lq b R;rw [ay.out]at Zo A;rw [Zo]at z;obtain⟨G,ak⟩:=Own.LP (q.out.Ov Tc.out 0 (.int .i64 0)) (Pl.Good.ok ((bK _).1 Uy));have a7:=ae A;have aR:=ae H;have aM:=ae G;clear v Uy Zo A H G ak GN;subst p;subst X;subst W;go_wp2_with fail;refine(vz ba nB bc (s.K b) a9 n9 c9 C _ a7.out aR.out aM.out).mono ?_;rw [aE.out,O.out,Xy.out];rintro e Xt ⟨vo,vk,rfl,Y5,u,G5⟩;obtain⟨oa,oc,rfl⟩:=az Y5;obtain⟨ka,kc,rfl⟩:=az u;have r:=ae (Z9.out.below G5)
   have N:rU (Own Xt 0 (.slice oa MO.length oc) MO):=ae (Own.mono Y5 (xn _));have lD:rU (bF Xt 0 (.slice ka MK.length kc) MK):=ae (World.dh u (xn _));clear G5 Y5 u ar z;clear k0 k1 k2 k3 k4 k5 k6 k7 k8 z0 z1 z2 z3 zf zl y;obtain⟨k0,k1,k2,k3,k4,k5,k6,k7,k8⟩:=kz r.out.act;obtain⟨⟨z0,z1,z2,z3⟩,zf,zl⟩:=aS r.out.gV;have bA:=r.out.net.lt;have y:=r.out.net.soft;obtain⟨nO,UO⟩:=ai (MO.length);obtain⟨bq,av⟩:=ai (MK.length);rw [UO.out]at N⊢;rw [av.out]at lD⊢;have z:=r.out.net.lq b R;go_wp2_with fail;have d:=ae ((r.out.CY b N.out).uH (r.out.YL lD.out _ _)).fin;rename_i K1 l;refine bY (w:=w) rfl rfl rfl rfl rfl d.out.net d.out.kn.one d.out.gV d.out.room d.out.nM ?_ _ (by kernel_rfl);intro y0 y1 Y V U B;refine l _ Y ?_;exact Jj (dU d.out B V U)
  ·have zq:(dc==0)=false:=by simpa using f
   have p:c=dc:=by rw [E.out];unfold nN;rw [EW.out,ag f]
   have X:ks= []:=by rw [Xa.out];unfold qm;rw [<-E.out,ag (by rw [p];exact f)]
   have W:sn=s:=by rw [M.out];unfold oN;rw [<-E.out,ag (by rw [p];exact f)]
   subst p;subst X;subst W;clear f;go_wp2_with fail;have d:=ae (q.out.dV c).fin;rename_i K1 l;refine bY (w:=w) rfl rfl rfl rfl rfl d.out.net d.out.kn.one d.out.gV d.out.room d.out.nM ?_ _ (by kernel_rfl);intro y0 y1 Y V U B;refine l _ Y ?_;exact Jj (dU d.out B V U)
theorem NP(a:Option Addr)(len cap:Nat)(es:List aK)(node:Int)(key val:ByteArray)(w:qh)(h:bI w a len cap es)(I:Pl.fault es=0)(T:key.size<=Jk)(P:val.size<=Jk):
  O6 xh 79 #[.slice a len cap,.int .i64 node,.string key,.string val] w fun e w'=>
   ∃v b c,e= .returned (.tuple #[v,.bool b,.int .i64 c])/\Ah w.heap.size w w'/\
    ((Pl.stands es node key val=true/\v= .slice a len cap/\b=false/\c=0)\/(Pl.stands es node key val=false/\b=true/\c=eQ es node key val/\Own w' w.heap.size v (jH es node key val))):=by
 have u:=ae h;clear h;obtain⟨g1,g2,g3⟩:=jm I;have hlen:es.length=len:=u.out.1;have W:len<=60:=by omega
 have X:rU (MV es):=g3;have k:=ae (fun w' (l:Ah w.heap.size w w')=>fK a len cap es key w' (u.out.below l));rw [jJ X.out]at k;have j:=ae (fun w' (l:Ah w.heap.size w w')=>Kw a len cap es node key val w' (u.out.below l) T P);obtain⟨R,N⟩:=ai (Pl.stands es node key val);have m:rU (R=((if Pl.there es key then(0:Int)else 6)==0&&((if Pl.there es key then eF es (Pl.pos es key)else aK.none).org==node)&&decide ((if Pl.there es key then eF es (Pl.pos es key)else aK.none).val=val))):=ae (by
  rw [<-N.out];unfold Pl.stands BI iT;rw [I,af rfl,af rfl])
 obtain⟨G,K⟩:=ai (eQ es node key val);obtain⟨F,L⟩:=ai (jH es node key val);rw [K.out,L.out]at j;rw [N.out,K.out,L.out];obtain⟨t,M⟩:=ai (Pl.there es key);obtain⟨p,O⟩:=ai (Pl.pos es key);rw [M.out,O.out]at k m;have A:rU (∀(s f:qh) v,Ah w.heap.size w s->R=false->Own f s.heap.size v F->Ah s.heap.size s f->∃z b c,Ending.returned (.tuple #[v,.bool true,.int .i64 G])= .returned (.tuple #[z,.bool b,.int .i64 c])/\Ah w.heap.size w f/\
    ((R=true/\z= .slice a len cap/\b=false/\c=0)\/(R=false/\b=true/\c=G/\Own f w.heap.size z F))):=ae fun s f v l U r C=>
  ⟨_,_,_,rfl,l.trans (C.mono l.size),.inr ⟨U,rfl,rfl,r.mono l.size⟩⟩
 cases t
 ·have q:rU (R=false):=ae (by rw [m.out];rfl);simp only [Bool.false_eq_true,↓reduceIte]at k;go_enter Tryz.func79,Tryz.ntmps79;go_wp2_with fail;refine(k.out w (oP _ _)).mono ?_;rintro e f ⟨rfl,d⟩;rw [d];clear d f;go_wp2_with fail;refine(j.out w (oP _ _)).mono ?_;rintro e w3 ⟨v3,rfl,g,i⟩;go_wp2_with fail;go_ret3;exact A.out w w3 v3 (oP _ _) q.out g i
 ·have V:p<len:=by
   have:=M.out;unfold Pl.there at this;simp only [aac,ik]at this;have:=O.out;omega
  simp only [↓reduceIte]at k;obtain⟨b,off,rfl,l,H⟩:∃b off,a=some ⟨b,off,none⟩/\b<w.heap.size/\dN w b off es:=by
   rcases u.out.2.2.2.2 with h|h
   ·rw [h]at hlen;simp at hlen;omega
   ·exact h
  obtain⟨c0,c1,c2,J⟩:=H p (by omega);simp only [↓reduceIte]at m;obtain⟨y,D⟩:=ai (eF es p);rw [D.out]at m c0 c1 c2 J;obtain⟨Z,Y,x,E⟩:=y;simp only at m c0 c1 c2 J;have S:(p:Int)<(len:Int):=by omega
  have Q:decide ((0:Int)<=(p:Int))=true:=zx (by omega);clear H;by_cases n:E=val
  ·have B:(E.toList==val.toList)=true:=by rw [n];simp
   by_cases r:x=node
   ·have o:(x==node)=true:=by simpa using r
    have q:rU (R=true):=ae (by rw [m.out,o,zx n];rfl);clear r n;go_enter Tryz.func79,Tryz.ntmps79;go_wp2_with fail;refine(k.out w (oP _ _)).mono ?_;rintro e f ⟨rfl,d⟩;rw [d];clear d f;go_wp2_with fail;go_ret3;exact⟨_,_,_,rfl,oP _ _,.inl ⟨q.out,rfl,rfl,rfl⟩⟩
   ·have o:(x==node)=false:=by simpa using r
    have q:rU (R=false):=ae (by rw [m.out,o];simp);clear r n;go_enter Tryz.func79,Tryz.ntmps79;go_wp2_with fail;refine(k.out w (oP _ _)).mono ?_;rintro e f ⟨rfl,d⟩;rw [d];clear d f;go_wp2_with fail;refine(j.out w (oP _ _)).mono ?_;rintro e w3 ⟨v3,rfl,g,i⟩;go_wp2_with fail;go_ret3;exact A.out w w3 v3 (oP _ _) q.out g i
  ·have B:=kT n;have q:rU (R=false):=ae (by rw [m.out,Fb n];simp);clear n;go_enter Tryz.func79,Tryz.ntmps79;go_wp2_with fail;refine(k.out w (oP _ _)).mono ?_;rintro e f ⟨rfl,d⟩;rw [d];clear d f;go_wp2_with fail;refine(j.out w (oP _ _)).mono ?_;rintro e w3 ⟨v3,rfl,g,i⟩;go_wp2_with fail;go_ret3;exact A.out w w3 v3 (oP _ _) q.out g i
structure pI(a0:Z5)(m:Nat)(dst:Nat->Option Nat)(V:Nat->xx->qh->Prop)(C:Array Bool->qh->Prop)(listed:Array Bool)(a:Z5)(w:qh):Prop where
 ls:listed.size=m
 sz:a.tmps.size=a0.tmps.size
 df:a={a0 with tmps:=a.tmps}
 fr:∀t,(∀k,dst k≠some t)->a.tmps[t]?.getD qL=a0.tmps[t]?.getD qL
 vl:∀k t,dst k=some t->listed.getD k false=true->V k (a.tmps[t]?.getD qL) w
 ul:∀k t,dst k=some t->listed.getD k false=false->a.tmps[t]?.getD qL=a0.tmps[t]?.getD qL
 cw:C listed w
section
variable {a0 a : Z5} {m i t : Nat} {dst : Nat -> Option Nat} {V : Nat -> xx -> qh -> Prop} {C : Array Bool -> qh -> Prop} {listed : Array Bool} {w w' : qh} {v : xx}
theorem pI.put(h:pI a0 m dst V C listed a w)(r:i<m)(n:dst i=some t)(l:∀k,dst k=some t->k=i)(p:t<a0.tmps.size)(o:V i v w')(d:∀k,listed.getD k false=true->∀u,V k u w->V k u w')(hc:C (listed.setIfInBounds i true) w'):pI a0 m dst V C (listed.setIfInBounds i true) (a.put (some t) v) w':=by
 have g:=h.sz;refine⟨by simp [h.ls],by simp [WZ,g],by rw [h.df];rfl,fun q j=> ?_,fun k q c hl=> ?_,fun k q c hl=> ?_,hc⟩
 ·have b:t≠q:=fun e=>j i (by rw [n,e]);rw [show(a.put (some t) v).tmps[q]? =a.tmps[q]? from by simp [WZ,OI b]];exact h.fr q j
 ·by_cases e:i=k
  ·subst e;rw [n]at c
   cases c;rw [show(a.put (some t) v).tmps[t]?.getD qL=v from by simp [WZ,g,p]];exact o
  ·have b:t≠q:=fun f=>e (l k (by rw [c,f])).symm;rw [Rq false e]at hl;rw [show(a.put (some t) v).tmps[q]? =a.tmps[q]? from by simp [WZ,OI b]];exact d _ hl _ (h.vl k q c hl)
 ·by_cases e:i=k
  ·subst e;rw [show(listed.setIfInBounds i true).getD i false=true from by simp [h.ls,r]]at hl
   cases hl
  ·have b:t≠q:=fun f=>e (l k (by rw [c,f])).symm;rw [Rq false e]at hl;rw [show(a.put (some t) v).tmps[q]? =a.tmps[q]? from by simp [WZ,OI b]];exact h.ul k q c hl
theorem pI.skip(h:pI a0 m dst V C listed a w)(d:dst i=none)(c:∀k,listed.getD k false=true->∀u,V k u w->V k u w')(hc:C (listed.setIfInBounds i true) w'):pI a0 m dst V C (listed.setIfInBounds i true) a w':=by
 refine⟨by simp [h.ls],h.sz,h.df,h.fr,fun k q b hl=> ?_,fun k q b hl=> ?_,hc⟩
 ·have e:i≠k:=by rintro rfl;rw [d]at b;cases b
  rw [Rq false e]at hl;exact c _ hl _ (h.vl k q b hl)
 ·have e:i≠k:=by rintro rfl;rw [d]at b;cases b
  rw [Rq false e]at hl;exact h.ul k q b hl
theorem pI.start(hc:C (SN m false) w):pI a0 m dst V C (SN m false) a0 w:=
 by
 refine⟨by simp,rfl,rfl,fun _ _=>rfl,fun k _ _ hl=> ?_,fun _ _ _ _=>rfl,hc⟩;rw [show(SN m false).getD k false=false from by by_cases a:k<m<;>simp [a]]at hl
 cases hl
end
def wF(a:Z5)(s n:Nat):List xx:=(List.range n).map fun j=>a.tmps[s+j]?.getD qL
theorem iq(a:Z5)(s n:Nat):(wF a s n).length=n:=by simp [wF]
theorem lI(a:Z5)(s n j:Nat)(h:j<n):(wF a s n).getD j qL=a.tmps[s+j]?.getD qL:=by simp [wF,aab,h]
theorem abS{x y:Array xx}(b:x.size=y.size)(h:∀t,t<x.size->x[t]?.getD qL=y[t]?.getD qL):x=y:=by
 apply Array.ext b;intro i a c;have:=h i a;simpa [a,c]using this
theorem yA{a a0:Z5}(s1 c s2 b:Nat)(d:a.tmps.size=a0.tmps.size)(df:a={a0 with tmps:=a.tmps})(h:∀t,¬(s1<=t/\t<s1+c)->¬(s2<=t/\t<s2+b)->a.tmps[t]?.getD qL=a0.tmps[t]?.getD qL):
  a={a0 with tmps:=setFrom (setFrom a0.tmps s1 (wF a s1 c)) s2 (wF a s2 b)}:=by
 rw [df];have e:a.tmps=setFrom (setFrom a0.tmps s1 (wF a s1 c)) s2 (wF a s2 b):=by
  refine abS (by rw [oU,oU,d]) fun t f=> ?_;by_cases g2:s2<=t/\t<s2+b
  ·obtain⟨j,rfl⟩:∃j,t=s2+j:=⟨t-s2,by omega⟩
   rw [gu _ _ _ _ (by rw [iq];omega) (by rw [oU];omega)];have:=lI a s2 b j (by omega);rw [<-this];simp [aab]
  ·rw [fH _ _ _ _ (by rw [iq];omega)];by_cases g1:s1<=t/\t<s1+c
   ·obtain⟨j,rfl⟩:∃j,t=s1+j:=⟨t-s1,by omega⟩
    rw [gu _ _ _ _ (by rw [iq];omega) (by omega)];have:=lI a s1 c j (by omega);rw [<-this];simp [aab]
   ·rw [fH _ _ _ _ (by rw [iq];omega)];exact h t g1 g2
 exact congrArg (fun x=>({a0 with tmps:=x}:Z5)) e
theorem DU{a a0:Z5}(s n:Nat)(b:a.tmps.size=a0.tmps.size)(df:a={a0 with tmps:=a.tmps})(h:∀t,¬(s<=t/\t<s+n)->a.tmps[t]?.getD qL=a0.tmps[t]?.getD qL):
  a={a0 with tmps:=setFrom a0.tmps s (wF a s n)}:=by
 have:=yA (a:=a) (a0:=a0) s 0 s n b df (fun t _ g=>h t g);simpa [wF,setFrom]using this
def V2(D1 D2:List Nat)(P1 P2:xx->qh->Prop)(E:List xx)(k:Nat)(u:xx)(W:qh):Prop:=if k∈D1 then P1 u W else if k∈D2 then P2 u W else u=E.getD k qL
theorem V2.step{f d b a E}{W W':qh}(i:∀u,b u W->b u W')(g:∀u,a u W->a u W'){l:Array Bool}:∀k,l.getD k false=true->∀u,V2 f d b a E k u W->V2 f d b a E k u W':=by
 intro k _ u h;unfold V2 at*;split at h
 ·rename_i e;rw [af e];exact i u h
 ·rename_i e;rw [ag e];split at h
  ·rename_i c;rw [af c];exact g u h
  ·rename_i c;rw [ag c];exact h
def Pl.vZ(es:List aK)(n:Int)(k v:ByteArray):List aK:=if Pl.stands es n k v=true then es else jH es n k v
def Pl.wo(es:List aK)(n:Int)(k v:ByteArray):Int:=if Pl.stands es n k v=true then 0 else eQ es n k v
theorem En(a:Option Addr)(len cap:Nat)(es:List aK)(node:Int)(key val:ByteArray)(w:qh)(h:Own w 0 (.slice a len cap) es)(hl:es.length=len)(g:Pl.fault es=0)(k:key.size<=Jk)(i:val.size<=Jk):
  O6 xh 79 #[.slice a len cap,.int .i64 node,.string key,.string val] w fun e w'=>
   (∃v,e= .returned (.tuple #[v,.bool (!Pl.stands es node key val),.int .i64 (wo es node key val)])/\Own w' 0 v (vZ es node key val))/\Ah w.heap.size w w':=by
 subst hl;refine(NP a _ cap es node key val w (Own.LP h (Pl.Good.ok ((bK _).1 g))).1 g k i).mono ?_;rintro e w' ⟨v,b,c,rfl,f,⟨d,rfl,rfl,rfl⟩|⟨d,rfl,rfl,j⟩⟩
 ·refine⟨⟨_,by unfold wo;rw [d,af rfl];rfl,?_⟩,f⟩;unfold vZ;rw [d,af rfl];exact h.below f
 ·refine⟨⟨v,by unfold wo;rw [d];rfl,?_⟩,f⟩;unfold vZ;rw [d];exact Own.mono j (xn _)
structure Cf(w W:qh)(s:Pl.Nt)(P K T:Nat->xx)(x:Pl.Ac)(c:Int)(co:Int)(vp vk:xx):Prop where
 net:bV W w.heap.size s.D P K T s.L
 kn:Kn W s P K T
 act:W.heap[w.heap.size+1]? =some (.cells x.cells 51)
 room:∃g,aj W (w.heap.size+1+1) 34 192 g
 nM:∃d0 d1 d2 d3,W.heap[w.heap.size+1+1+1]? =some (.cells #[d0,d1,d2,d3] 40)
 gV:W.heap[w.heap.size+1+1+1+1]? =some (.cells #[.int .i64 c,vp,.int .i64 co,vk] 40)
 sz:w.heap.size+5<=W.heap.size
 low:Ah w.heap.size w W
section
variable {w W W' : qh} {s : Pl.Nt} {P K T : Nat -> xx} {x : Pl.Ac} {c co : Int} {path : List Int} {keys : List ByteArray} {vp vk : xx}
theorem St.zero(h:St w W s P K T x c path co keys vp vk):Cf w W s P K T x c co vp vk:=⟨h.net,h.kn,h.act,h.room,h.nM,h.gV,h.sz,h.low⟩
theorem Cf.with(h:Cf w W s P K T x c co vp vk)(a:dI W 0 vp path)(b:bF W 0 vk keys):St w W s P K T x c path co keys vp vk:=⟨h.net,h.kn,h.act,h.room,h.nM,h.gV,a,b,h.sz,h.low⟩
theorem Cf.below(h:Cf w W s P K T x c co vp vk)(k:Ah W.heap.size W W'):Cf w W' s P K T x c co vp vk:=by
 have a:=h.sz;refine⟨aj.below h.net k,h.kn.below k,(k.block _ (by omega)).trans h.act,?_,?_,(k.block _ (by omega)).trans h.gV,PW a k.size,h.low.trans (k.mono h.low.size)⟩
 ·obtain⟨g,q⟩:=h.room;exact⟨g,q.below k⟩
 ·obtain⟨d0,d1,d2,d3,q⟩:=h.nM;exact⟨d0,d1,d2,d3,(k.block _ (by omega)).trans q⟩
theorem Cf.grown(h:Cf w W s P K T x c co vp vk){base:Nat}{e:TypeId}{sz n:Nat}{v:xx}{xs:List xx}(r:W.ownsRow base e sz v n xs)(b:W.grownBy W' v.ownBlock)(I:w.heap.size+5<=base)(he:e≠49/\e≠55/\e≠80/\e≠3):Cf w W' s P K T x c co vp vk:=by
 have E:=h.sz;have l:=Iy r;have a:∀k,k<w.heap.size+5->W'.heap[k]? =W.heap[k]? :=fun k a=>b.block k (by omega) (fun q=>by have:=(l k q.symm).1;omega);have f:∀{y:Nat} {o:TypeId} {s2:Nat} {u:xx} {m:Nat} {p:List xx},W.ownsRow y o s2 u m p->o≠e->W'.ownsRow y o s2 u m p:=fun t ne=>aai t b (yI ne t r);refine⟨(a _ (by omega)).trans h.net,⟨fun i d=>f (h.kn.1 i d) (aad he.1),fun i d=>f (h.kn.2.1 i d) (aad he.2.1),fun i d=> ?_⟩,(a _ (by omega)).trans h.act,?_,?_,(a _ (by omega)).trans h.gV,PW E b.size,?_⟩
 ·obtain⟨F,t1,t2,t3⟩:=h.kn.2.2 i d;refine⟨F,f t1 (aad he.2.2.1),t2,fun j H=> ?_⟩;obtain⟨D,C,B,A,z⟩:=t3 j H;exact⟨D,C,B,f A (aad he.2.2.2),z⟩
 ·obtain⟨g,q⟩:=h.room;exact⟨g,(a _ (by omega)).trans q⟩
 ·obtain⟨d0,d1,d2,d3,q⟩:=h.nM;exact⟨d0,d1,d2,d3,(a _ (by omega)).trans q⟩
 ·exact h.low.trans ⟨b.os,b.tape,b.output,b.size,fun k G=>a k (by omega)⟩
theorem Cf.other(h:Cf w W s P K T x c co vp vk){X:Nat}(a:aI X W W')(e:w.heap.size+5<=X)(b:iG W X):Cf w W' s P K T x c co vp vk:=by
 have d:=h.sz;refine⟨aj.but h.net a (by omega),h.kn.no a b,(a.block _ (by omega) (by omega)).trans h.act,?_,?_,(a.block _ (by omega) (by omega)).trans h.gV,PW d a.size,h.low.trans (a.below (by omega) h.low.size)⟩
 ·obtain⟨g,q⟩:=h.room;exact⟨g,q.but a (by omega)⟩
 ·obtain⟨d0,d1,d2,d3,q⟩:=h.nM;exact⟨d0,d1,d2,d3,(a.block _ (by omega) (by omega)).trans q⟩
end
theorem V2.step1{g a f E}{d:Nat}{W W':qh}(j:∀u,a u W->a u W'){l:Array Bool}(i:l.getD d false=false):∀k,l.getD k false=true->∀u,V2 g [d] a f E k u W->V2 g [d] a f E k u W':=by
 intro k c u h;unfold V2 at*;split at h
 ·rename_i e;rw [af e];exact j u h
 ·rename_i e;rw [ag e];split at h
  ·rename_i b;have:k=d:=by simpa using b
   rw [this,i]at c
   cases c
  ·rename_i b;rw [ag b];exact h
def Ag(n:Nat)(key:ByteArray)(u:xx)(W:qh):Prop:=∃g,u= .slice (some ⟨g,0,none⟩) 1 1/\n<=g/\W.cell? ⟨g,0,none⟩=some (.string key)
def PM(n:Nat)(p:Int×Int)(u:xx)(W:qh):Prop:=∃g,u= .slice (some ⟨g,0,none⟩) 1 1/\n<=g/\W.cell? ⟨g,0,none⟩=some (.int .i64 p.1)/\W.cell? ⟨g,1,none⟩=some (.int .i64 p.2)
theorem RU{W:qh}{g o:Nat}{v:xx}(h:W.cell? ⟨g,o,none⟩=some v):g<W.heap.size:=by
 rcases Rw g W.heap.size with a|a
 ·exact a
 ·simp [aah,Array.getElem?_eq_none a]at h
theorem cellOf{W W':qh}{g o:Nat}(h:W'.heap[g]? =W.heap[g]?):W'.cell? ⟨g,o,none⟩=W.cell? ⟨g,o,none⟩:=by
 simp [aah,h]
theorem Ag.keep{n:Nat}{key:ByteArray}{W W':qh}(h:∀g,n<=g->g<W.heap.size->W'.heap[g]? =W.heap[g]?):∀u,Ag n key u W->Ag n key u W':=fun _ ⟨g,e,a,hc⟩=>⟨g,e,a,(cellOf (h g a (RU hc))).trans hc⟩
theorem PM.keep{n:Nat}{p:Int×Int}{W W':qh}(h:∀g,n<=g->g<W.heap.size->W'.heap[g]? =W.heap[g]?):∀u,PM n p u W->PM n p u W':=fun _ ⟨g,e,a,hc,b⟩=>⟨g,e,a,(cellOf (h g a (RU hc))).trans hc,(cellOf (h g a (RU hc))).trans b⟩
theorem YS:(Tryz.prog.info? 9).map (fun i=>(i.zero,i.size,i.bytes))=some (some (.string ⟨#[]⟩),1,16):=by kernel_rfl
theorem yU{w:qh}{o:Oper}{a:Z5}{K:Z5->qh->Prop}{Q:Exit->Z5->qh->Prop}(s x:Operand)
  (t:o.op= .call {callee:= .builtin .append,args:=#[s,x],argTypes:=#[38,38]})
  (base:Nat)(v:xx)(d:List ByteArray)(key:ByteArray)(r:a.eval s=v)(e:bF w base v d)(c:base<=w.heap.size)(g:Nat)(q:a.eval x= .slice (some ⟨g,0,none⟩) 1 1)(y:w.cell? ⟨g,0,none⟩=some (.string key))(z:d.length<=1000)
  (h:∀f w',bF w' base f (d++ [key])->w.grownBy w' v.ownBlock->K (a.put o.dst f) w'):o.wp xh a w K Q:=by
 obtain⟨i0,n,m,l,k⟩:=partsOf YS;refine Xh w s x 38 t base 9 i0 _ 1 16 Tryz.underlying38 n m l k rfl (by decide) v d.length (d.map Value.string) r e ⟨g,0,none⟩ 1 1 [.string key] q rfl ?_ ?_ (by unfold Jk;omega) (by omega) c ?_
 ·intro j u i;rw [bD];match j,i with
  |0,i=>simp at i;subst i;exact y
 ·intro u hu;simp at hu;subst hu;rfl
 ·intro f w' b p _;refine h f w' ?_ p;unfold bF;rw [List.map_append];simpa using b
theorem Fj{w:qh}{o:Oper}{a:Z5}{K:Z5->qh->Prop}{Q:Exit->Z5->qh->Prop}(s x:Operand)
  (y:o.op= .call {callee:= .builtin .append,args:=#[s,x],argTypes:=#[139,139]})
  (base:Nat)(v:xx)(ps:List (Int×Int))(p:Int×Int)(t:a.eval s=v)(e:aU 143 w base v ps)(d:base<=w.heap.size)(g:Nat)(r:a.eval x= .slice (some ⟨g,0,none⟩) 1 1)(z:w.cell? ⟨g,0,none⟩=some (.int .i64 p.1))(q:w.cell? ⟨g,1,none⟩=some (.int .i64 p.2))(A:ps.length<=1000)
  (h:∀f w',aU 143 w' base f (ps++ [p])->w.grownBy w' v.ownBlock->K (a.put o.dst f) w'):o.wp xh a w K Q:=by
 obtain⟨i0,m,l,k,i⟩:=partsOf JS;refine Xh w s x 139 y base 143 i0 _ 2 16 Tryz.underlying139 m l k i rfl (by decide) v ps.length (cellsP ps) t e ⟨g,0,none⟩ 1 1 [.int .i64 p.1,.int .i64 p.2] r rfl ?_ ?_ (by unfold Jk;omega) (by omega) d ?_
 ·intro j u c;rw [bD];match j,c with
  |0,c=>simp at c;subst c;exact z
  |1,c=>simp at c;subst c;exact q
 ·intro u hu;simp at hu;rcases hu with rfl|rfl<;>rfl
 ·intro f w' b n _;refine h f w' ?_ n;unfold aU;rw [jq];simpa [cellsP]using b
section
variable {w W W' w0 : qh} {s : Pl.Nt} {P K T : Nat -> xx} {x : Pl.Ac} {c co : Int} {keys : List ByteArray} {key : ByteArray} {vk : xx}
def Je(w w0:qh)(s:Pl.Nt)(P K T:Nat->xx)(x:Pl.Ac)(c co:Int)(keys:List ByteArray)(key:ByteArray)(vk:xx)(l:Array Bool)(W:qh):Prop:=
 (l.getD 9 false=false->Cf w W s P K T x c co (.slice none 0 0) vk)/\(l.getD 7 false=false->bF W (w.heap.size+5) vk keys)/\
  (l.getD 9 false=true->∃v,Cf w W s P K T x c co (.slice none 0 0) v/\bF W (w.heap.size+5) v (keys++ [key]))/\w0.heap.size<=W.heap.size
theorem Je.keep{l:Array Bool}{i:Nat}(h:Je w w0 s P K T x c co keys key vk l W)(g:i≠7)(f:i≠9)(k:Ah W.heap.size W W'):Je w w0 s P K T x c co keys key vk (l.setIfInBounds i true) W':=by
 obtain⟨a,b,d,e⟩:=h;unfold Je;rw [Rq false g,Rq false f];exact⟨fun q=>(a q).below k,fun q=>bF.below (b q) k,fun q=>by obtain⟨v,u1,u2⟩:=d q;exact⟨v,u1.below k,bF.below u2 k⟩,PW e k.size⟩
theorem Cf.uH(h:Cf w W s P K T x c co (.slice none 0 0) vk)(v:xx):Cf w (W.setCell ⟨w.heap.size+1+1+1+1,3,none⟩ v) s P K T x c co (.slice none 0 0) v:=by
 have b:=h.sz;have k:aI (w.heap.size+1+1+1+1) W (W.setCell ⟨w.heap.size+1+1+1+1,3,none⟩ v):=(aI.refl _ _).setCell _ _;have a:iG W (w.heap.size+1+1+1+1):=iG.rp h.gV;refine⟨aj.but h.net k (by omega),h.kn.no k a,(k.block _ (by omega) (by omega)).trans h.act,?_,?_,O8 h.gV v,PW b k.size,h.low.trans (k.below (by omega) h.low.size)⟩
 ·obtain⟨g,q⟩:=h.room;exact⟨g,q.but k (by omega)⟩
 ·obtain⟨d0,d1,d2,d3,q⟩:=h.nM;exact⟨d0,d1,d2,d3,(k.block _ (by omega) (by omega)).trans q⟩
end
theorem WL{Q:Exit->Z5->qh->Prop}{a0:Z5}{n:qh}{X a sn y M:Nat}{z:Option Addr}{es x:List aK}{val:ByteArray}{w:Bool}{s:Int}
  (P:a0.tmps.size=421)
  (q7:a0.tmps[7]?.getD qL= .pointer (some ⟨M,0,none⟩))
  (q3:a0.tmps[3]?.getD qL= .pointer (some ⟨X,0,none⟩))
  (N:a0.tmps[14]?.getD qL= .string val)
  (hM:M<n.heap.size)
  (KN:n.cell? ⟨M,0,none⟩=some (.slice z sn y))
  (hX:X<n.heap.size)
  (X1:n.cell? ⟨X,1,none⟩=some (.int .i64 (a:Int)))
  (ha:a<12)
  (HK:Own n 0 (.slice z sn y) es)
  (hl:es.length=sn)
  (hf:Pl.fault es=0)
  (T:(aY (a:Int)).size<=Jk)
  (GK:val.size<=Jk)
  (vU:Pl.stands es (a:Int) (aY (a:Int)) val=w)
  (ak:wo es (a:Int) (aY (a:Int)) val=s)
  (ad:vZ es (a:Int) (aY (a:Int)) val=x)
  (hQ:∀xs ys W,xs.length=3->ys.length=14->Own W 0 (xs.getD 0 qL) x->xs.getD 1 qL= .bool (!w)->xs.getD 2 qL= .int .i64 s->Ah n.heap.size n W->Q .normal {a0 with tmps:=setFrom (setFrom a0.tmps 18 xs) 238 ys} W):
  ∀ops,dX Xc 54=some ops->(aak 54 ops true).wp xh Q a0 n:=by
 intro ops aH;have eo:=UQ (aH.symm.trans (rfl:dX Xc 54=some _));subst eo;clear aH;have c:=iE ([some 239,some 240,some 241,some 242,some 243,some 244,some 245,some 246,some 247,some 248,some 238,some 249,some 250,some 251,some 18,some 19,some 20]:List (Option Nat)) rfl;refine wp_region_any (by kernel_rfl) ?_
 refine cO (pI a0 17 (fun k=>([some 239,some 240,some 241,some 242,some 243,some 244,some 245,some 246,some 247,some 248,some 238,some 249,some 250,some 251,some 18,some 19,some 20]:List (Option Nat)).getD k none) (V2 [9,10] [11,14] (fun u W=>∃v,u= .tuple #[v,.bool (!w),.int .i64 s]/\Own W 0 v x) (fun u W=>Own W 0 u x) [.pointer (some ⟨M,0,none⟩),.slice z sn y,.pointer (some ⟨X,1,none⟩),.int .i64 (a:Int),.pointer (some ⟨X,1,none⟩),.int .i64 (a:Int),.string (Pl.dec (a:Int)),.string (aY (a:Int)),.string val,qL,qL,qL,.bool (!w),.int .i64 s,qL,.bool (!w),.int .i64 s]) (fun _ W=>Ah n.heap.size n W)) ?_ ?_ _ _ _ _ (by decide+kernel) ?_ (bn _ _ _)
 ·rintro i listed j W hi jS b;rw [mem_ready]at hi;obtain⟨aq,o,S,d⟩:=hi;have sN:i<17:=(Array.getElem?_eq_some_iff.1 S).1;have an:=b.ls;have o7:=(b.fr 7 (jX rfl)).trans q7;have o3:=(b.fr 3 (jX rfl)).trans q3;have O:=(b.fr 14 (jX rfl)).trans N;have x1:=(b.cw.cell (p:=⟨X,1,none⟩) hX).trans X1;have kn:=(b.cw.cell (p:=⟨M,0,none⟩) hM).trans KN;have f:∀k,k<17->Ah n.heap.size n W:=fun _ _=>b.cw;have Z:i=0\/i=1\/i=2\/i=3\/i=4\/i=5\/i=6\/i=7\/i=8\/i=9\/i=10\/i=11\/i=12\/i=13\/i=14\/i=15\/i=16:=by omega
  rcases Z with rfl|rfl|rfl|rfl|rfl|rfl|rfl|rfl|rfl|rfl|rfl|rfl|rfl|rfl|rfl|rfl|rfl
  all_goals
   simp at S;subst S
  ·refine au rfl rfl ?_;simp [xk,go_sem,o7];exact b.put (i:=0) (t:=239) (by omega) rfl (c 0 239 rfl) (by omega) rfl (fun _ _ _ h=>h) (f 0 (by omega))
  ·refine au rfl rfl ?_;have aa:j.tmps[239]?.getD qL= .pointer (some ⟨M,0,none⟩):=b.vl 0 239 rfl (d ⟨0,.data⟩ (by simp) rfl);simp [xk,go_sem,aa,kn];exact b.put (i:=1) (t:=240) (by omega) rfl (c 1 240 rfl) (by omega) rfl (fun _ _ _ h=>h) b.cw
  ·refine au rfl rfl ?_;simp [xk,go_sem,o3];exact b.put (i:=2) (t:=241) (by omega) rfl (c 2 241 rfl) (by omega) rfl (fun _ _ _ h=>h) (f 2 (by omega))
  ·refine au rfl rfl ?_;have K:j.tmps[241]?.getD qL= .pointer (some ⟨X,1,none⟩):=b.vl 2 241 rfl (d ⟨2,.data⟩ (by simp) rfl);simp [xk,go_sem,K,x1];exact b.put (i:=3) (t:=242) (by omega) rfl (c 3 242 rfl) (by omega) rfl (fun _ _ _ h=>h) b.cw
  ·refine au rfl rfl ?_;simp [xk,go_sem,o3];exact b.put (i:=4) (t:=243) (by omega) rfl (c 4 243 rfl) (by omega) rfl (fun _ _ _ h=>h) (f 4 (by omega))
  ·refine au rfl rfl ?_;have I:j.tmps[243]?.getD qL= .pointer (some ⟨X,1,none⟩):=b.vl 4 243 rfl (d ⟨4,.data⟩ (by simp) rfl);simp [xk,go_sem,I,x1];exact b.put (i:=5) (t:=244) (by omega) rfl (c 5 244 rfl) (by omega) rfl (fun _ _ _ h=>h) b.cw
  ·refine au rfl rfl ?_;have H:j.tmps[244]?.getD qL= .int .i64 (a:Int):=b.vl 5 244 rfl (d ⟨5,.data⟩ (by simp) rfl);simp [xk,go_sem,H];refine(nC a W (by omega)).mono ?_;rintro e W' ⟨rfl,m⟩;exact b.put (i:=6) (t:=245) (by omega) rfl (c 6 245 rfl) (by omega) rfl (V2.step (fun u ⟨v,g,q⟩=>⟨v,g,q.below m⟩) (fun u h=>h.below m)) (b.cw.trans (m.mono b.cw.size))
  ·refine au rfl rfl ?_;have G:j.tmps[245]?.getD qL= .string (Pl.dec (a:Int)):=b.vl 6 245 rfl (d ⟨6,.data⟩ (by simp) rfl);have hz:¬9223372036854775807<2+(Pl.dec (a:Int)).size:=by
    have:=jK (a:Int) (by omega) (by omega);omega
   simp [xk,go_sem,G,hz];exact b.put (i:=7) (t:=246) (by omega) rfl (c 7 246 rfl) (by omega) rfl (fun _ _ _ h=>h) b.cw
  ·refine au rfl rfl ?_;simp [xk,go_sem,O];exact b.put (i:=8) (t:=247) (by omega) rfl (c 8 247 rfl) (by omega) rfl (fun _ _ _ h=>h) (f 8 (by omega))
  ·refine au rfl rfl ?_;have L:j.tmps[240]?.getD qL= .slice z sn y:=b.vl 1 240 rfl (d ⟨1,.data⟩ (by simp) rfl);have J:j.tmps[242]?.getD qL= .int .i64 (a:Int):=b.vl 3 242 rfl (d ⟨3,.data⟩ (by simp) rfl);have F:j.tmps[246]?.getD qL= .string (aY (a:Int)):=b.vl 7 246 rfl (d ⟨7,.data⟩ (by simp) rfl);have E:j.tmps[247]?.getD qL= .string val:=b.vl 8 247 rfl (d ⟨8,.data⟩ (by simp) rfl);simp [xk,go_sem,L,J,F,E];refine(En z sn y es (a:Int) (aY (a:Int)) val W (HK.below b.cw) hl hf T GK).mono ?_;rw [vU,ak,ad];rintro e W' ⟨⟨v,rfl,R⟩,m⟩;exact b.put (i:=9) (t:=248) (by omega) rfl (c 9 248 rfl) (by omega) ⟨v,rfl,R⟩ (V2.step (fun u ⟨v,g,q⟩=>⟨v,g,q.below m⟩) (fun u h=>h.below m)) (b.cw.trans (m.mono b.cw.size))
  ·refine au rfl rfl ?_;have D:=b.vl 9 248 rfl (d ⟨9,.data⟩ (by simp) rfl);obtain⟨v,g,q⟩:=D;have g:j.tmps[248]?.getD qL=_:=g;simp [xk,go_sem,g];exact b.put (i:=10) (t:=238) (by omega) rfl (c 10 238 rfl) (by omega) ⟨v,rfl,q⟩ (fun _ _ _ h=>h) b.cw
  ·refine au rfl rfl ?_;have l:=b.vl 10 238 rfl (d ⟨10,.data⟩ (by simp) rfl);obtain⟨v,g,q⟩:=l;have g:j.tmps[238]?.getD qL=_:=g;simp [xk,go_sem,g];exact b.put (i:=11) (t:=249) (by omega) rfl (c 11 249 rfl) (by omega) q (fun _ _ _ h=>h) b.cw
  ·refine au rfl rfl ?_;have l:=b.vl 10 238 rfl (d ⟨10,.data⟩ (by simp) rfl);obtain⟨v,g,q⟩:=l;have g:j.tmps[238]?.getD qL=_:=g;simp [xk,go_sem,g];exact b.put (i:=12) (t:=250) (by omega) rfl (c 12 250 rfl) (by omega) rfl (fun _ _ _ h=>h) b.cw
  ·refine au rfl rfl ?_;have l:=b.vl 10 238 rfl (d ⟨10,.data⟩ (by simp) rfl);obtain⟨v,g,q⟩:=l;have g:j.tmps[238]?.getD qL=_:=g;simp [xk,go_sem,g];exact b.put (i:=13) (t:=251) (by omega) rfl (c 13 251 rfl) (by omega) rfl (fun _ _ _ h=>h) b.cw
  ·refine au rfl rfl ?_;have C:=b.vl 11 249 rfl (d ⟨11,.data⟩ (by simp) rfl);have q:Own W 0 (j.tmps[249]?.getD qL) x:=C;simp [xk,go_sem];exact b.put (i:=14) (t:=18) (by omega) rfl (c 14 18 rfl) (by omega) q (fun _ _ _ h=>h) b.cw
  ·refine au rfl rfl ?_;have B:j.tmps[250]?.getD qL= .bool (!w):=b.vl 12 250 rfl (d ⟨12,.data⟩ (by simp) rfl);simp [xk,go_sem,B];exact b.put (i:=15) (t:=19) (by omega) rfl (c 15 19 rfl) (by omega) rfl (fun _ _ _ h=>h) (f 15 (by omega))
  ·refine au rfl rfl ?_;have A:j.tmps[251]?.getD qL= .int .i64 s:=b.vl 13 251 rfl (d ⟨13,.data⟩ (by simp) rfl);simp [xk,go_sem,A];exact b.put (i:=16) (t:=20) (by omega) rfl (c 16 20 rfl) (by omega) rfl (fun _ _ _ h=>h) (f 16 (by omega))
 ·rintro listed j W hr b;have r:=dm (by decide+kernel) b.ls hr;have Y:∀t,¬(18<=t/\t<18+3)->¬(238<=t/\t<238+14)->j.tmps[t]?.getD qL=a0.tmps[t]?.getD qL:=fun t g q=>b.fr t fun k V=>by
   have U:k<17:=by rcases Rw k 17 with h|h;exact h;(rw [GM,Ru (by simpa using h)]at V;cases V)
   have key:∀k:Fin 17,(([some 239,some 240,some 241,some 242,some 243,some 244,some 245,some 246,some 247,some 248,some 238,some 249,some 250,some 251,some 18,some 19,some 20]:List (Option Nat)).getD k.1 none).all (fun t=>(decide (18<=t)&&decide (t<21))||(decide (238<=t)&&decide (t<252)))=true:=by decide+kernel
   have:=key ⟨k,U⟩;rw [V]at this;simp at this;omega
  rw [yA 18 3 238 14 b.sz b.df Y];refine hQ _ _ W (iq _ _ _) (iq _ _ _) ?_ ?_ ?_ b.cw
  ·rw [lI _ _ _ _ (by omega)];exact b.vl 14 18 rfl (r 14 (by decide))
  ·rw [lI _ _ _ _ (by omega)];exact b.vl 15 19 rfl (r 15 (by decide))
  ·rw [lI _ _ _ _ (by omega)];exact b.vl 16 20 rfl (r 16 (by decide))
 ·exact pI.start (oP _ _).drew
theorem WJ{Q:Exit->Z5->qh->Prop}{a0:Z5}{q:qh}{X a sn A:Nat}{B:Option Addr}{es z:List aK}{val:ByteArray}{y:Bool}{x:Int}
  (O:a0.tmps.size=421)
  (q3:a0.tmps[3]?.getD qL= .pointer (some ⟨X,0,none⟩))
  (L:a0.tmps[16]?.getD qL= .string val)
  (K:a0.tmps[18]?.getD qL= .slice B sn A)
  (hX:X<q.heap.size)
  (X1:q.cell? ⟨X,1,none⟩=some (.int .i64 (a:Int)))
  (ha:a<12)
  (HK:Own q 0 (.slice B sn A) es)
  (hl:es.length=sn)
  (hf:Pl.fault es=0)
  (S:(aW (a:Int)).size<=Jk)
  (GK:val.size<=Jk)
  (vU:Pl.stands es (a:Int) (aW (a:Int)) val=y)
  (aq:wo es (a:Int) (aW (a:Int)) val=x)
  (an:vZ es (a:Int) (aW (a:Int)) val=z)
  (hQ:∀xs ys W,xs.length=4->ys.length=13->Own W 0 (xs.getD 0 qL) z->xs.getD 3 qL= .bool (!y)->xs.getD 2 qL= .int .i64 x->xs.getD 1 qL=a0.tmps[19]?.getD qL->Ah q.heap.size q W->Q .normal {a0 with tmps:=setFrom (setFrom a0.tmps 18 xs) 254 ys} W):
  ∀ops,dX Xc 57=some ops->(aak 57 ops true).wp xh Q a0 q:=by
 intro ops aH;have eo:=UQ (aH.symm.trans (rfl:dX Xc 57=some _));subst eo;clear aH;have c:=iE ([some 255,some 256,some 257,some 258,some 259,some 260,some 261,some 262,some 263,some 254,some 264,some 265,some 266,some 18,some 21,some 20]:List (Option Nat)) rfl;refine wp_region_any (by kernel_rfl) ?_
 refine cO (pI a0 16 (fun k=>([some 255,some 256,some 257,some 258,some 259,some 260,some 261,some 262,some 263,some 254,some 264,some 265,some 266,some 18,some 21,some 20]:List (Option Nat)).getD k none) (V2 [8,9] [10,13] (fun u W=>∃v,u= .tuple #[v,.bool (!y),.int .i64 x]/\Own W 0 v z) (fun u W=>Own W 0 u z) [.slice B sn A,.pointer (some ⟨X,1,none⟩),.int .i64 (a:Int),.pointer (some ⟨X,1,none⟩),.int .i64 (a:Int),.string (Pl.dec (a:Int)),.string (aW (a:Int)),.string val,qL,qL,qL,.bool (!y),.int .i64 x,qL,.bool (!y),.int .i64 x]) (fun _ W=>Ah q.heap.size q W)) ?_ ?_ _ _ _ _ (by decide+kernel) ?_ (bn _ _ _)
 ·rintro i listed l W hi jS b;rw [mem_ready]at hi;obtain⟨r,o,R,d⟩:=hi;have sN:i<16:=(Array.getElem?_eq_some_iff.1 R).1;have ar:=b.ls;have o3:=(b.fr 3 (jX rfl)).trans q3;have N:=(b.fr 16 (jX rfl)).trans L;have x1:=(b.cw.cell (p:=⟨X,1,none⟩) hX).trans X1;have f:∀k,k<16->Ah q.heap.size q W:=fun _ _=>b.cw;have V:i=0\/i=1\/i=2\/i=3\/i=4\/i=5\/i=6\/i=7\/i=8\/i=9\/i=10\/i=11\/i=12\/i=13\/i=14\/i=15:=by omega
  rcases V with rfl|rfl|rfl|rfl|rfl|rfl|rfl|rfl|rfl|rfl|rfl|rfl|rfl|rfl|rfl|rfl
  all_goals
   simp at R;subst R
  ·refine au rfl rfl ?_;have hn:listed.getD 13 false=false:=by
    cases hq:listed.getD 13 false
    ·rfl
    ·have g:=jS 13 _ rfl hq ⟨0,.phase⟩ (by simp) rfl;have T:0<listed.size:=by omega
     simp [T]at g r;rw [g]at r;cases r
   have M:=(b.ul 13 18 rfl hn).trans K;simp [xk,go_sem,M];exact b.put (i:=0) (t:=255) (by omega) rfl (c 0 255 rfl) (by omega) rfl (fun _ _ _ h=>h) b.cw
  ·refine au rfl rfl ?_;simp [xk,go_sem,o3];exact b.put (i:=1) (t:=256) (by omega) rfl (c 1 256 rfl) (by omega) rfl (fun _ _ _ h=>h) (f 1 (by omega))
  ·refine au rfl rfl ?_;have Z:l.tmps[256]?.getD qL= .pointer (some ⟨X,1,none⟩):=b.vl 1 256 rfl (d ⟨1,.data⟩ (by simp) rfl);simp [xk,go_sem,Z,x1];exact b.put (i:=2) (t:=257) (by omega) rfl (c 2 257 rfl) (by omega) rfl (fun _ _ _ h=>h) b.cw
  ·refine au rfl rfl ?_;simp [xk,go_sem,o3];exact b.put (i:=3) (t:=258) (by omega) rfl (c 3 258 rfl) (by omega) rfl (fun _ _ _ h=>h) (f 3 (by omega))
  ·refine au rfl rfl ?_;have I:l.tmps[258]?.getD qL= .pointer (some ⟨X,1,none⟩):=b.vl 3 258 rfl (d ⟨3,.data⟩ (by simp) rfl);simp [xk,go_sem,I,x1];exact b.put (i:=4) (t:=259) (by omega) rfl (c 4 259 rfl) (by omega) rfl (fun _ _ _ h=>h) b.cw
  ·refine au rfl rfl ?_;have H:l.tmps[259]?.getD qL= .int .i64 (a:Int):=b.vl 4 259 rfl (d ⟨4,.data⟩ (by simp) rfl);simp [xk,go_sem,H];refine(nC a W (by omega)).mono ?_;rintro e W' ⟨rfl,m⟩;exact b.put (i:=5) (t:=260) (by omega) rfl (c 5 260 rfl) (by omega) rfl (V2.step (fun u ⟨v,g,n⟩=>⟨v,g,n.below m⟩) (fun u h=>h.below m)) (b.cw.trans (m.mono b.cw.size))
  ·refine au rfl rfl ?_;have G:l.tmps[260]?.getD qL= .string (Pl.dec (a:Int)):=b.vl 5 260 rfl (d ⟨5,.data⟩ (by simp) rfl);have hz:¬9223372036854775807<2+(Pl.dec (a:Int)).size:=by
    have:=jK (a:Int) (by omega) (by omega);omega
   simp [xk,go_sem,G,hz];exact b.put (i:=6) (t:=261) (by omega) rfl (c 6 261 rfl) (by omega) rfl (fun _ _ _ h=>h) b.cw
  ·refine au rfl rfl ?_;simp [xk,go_sem,N];exact b.put (i:=7) (t:=262) (by omega) rfl (c 7 262 rfl) (by omega) rfl (fun _ _ _ h=>h) (f 7 (by omega))
  ·refine au rfl rfl ?_;have Y:l.tmps[255]?.getD qL= .slice B sn A:=b.vl 0 255 rfl (d ⟨0,.data⟩ (by simp) rfl);have J:l.tmps[257]?.getD qL= .int .i64 (a:Int):=b.vl 2 257 rfl (d ⟨2,.data⟩ (by simp) rfl);have F:l.tmps[261]?.getD qL= .string (aW (a:Int)):=b.vl 6 261 rfl (d ⟨6,.data⟩ (by simp) rfl);have E:l.tmps[262]?.getD qL= .string val:=b.vl 7 262 rfl (d ⟨7,.data⟩ (by simp) rfl);simp [xk,go_sem,Y,J,F,E];refine(En B sn A es (a:Int) (aW (a:Int)) val W (HK.below b.cw) hl hf S GK).mono ?_;rw [vU,aq,an];rintro e W' ⟨⟨v,rfl,P⟩,m⟩;exact b.put (i:=8) (t:=263) (by omega) rfl (c 8 263 rfl) (by omega) ⟨v,rfl,P⟩ (V2.step (fun u ⟨v,g,n⟩=>⟨v,g,n.below m⟩) (fun u h=>h.below m)) (b.cw.trans (m.mono b.cw.size))
  ·refine au rfl rfl ?_;have aa:=b.vl 8 263 rfl (d ⟨8,.data⟩ (by simp) rfl);obtain⟨v,g,n⟩:=aa;have g:l.tmps[263]?.getD qL=_:=g;simp [xk,go_sem,g];exact b.put (i:=9) (t:=254) (by omega) rfl (c 9 254 rfl) (by omega) ⟨v,rfl,n⟩ (fun _ _ _ h=>h) b.cw
  ·refine au rfl rfl ?_;have j:=b.vl 9 254 rfl (d ⟨9,.data⟩ (by simp) rfl);obtain⟨v,g,n⟩:=j;have g:l.tmps[254]?.getD qL=_:=g;simp [xk,go_sem,g];exact b.put (i:=10) (t:=264) (by omega) rfl (c 10 264 rfl) (by omega) n (fun _ _ _ h=>h) b.cw
  ·refine au rfl rfl ?_;have j:=b.vl 9 254 rfl (d ⟨9,.data⟩ (by simp) rfl);obtain⟨v,g,n⟩:=j;have g:l.tmps[254]?.getD qL=_:=g;simp [xk,go_sem,g];exact b.put (i:=11) (t:=265) (by omega) rfl (c 11 265 rfl) (by omega) rfl (fun _ _ _ h=>h) b.cw
  ·refine au rfl rfl ?_;have j:=b.vl 9 254 rfl (d ⟨9,.data⟩ (by simp) rfl);obtain⟨v,g,n⟩:=j;have g:l.tmps[254]?.getD qL=_:=g;simp [xk,go_sem,g];exact b.put (i:=12) (t:=266) (by omega) rfl (c 12 266 rfl) (by omega) rfl (fun _ _ _ h=>h) b.cw
  ·refine au rfl rfl ?_;have D:=b.vl 10 264 rfl (d ⟨10,.data⟩ (by simp) rfl);have n:Own W 0 (l.tmps[264]?.getD qL) z:=D;simp [xk,go_sem];exact b.put (i:=13) (t:=18) (by omega) rfl (c 13 18 rfl) (by omega) n (fun _ _ _ h=>h) b.cw
  ·refine au rfl rfl ?_;have ad:l.tmps[265]?.getD qL= .bool (!y):=b.vl 11 265 rfl (d ⟨11,.data⟩ (by simp) rfl);simp [xk,go_sem,ad];exact b.put (i:=14) (t:=21) (by omega) rfl (c 14 21 rfl) (by omega) rfl (fun _ _ _ h=>h) (f 14 (by omega))
  ·refine au rfl rfl ?_;have ak:l.tmps[266]?.getD qL= .int .i64 x:=b.vl 12 266 rfl (d ⟨12,.data⟩ (by simp) rfl);simp [xk,go_sem,ak];exact b.put (i:=15) (t:=20) (by omega) rfl (c 15 20 rfl) (by omega) rfl (fun _ _ _ h=>h) (f 15 (by omega))
 ·rintro listed l W hr b;have w:=dm (by decide+kernel) b.ls hr;have U:∀t,¬(18<=t/\t<18+4)->¬(254<=t/\t<254+13)->l.tmps[t]?.getD qL=a0.tmps[t]?.getD qL:=fun t g n=>b.fr t fun k s=>by
   have C:k<16:=by rcases Rw k 16 with h|h;exact h;(rw [GM,Ru (by simpa using h)]at s;cases s)
   have key:∀k:Fin 16,(([some 255,some 256,some 257,some 258,some 259,some 260,some 261,some 262,some 263,some 254,some 264,some 265,some 266,some 18,some 21,some 20]:List (Option Nat)).getD k.1 none).all (fun t=>(decide (18<=t)&&decide (t<22))||(decide (254<=t)&&decide (t<267)))=true:=by decide+kernel
   have:=key ⟨k,C⟩;rw [s]at this;simp at this;omega
  rw [yA 18 4 254 13 b.sz b.df U];refine hQ _ _ W (iq _ _ _) (iq _ _ _) ?_ ?_ ?_ ?_ b.cw
  ·rw [lI _ _ _ _ (by omega)];exact b.vl 13 18 rfl (w 13 (by decide))
  ·rw [lI _ _ _ _ (by omega)];exact b.vl 14 21 rfl (w 14 (by decide))
  ·rw [lI _ _ _ _ (by omega)];exact b.vl 15 20 rfl (w 15 (by decide))
  ·rw [lI _ _ _ _ (by omega)];exact b.fr 19 fun k s=>by
    have C:k<16:=by rcases Rw k 16 with h|h;exact h;(rw [GM,Ru (by simpa using h)]at s;cases s)
    revert s;revert k;decide+kernel
 ·exact pI.start (oP _ _).drew
end Go.Proofs.YtjjelkdajdeikaaGreatDoor
