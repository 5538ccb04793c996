/-
  Facts put together.
-/
import Derived.Test.YtjjelkdajdeikaaGreatDoorProg
import Derived.WalkLawsBesides
import Derived.WalkSpells
import Derived.Deep.RegionWith
import Derived.BigQuiet
import Derived.Lib.SmallJoins
import Derived.Laws.AppendOwnNone
namespace Go.Proofs.YtjjelkdajdeikaaGreatDoor.Pl
end Go.Proofs.YtjjelkdajdeikaaGreatDoor.Pl
open Go.Proofs.YtjjelkdajdeikaaGreatDoor.Pl
open Go renaming World→oC,Value→oP,undef→qL,getD_set_ne→BD,maxLen→Jj,Act→Jk,TypeId→OE,Calls→SN,Program→UX
open Go.Op renaming bytesLess→qh
open Bool renaming eq_iff_iff→rU,and_eq_true→Eb,eq_false_iff→MJ,false_ne_true→O6,not_eq_true'→PW,true_and→aaf
open Array renaming replicate→xh,getElem?_eq_none→GX,getElem?_setIfInBounds_ne→Iy,getElem?_eq_getElem→Rq,setIfInBounds_comm→Ru
open List renaming getD→xk,length_cons→OG,getElem?_set_ne→OM,range→OO,getElem_mem→Qd,getD_eq_getElem?_getD→Qi,countP_singleton→Rz,mem_of_getElem?→Tf,pairwise_cons→Tq,countP_append→Uz,all_eq_true→X6,length_map→aac,all_append→aad
open Nat renaming lt_or_ge→xn,le_refl→Ah,lt_of_lt_of_le→LM,eq_zero_or_pos→Pe,zero_le→Tn,add_sub_cancel→VB,lt_trichotomy→Xc,zero_lt_succ→aab
open Go.Proofs.Tryz renaming prog→xx,underlying3→WZ
open Go.Region renaming ready→BG,wanted→Ee,Mode→IA
open Go.RowKit renaming Below→GM,Hid→UQ,intOf→Z5
open Go.RowKit.Below renaming refl→OI
open Go.WalkArith renaming wf_i64→Qe
open Go.ByteArray renaming toList_eq→Rw
open Ne renaming symm→SQ
open Go.Ending renaming returned→Wq
open Go.Lit renaming int→Xh
open Int renaming lt_trichotomy→Zf
open Go.DataW renaming trod_int→aae
open Go.World renaming cell?→aag
open Go.World.ownsRow renaming lt→aah,alloc→aai
set_option maxHeartbeats 8000000
namespace Go.Proofs.YtjjelkdajdeikaaGreatDoor
namespace Pl
theorem ai{α:Sort _}(e:α):∃x,UQ (e=x):=⟨e,rfl⟩
theorem aV{α:Sort _}(e:α):∃x,UQ (x=e):=⟨e,rfl⟩
theorem ag{c:Prop}{h:Decidable c}(n:¬c){α:Sort _}{t e:α}:(ite c t e)=e:=if_neg n
theorem af{c:Prop}{h:Decidable c}(n:c){α:Sort _}{t e:α}:(ite c t e)=t:=if_pos n
theorem ik{p:Prop}[Decidable p]:(decide p=true)=p:=decide_eq_true_eq
theorem zx{p:Prop}[i:Decidable p]:p->decide p=true:=decide_eq_true
theorem Fb{p:Prop}[i:Decidable p]:¬p->decide p=false:=decide_eq_false
theorem Ja{p:Prop}{i:Decidable p}:(decide p=false)↔¬p:=decide_eq_false_iff_not
def allDiff:List (Option Nat)->Bool
 |[]=>true
 |none::r=>allDiff r
 |some t::r=>!r.contains (some t)&&allDiff r
theorem iE:∀(l:List (Option Nat)),allDiff l=true->∀i t,l.getD i none=some t->∀k,l.getD k none=some t->k=i
 |[],_,i,t,h=>by simp at h
 |x::r,h,i,t,c=>by
  intro k b;have g:allDiff r=true:=by cases x<;>simp_all [allDiff]
  have hm:∀j,r.getD j none=some t->x=some t->False:=by
   intro j a e;subst e;simp only [allDiff,Eb,PW]at h;have m:r.contains (some t)=true:=by
    rw [Qi]at a
    cases d:r[j]? with
    |none=>rw [d]at a;cases a
    |some v=>
     rw [d]at a;have f:v=some t:=a;subst f;exact List.contains_iff_mem.2 (Tf d)
   rw [m]at h;cases h.1
  cases i with
  |zero=>
   cases k with
   |zero=>rfl
   |succ k=>exact(hm k b c).elim
  |succ i=>
   cases k with
   |zero=>exact(hm i c b).elim
   |succ k=>rw [iE r g i t c k b]
theorem jX:∀{l:List (Option Nat)}{t:Nat},l.contains (some t)=false->∀k,l.getD k none=some t->False:=by
 intro l t h k a;rw [Qi]at a
 cases b:l[k]? with
 |none=>rw [b]at a;cases a
 |some v=>
  rw [b]at a;have c:v=some t:=a;subst c;rw [List.contains_iff_mem.2 (Tf b)]at h;cases h
def kb(n:Int):Bool:=decide (97<=n/\n<=122)||decide (48<=n/\n<=57)||decide (n=58)
theorem abk{n:Int}(h:(97<=n/\n<=122)\/(48<=n/\n<=57)\/n=58):kb n=true:=by
 unfold kb;rcases h with h|h|h<;>simp [h]
theorem YO{n:Int}(h:¬((97<=n/\n<=122)\/(48<=n/\n<=57)\/n=58)):kb n=false:=by
 unfold kb;rw [Fb (by omega),Fb (by omega),Fb (by omega)];rfl
theorem afA(n:Int):kb n=decide ((97<=n/\n<=122)\/(48<=n/\n<=57)\/n=58):=by
 by_cases h:(97<=n/\n<=122)\/(48<=n/\n<=57)\/n=58
 ·rw [abk h,zx h]
 ·rw [YO h,Fb h]
def Uk(l:List UInt8):Bool:=l.all fun c=>kb (c.toNat:Int)
def qE(s:ByteArray):Bool:=decide (1<=s.size/\s.size<=8)&&Uk s.data.toList
theorem YN(l:List UInt8)(c:UInt8):Uk (l++ [c])=(Uk l&&kb (c.toNat:Int)):=by
 simp [Uk,aad]
theorem xP(s:ByteArray)(k:Nat)(h:k<s.size):s.data.toList.take (k+1)=s.data.toList.take k++ [s[k]]:=by
 rw [List.take_succ_eq_append_getElem (by simpa using h)];rfl
theorem sJ(s:ByteArray)(k:Nat)(h:k<s.size):Uk (s.data.toList.take (k+1))=(Uk (s.data.toList.take k)&&kb (s[k].toNat:Int)):=by
 rw [xP s k h,YN]
theorem LG(s:ByteArray)(k:Nat)(h:k<s.size)(a:kb (s[k].toNat:Int)=false):Uk s.data.toList=false:=by
 rw [<-List.take_append_drop (k+1) s.data.toList];unfold Uk;rw [aad];have:=sJ s k h;unfold Uk at this;rw [this,a];simp
theorem zn(s:ByteArray)(k:Nat)(h:k<s.size)(a:kb (s[k].toNat:Int)=false):qE s=false:=by
 unfold qE;rw [LG s k h a];simp
theorem qC(s:ByteArray)(h:s.size<1\/8<s.size):qE s=false:=by
 unfold qE;rw [Fb (by omega)];simp
theorem Et(s:ByteArray)(h:Uk (s.data.toList.take s.size)=true):qE s=decide (1<=s.size/\s.size<=8):=by
 unfold qE;rw [List.take_of_length_le (by simp)]at h;rw [h];simp
end Pl
open Go.RowKit
set_option maxRecDepth 20000
theorem ae{p:Prop}(h:p):Hid p:=h
theorem bf{a b:Bool}(h:a=b):Wq (.bool a)= .returned (.bool b):=by rw [h]
theorem aF{k:IntKind}{a b:Int}(h:a=b):Wq (.int k a)= .returned (.int k b):=by rw [h]
theorem uy{W a:oC}(c:GM W.heap.size W a):(∀b o,b<W.heap.size->a.cell? ⟨b,o,none⟩=W.cell? ⟨b,o,none⟩)/\(∀b o,b<W.heap.size->a.frozen? ⟨b,o,none⟩=W.frozen? ⟨b,o,none⟩):=
 ⟨fun b o h=>c.cell (p:=⟨b,o,none⟩) h,fun b o h=>c.frozen (p:=⟨b,o,none⟩) h⟩
theorem bD(b off k:Nat):Addr.add ⟨b,off,none⟩ k=⟨b,off+k,none⟩:=by
 unfold Addr.add;split<;>simp_all
theorem o8(c:UInt8):(c.toNat:Int)<=255:=by have:=c.toNat_lt;omega
theorem zo(n:Int)(w:oC)(h0:0<=n)(a:n<=255):
  SN xx 138 #[.int .u8 n] w fun e w'=>e= .returned (.bool (Pl.kb n))/\w'=w:=by
 by_cases a1:97<=n
 all_goals by_cases a2:n<=122
 all_goals by_cases a3:48<=n
 all_goals by_cases a4:n<=57
 all_goals by_cases a5:n=58
 all_goals first|(exfalso;omega)|skip
 all_goals
  go_enter Tryz.func138,Tryz.ntmps138;go_wp2;go_ret;exact⟨bf (by unfold Pl.kb;rw [rU];simp<;>omega),rfl⟩
theorem dZ(n a b:Int)(w:oC):
  SN xx 73 #[.int .i64 n,.int .i64 a,.int .i64 b] w fun e w'=>e= .returned (.bool (decide (a<=n/\n<=b)))/\w'=w:=by
 by_cases a1:a<=n
 all_goals by_cases a2:n<=b
 all_goals
  go_enter Tryz.func73,Tryz.ntmps73;go_wp2;go_ret;exact⟨bf (by rw [rU];simp;omega),rfl⟩
theorem kW(n a b:Int)(w:oC)(h:a<=n/\n<=b):
  SN xx 73 #[.int .i64 n,.int .i64 a,.int .i64 b] w fun e w'=>e= .returned (.bool true)/\w'=w:=by
 have:=dZ n a b w;rwa [zx h]at this
theorem UL(n a b:Int)(w:oC)(h:n<a\/b<n):
  SN xx 73 #[.int .i64 n,.int .i64 a,.int .i64 b] w fun e w'=>e= .returned (.bool false)/\w'=w:=by
 have:=dZ n a b w;rwa [Fb (by omega)]at this
theorem aZ(n:Int)(w:oC):
  SN xx 72 #[.int .i64 n] w fun e w'=>e= .returned (.bool (decide (0<=n/\n<=11)))/\w'=w:=by
 by_cases a1:0<=n
 all_goals by_cases a2:n<12
 all_goals
  go_enter Tryz.func72,Tryz.ntmps72;go_wp2;go_ret;exact⟨bf (by rw [rU];simp;omega),rfl⟩
theorem nG(s:ByteArray)(w:oC)(f:s.size<=Jj):
  SN xx 87 #[.string s] w fun e w'=>e= .returned (.bool (qE s))/\w'=w:=by
 unfold Jj at f;by_cases j:s.size<1
 ·go_enter Tryz.func87,Tryz.ntmps87;go_wp2;go_ret;exact⟨bf (qC s (by omega)).symm,rfl⟩
 by_cases h:8<s.size
 ·go_enter Tryz.func87,Tryz.ntmps87;go_wp2;go_ret;exact⟨bf (qC s (by omega)).symm,rfl⟩
 go_enter Tryz.func87,Tryz.ntmps87;go_wp2;go_loop [14] (fun i=>∃k:Nat,k<=s.size/\i= .int .i64 k/\Hid (Uk (s.data.toList.take k)=true)) (fun i=>s.size-(Z5 i).toNat)
 case atStart=>exact⟨0,Tn _,rfl,rfl⟩
 case round=>
  obtain⟨k,g,rfl,d⟩:=hrel;by_cases a:k<s.size
  ·cases c:Pl.kb (s[k].toNat:Int)
   ·have b:Hid (Pl.kb (s[k].toNat:Int)=false):=c;clear c;go_wp2_with (go_at_call 138;refine(zo _ _ (by omega) (o8 _)).mono ?_;rw [b.out];rintro e w' ⟨rfl,rfl⟩);go_ret;exact⟨bf (zn s k a b.out).symm,rfl⟩
   ·have b:Hid (Pl.kb (s[k].toNat:Int)=true):=c;clear c;go_wp2_with (go_at_call 138;refine(zo _ _ (by omega) (o8 _)).mono ?_;rw [b.out];rintro e w' ⟨rfl,rfl⟩);go_round
    case rel=>exact⟨k+1,by omega,by go_num,by show _=_;rw [sJ s k a,d.out,b.out];rfl⟩
    case measure=>simp [Z5];omega
  ·obtain rfl:k=s.size:=by omega
   go_wp2;go_ret;exact⟨bf (by rw [Et s d.out];simp;omega),rfl⟩
theorem gZ(s:ByteArray)(w:oC)(g:s.size<=Jj):
  SN xx 132 #[.string s] w fun e w'=>e= .returned (.bool (qE s))/\w'=w:=by
 unfold Jj at g;go_enter Tryz.func132,Tryz.ntmps132;go_wp2;go_loop [3] (fun i=>∃k:Nat,k<=s.size/\i= .int .i64 k/\Hid (Uk (s.data.toList.take k)=true)) (fun i=>s.size-(Z5 i).toNat)
 case atStart=>exact⟨0,Tn _,rfl,rfl⟩
 case round=>
  obtain⟨k,l,rfl,c⟩:=hrel;by_cases a:k<s.size
  ·have h:=o8 s[k];have H1:=sJ s k a;have f:=zn s k a;have b:Hid ((Uk (s.data.toList.take (k+1))=(Uk (s.data.toList.take k)&&Pl.kb (s[k].toNat:Int)))/\(Pl.kb (s[k].toNat:Int)=false->qE s=false)):=⟨H1,f⟩
   clear H1 f;by_cases a1:97<=(s[k].toNat:Int)/\(s[k].toNat:Int)<=122
   all_goals by_cases a2:48<=(s[k].toNat:Int)/\(s[k].toNat:Int)<=57
   all_goals by_cases a3:(s[k].toNat:Int)=58
   all_goals first|(exfalso;omega)|skip
   all_goals (have d:Hid (Pl.kb (s[k].toNat:Int)=decide ((97<=(s[k].toNat:Int)/\(s[k].toNat:Int)<=122)\/(48<=(s[k].toNat:Int)/\(s[k].toNat:Int)<=57)\/(s[k].toNat:Int)=58)):=afA _)
   all_goals (have j:((s[k].toNat:Int) != 58)=decide (¬(s[k].toNat:Int)=58):=by rw [rU];simp)
   all_goals
    go_wp2_with (go_at_call 73;first|(refine(kW _ _ _ _ (by omega)).mono ?_;rintro e w' ⟨rfl,rfl⟩)|(refine(UL _ _ _ _ (by omega)).mono ?_;rintro e w' ⟨rfl,rfl⟩))
   all_goals first
    |(
           go_ret;exact⟨bf (b.out.2 (d.out.trans (Fb (by omega)))).symm,rfl⟩)
    |(
           go_round
           case rel=>exact⟨k+1,by omega,by go_num,by show _=_;rw [b.out.1,c.out,d.out,zx (by omega)];rfl⟩
           case measure=>simp [Z5];omega)
  ·obtain rfl:k=s.size:=by omega
   go_wp2_with (go_at_call 73;refine(dZ _ _ _ _).mono ?_;rintro e w' ⟨rfl,rfl⟩);go_ret;exact⟨bf (by rw [Et s c.out];rw [rU];simp;omega),rfl⟩
namespace Pl
theorem Ot:∀(x y:List UInt8),qh x y=true↔x<y
 | [],[]=>by simp [qh]
 | [],_::_=>by simp [qh]
 |_::_,[]=>by simp [qh]
 |a::x,b::y=>by
  simp only [qh];rw [List.cons_lt_cons_iff];by_cases h:a<b
  ·simp [h]
  ·by_cases e:a=b
   ·subst e;simp [Ot x y]
   ·simp [h,e]
def mr(a b:ByteArray):Bool:=qh a.toList b.toList
theorem Bq(a b:ByteArray):mr a b=true↔a.toList<b.toList:=by
 unfold mr;exact Ot _ _
theorem kN(a:ByteArray):mr a a=false:=by
 rw [MJ,Ne,Bq];exact List.lt_irrefl _
theorem Dz{a b:ByteArray}(h:mr a b=true):mr b a=false:=by
 rw [Bq]at h;rw [MJ,Ne,Bq];exact List.lt_asymm h
theorem Dx{a b c:ByteArray}(h:mr a b=true)(k:mr b c=true):mr a c=true:=by
 rw [Bq]at h k⊢;exact List.lt_trans h k
theorem toList_inj{a b:ByteArray}(h:a.toList=b.toList):a=b:=by
 rw [Rw,Rw]at h
 cases a;cases b;simp at h;simp [h]
theorem Dy{a b:ByteArray}(h:mr a b=false)(k:mr b a=false):a=b:=by
 rw [MJ,Ne,Bq]at h k;exact toList_inj (List.le_antisymm (List.not_lt.1 k) (List.not_lt.1 h))
theorem ZL(a b:ByteArray):(a.toList==b.toList)=decide (a=b):=by
 rw [rU];simp;exact⟨toList_inj,fun h=>h▸rfl⟩
theorem kT{a b:ByteArray}(h:¬a=b):(a.toList==b.toList)=false:=by rw [ZL];simp [h]
theorem ne_of_lt{a b:ByteArray}(h:mr a b=true):¬a=b:=fun e=>by rw [e,kN]at h;cases h
theorem tri(x y:ByteArray):(qh x.toList y.toList=true/\qh y.toList x.toList=false/\¬x=y)\/x=y\/(qh x.toList y.toList=false/\qh y.toList x.toList=true/\¬x=y):=by
 show(mr x y=true/\mr y x=false/\¬x=y)\/x=y\/(mr x y=false/\mr y x=true/\¬x=y)
 cases h:mr x y
 ·cases k:mr y x
  ·exact .inr (.inl (Dy h k))
  ·exact .inr (.inr ⟨rfl,rfl,fun e=>ne_of_lt k e.symm⟩)
 ·exact .inl ⟨rfl,Dz h,ne_of_lt h⟩
def lV(a b:Int):Int:=if a<b then-1 else if b<a then 1 else 0
def xu(x y:ByteArray):Int:=if mr x y then-1 else if mr y x then 1 else 0
def BR(v1 o1:Int)(x1:ByteArray)(v2 o2:Int)(x2:ByteArray):Int:=
 if lV v1 v2≠0 then lV v1 v2 else if lV o1 o2≠0 then lV o1 o2 else xu x1 x2
theorem abL{a b:Int}(h:a<b):lV a b= -1:=by simp [lV,h]
theorem abM{a b:Int}(h:b<a):lV a b=1:=by unfold lV;rw [ag (by omega),af h]
theorem abN(a:Int):lV a a=0:=by simp [lV]
theorem LW{a b:ByteArray}(h:qh a.toList b.toList=true):xu a b= -1:=by unfold xu;rw [af (show mr a b=true from h)]
theorem LX{a b:ByteArray}(h:qh b.toList a.toList=true):xu a b=1:=by unfold xu;rw [ag (by rw [Dz h];simp),af (show mr b a=true from h)]
theorem LY(a:ByteArray):xu a a=0:=by simp [xu,kN]
def vw(v1 o1:Int)(x1:ByteArray)(v2 o2:Int)(x2:ByteArray):Bool:=decide (BR v1 o1 x1 v2 o2 x2=1)
theorem J9(a b:Int):lV a b= -1\/lV a b=0\/lV a b=1:=by unfold lV;split<;>(try split)<;>simp
theorem Wu(a b:ByteArray):xu a b= -1\/xu a b=0\/xu a b=1:=by
 rcases tri a b with⟨h,_,_⟩|rfl|⟨_,h,_⟩
 ·rw [LW h];simp
 ·rw [LY];simp
 ·rw [LX h];simp
theorem Wv(v1 g:Int)(e:ByteArray)(v2 f:Int)(d:ByteArray):BR v1 g e v2 f d= -1\/BR v1 g e v2 f d=0\/BR v1 g e v2 f d=1:=by
 unfold BR;have j:=J9 v1 v2;have i:=J9 g f;have h:=Wu e d;generalize lV v1 v2=a at*;generalize lV g f=b at*;generalize xu e d=c at*;split
 ·exact j
 ·split
  ·exact i
  ·exact h
theorem abX(v1 d:Int)(b:ByteArray)(v2 c:Int)(a:ByteArray)(h:¬v1=v2):vw v1 d b v2 c a=decide (v2<v1):=by
 unfold vw BR lV;rcases Zf v1 v2 with k|k|k
 ·have:¬v2<v1:=by omega
  simp [k,this]
 ·exact absurd k h
 ·have:¬v1<v2:=by omega
  simp [k,this]
theorem abY(v b:Int)(d:ByteArray)(a:Int)(c:ByteArray)(h:¬b=a):vw v b d v a c=decide (a<b):=by
 unfold vw BR lV;rcases Zf b a with k|k|k
 ·have:¬a<b:=by omega
  simp [k,this]
 ·exact absurd k h
 ·have:¬b<a:=by omega
  simp [k,this]
theorem MB(v o:Int)(b:ByteArray)(a:ByteArray):vw v o b v o a=decide (xu b a=1):=by
 unfold vw BR lV;simp
structure aK where
 key:ByteArray
 gz:Int
 org:Int
 val:ByteArray
def aK.none:aK:=⟨⟨#[]⟩,0,0,⟨#[]⟩⟩
def eF(es:List aK)(i:Nat):aK:=es.getD i aK.none
theorem iK(e:aK)(es:List aK)(i:Nat):eF (e::es) (i+1)=eF es i:=by simp [eF]
theorem zu(e:aK)(es:List aK):eF (e::es) 0=e:=by simp [eF]
theorem oD(es:List aK)(i:Nat)(h:i<es.length):eF es i=es[i]:=by simp [eF,xk,h]
theorem lU(es:List aK)(i:Nat)(h:i<es.length):eF es i∈es:=by rw [oD es i h];exact Qd h
theorem xg(es:List aK)(i:Nat)(h:i<es.length):es.drop i=eF es i::es.drop (i+1):=by
 rw [oD es i h];exact List.drop_eq_getElem_cons h
def aK.ok(e:aK):Prop:=e.key.size<=Jj/\(Xh .i64 e.gz).wf=true/\(Xh .i64 e.org).wf=true/\e.val.size<=Jj
def uQ(k:ByteArray)(v o:Int)(x:ByteArray):Bool:=qE k&&decide (1<=v/\v<=1099511627776)&&decide (0<=o/\o<=11)&&decide (x.size<=120)
def aK.may(e:aK):Bool:=uQ e.key e.gz e.org e.val
theorem abG{k:ByteArray}{v o:Int}{x:ByteArray}(a:qE k=true):uQ k v o x=(decide (1<=v)&&decide (v<=1099511627776)&&decide (0<=o/\o<=11)&&decide ((x.size:Int)<=120)):=by
 unfold uQ;rw [a,rU];simp;omega
theorem abE{k:ByteArray}{v o:Int}{x:ByteArray}(a:qE k=true)(e:1<=v)(d:v<=1099511627776)(c:0<=o/\o<=11)(b:x.size<=120):uQ k v o x=true:=by
 simp [uQ,a,e,d,c,b]
theorem ad2{k:ByteArray}{v o:Int}{x:ByteArray}(a:qE k=false):uQ k v o x=false:=by simp [uQ,a]
def Bz(es:List aK)(i:Nat):Bool:=decide (0<i)&& !mr (eF es (i-1)).key (eF es i).key
theorem JP{es:List aK}{m:Nat}(h:qh (eF es (m+1)).key.toList (eF es m).key.toList=true\/((eF es (m+1)).key.toList==(eF es m).key.toList)=true):Bz es (m+1)=true:=by
 unfold Bz;simp only [aab,decide_true,VB,aaf,PW];rcases h with h|h
 ·exact Dz h
 ·rw [ZL]at h;rw [of_decide_eq_true h];exact kN _
theorem Gp{es:List aK}{m:Nat}(h:qh (eF es (m+1)).key.toList (eF es m).key.toList=false/\((eF es (m+1)).key.toList==(eF es m).key.toList)=false):Bz es (m+1)=false:=by
 unfold Bz;simp only [aab,decide_true,VB,aaf,Bool.not_eq_false'];obtain⟨b,a⟩:=h;rw [ZL]at a
 cases k:mr (eF es m).key (eF es (m+1)).key
 ·exact absurd (Dy b k) (of_decide_eq_false a)
 ·rfl
def faultN(es:List aK):Nat->Nat->Int
 |0,_=>0
 |n+1,i=>if(eF es i).may then(if Bz es i then 7 else faultN es n (i+1))else 4
def fault(es:List aK):Int:=if es.length<=60 then faultN es es.length 0 else 1
theorem Ha{es:List aK}(h:60<es.length):fault es=1:=by unfold fault;rw [ag (by omega)]
theorem zY{es:List aK}(h:es.length<=60):fault es=faultN es es.length 0:=by unfold fault;rw [af h]
theorem ED{es:List aK}{n i:Nat}(h:(eF es i).may=false):faultN es (n+1) i=4:=by simp [faultN,h]
theorem He{es:List aK}{n i:Nat}(h:(eF es i).may=true)(k:Bz es i=true):faultN es (n+1) i=7:=by simp [faultN,h,k]
theorem uj{es:List aK}{n i:Nat}(h:(eF es i).may=true)(k:Bz es i=false):faultN es (n+1) i=faultN es n (i+1):=by simp [faultN,h,k]
end Pl
def dN(w:oC)(b off:Nat)(es:List aK):Prop:=∀i,i<es.length->
 w.cell? ⟨b,off+i*4,none⟩=some (.string (eF es i).key)/\w.cell? ⟨b,off+i*4+1,none⟩=some (.int .i64 (eF es i).gz)/\
 w.cell? ⟨b,off+i*4+2,none⟩=some (.int .i64 (eF es i).org)/\w.cell? ⟨b,off+i*4+3,none⟩=some (.string (eF es i).val)
def bI(w:oC)(a:Option Addr)(len cap:Nat)(es:List aK):Prop:=
 es.length=len/\len<=cap/\cap<=Jj/\(∀e∈es,e.ok)/\(es= []\/∃b off,a=some ⟨b,off,none⟩/\b<w.heap.size/\dN w b off es)
theorem wS(k:ByteArray)(v o:Int)(x:ByteArray)(w:oC)(d:k.size<=Jj)(_hx:x.size<=Jj):
  SN xx 50 #[.agg #[.string k,.int .i64 v,.int .i64 o,.string x]] w
   fun e w'=>e= .returned (.bool (uQ k v o x))/\GM w.heap.size w w':=by
 unfold Jj at _hx;obtain⟨g,a⟩:=ai (qE k)
 cases g
 ·have b:Hid (uQ k v o x=false):=ad2 a.out;go_enter Tryz.func50,Tryz.ntmps50;go_wp2_with (go_at_call 87;refine(nG _ _ d).mono ?_;rw [a.out];rintro e w' ⟨rfl,rfl⟩);go_ret;exact⟨bf b.out.symm,(OI _ _).alloc (Ah _) _⟩
 ·obtain⟨c,f⟩:=ai (decide (0<=o/\o<=11));have b:Hid (uQ k v o x=(decide (1<=v)&&decide (v<=1099511627776)&&c&&decide ((x.size:Int)<=120))):=by
   show _=_;rw [abG a.out,f.out]
  by_cases i:1<=v
  all_goals by_cases h:v<=1099511627776
  all_goals first|(exfalso;omega)|skip
  all_goals cases c
  all_goals
   go_enter Tryz.func50,Tryz.ntmps50;go_wp2_with (first|(go_at_call 87;refine(nG _ _ d).mono ?_;rw [a.out];rintro e w' ⟨rfl,rfl⟩)|(go_at_call 72;refine(aZ _ _).mono ?_;rw [f.out];rintro e w' ⟨rfl,rfl⟩));go_ret;exact⟨bf (by rw [b.out,rU];simp<;>omega),(OI _ _).alloc (Ah _) _⟩
theorem dN.below{w w':oC}{b off:Nat}{es:List aK}(h:dN w b off es)(a:b<w.heap.size)(k:GM w.heap.size w w'):dN w' b off es:=by
 intro i c;obtain⟨c0,c1,c2,d⟩:=h i c;exact⟨(k.cell (p:=⟨b,_,none⟩) a).trans c0,(k.cell (p:=⟨b,_,none⟩) a).trans c1,(k.cell (p:=⟨b,_,none⟩) a).trans c2,(k.cell (p:=⟨b,_,none⟩) a).trans d⟩
theorem bI.below{w w':oC}{a:Option Addr}{len cap:Nat}{es:List aK}(h:bI w a len cap es)(k:GM w.heap.size w w'):bI w' a len cap es:=by
 obtain⟨j,i,g,f,c⟩:=h;refine⟨j,i,g,f,?_⟩;rcases c with c|⟨b,off,rfl,d,e⟩
 ·exact .inl c
 ·exact .inr ⟨b,off,rfl,LM d k.size,e.below d k⟩
theorem below_drewN{B:Nat}{a w:oC}(h:GM B a w)(n:Nat):GM B a (w.drewN n):=h.trans ⟨rfl,rfl,rfl,Ah _,fun _ _=>rfl⟩
theorem dS(a:Option Addr)(len cap:Nat)(es:List aK)(w:oC)(h:bI w a len cap es):
  SN xx 20 #[.slice a len cap] w fun e w'=>e= .returned (.int .i64 (Pl.fault es))/\GM w.heap.size w w':=by
 obtain⟨hl,hc,hm,u,g⟩:=h;unfold Jj at hm;by_cases F:60<len
 ·go_enter Tryz.func20,Tryz.ntmps20;go_wp2;go_ret;exact⟨aF (Ha (by omega)).symm,OI _ _⟩
 go_enter Tryz.func20,Tryz.ntmps20;go_wp2;go_loopw [10] (fun i wr=>∃k:Nat,k<=len/\i= .int .i64 k/\Hid (Pl.fault es=Pl.faultN es (len-k) k)/\GM w.heap.size w wr) (fun i _=>len-(Z5 i).toNat)
 case atStart=>exact⟨0,Tn _,rfl,by show _=_;rw [zY (by omega),hl];rfl,OI _ _⟩
 case round=>
  obtain⟨k,H,rfl,r,l⟩:=hrel;by_cases C:k<len
  ·obtain⟨b,off,rfl,x,B⟩:∃b off,a=some ⟨b,off,none⟩/\b<w.heap.size/\dN w b off es:=by
    rcases g with rfl|h
    ·simp at hl;omega
    ·exact h
   clear g;have q:=B.below x l;obtain⟨c0,c1,c2,J⟩:=q k (by omega);have y:=u _ (lU es k (by omega));obtain⟨d,_,_,o⟩:=y;have s:=l.size;obtain⟨mm,t⟩:=ai (uQ (eF es k).key (eF es k).gz (eF es k).org (eF es k).val);have f:Hid ((eF es k).may=mm):=t;obtain⟨n,A⟩:∃n,len-k=n+1:=⟨len-k-1,by omega⟩
   have p:Hid (len-k=n+1):=A;clear A
   cases mm
   ·go_wp2_with fail;refine(wS _ _ _ _ _ d o).mono ?_;rw [t.out];rintro e z ⟨rfl,c⟩;go_wp2_with fail;go_ret;exact⟨aF (by rw [r.out,p.out,ED f.out]),(l.alloc s _).trans (c.mono (by simp;omega))⟩
   ·rcases Pe k with j|j
    ·have I:decide (0<k)=false:=by simp;omega
     have G:Hid (k=0):=j;clear j;go_wp2_with fail;refine(wS _ _ _ _ _ d o).mono ?_;rw [t.out];rintro e z ⟨rfl,c⟩;go_wp2_with fail;go_quiet (fail);go_wp2;go_roundw
     case rel=>exact⟨k+1,by omega,by go_num,by show _=_;rw [r.out,p.out,uj f.out (by simp [Bz,G.out])];congr 1;have:=p.out;omega,below_drewN ((l.alloc s _).trans (c.mono (by simp;omega))) _⟩
     case measure=>simp [Z5];omega
    ·obtain⟨m,rfl⟩:∃m,k=m+1:=⟨k-1,by omega⟩
     obtain⟨d0,d1,d2,d3⟩:=q m (by omega);have E:b<wr.heap.size:=by omega
     go_wp2_with fail;refine(wS _ _ _ _ _ d o).mono ?_;rw [t.out];rintro e z ⟨rfl,c⟩;obtain⟨D,v⟩:=uy c;clear v;go_wp2_with fail;go_quiet (fail);go_wp2
     ·go_ret;exact⟨aF (by rw [r.out,p.out,He f.out (JP ‹_›)]),below_drewN ((l.alloc s _).trans (c.mono (by simp;omega))) _⟩
     ·go_roundw
      case rel=>exact⟨m+1+1,by omega,by go_num,by show _=_;rw [r.out,p.out,uj f.out (Gp ‹_›)];congr 1;have:=p.out;omega,below_drewN ((l.alloc s _).trans (c.mono (by simp;omega))) _⟩
      case measure=>simp [Z5];omega
  ·obtain rfl:k=len:=by omega
   go_wp2;go_ret;exact⟨aF (by rw [r.out];simp [Pl.faultN]),l⟩
open Go.ChangeShapes Go.WideShapes Go.ChangeAt Go.RowKit
theorem abP{W:oC}{x:Addr}{v:oP}(h:W.cell? x=some v):x.block<W.heap.size:=by
 rcases xn x.block W.heap.size with a|a
 ·exact a
 ·simp [aag,GX a]at h
theorem own:ownKnob Tryz.prog.godebug=none:=by kernel_rfl
theorem laidOut:laidOutB xx=true:=by kernel_rfl
namespace Pl
def pr(ps:List (Int×Int))(i:Nat):Int×Int:=ps.getD i (0,0)
theorem jI(ps:List (Int×Int))(i:Nat)(h:i<ps.length):pr ps i=ps[i]:=by simp [pr,xk,h]
theorem uJ(ps:List (Int×Int))(i:Nat)(h:i<ps.length):pr ps i∈ps:=by rw [jI ps i h];exact Qd h
theorem tK(ps a:List (Int×Int))(i:Nat)(h:i<ps.length):pr (ps++a) i=pr ps i:=by
 rw [jI ps i h,jI _ i (by simp;omega),List.getElem_append_left h]
theorem Vr(ps:List (Int×Int))(p:Int×Int):pr (ps++ [p]) ps.length=p:=by
 rw [jI _ _ (by simp)];simp
def dJ(p:Int×Int):Prop:=(Xh .i64 p.1).wf=true/\(Xh .i64 p.2).wf=true
def lJ(n c:Int):Bool:=decide (0<=n/\n<=11)&&decide (1<=c/\c<=1000)
def adjN(ps:List (Int×Int)):Nat->Nat->Int
 |0,_=>0
 |n+1,i=>if lJ (pr ps i).1 (pr ps i).2 then(if 0<i/\(pr ps i).1<=(pr ps (i-1)).1 then 7 else adjN ps n (i+1))else 2
def qU(ps:List (Int×Int)):Int:=adjN ps ps.length 0
theorem Ii{ps:List (Int×Int)}{n i:Nat}(h:lJ (pr ps i).1 (pr ps i).2=false):adjN ps (n+1) i=2:=by simp [adjN,h]
theorem Pq{ps:List (Int×Int)}{n m:Nat}(h:lJ (pr ps (m+1)).1 (pr ps (m+1)).2=true)(k:(pr ps (m+1)).1<=(pr ps m).1):adjN ps (n+1) (m+1)=7:=by simp [adjN,h,k]
theorem Ij{ps:List (Int×Int)}{n:Nat}(h:lJ (pr ps 0).1 (pr ps 0).2=true):adjN ps (n+1) 0=adjN ps n 1:=by simp [adjN,h]
theorem UH{ps:List (Int×Int)}{n m:Nat}(h:lJ (pr ps (m+1)).1 (pr ps (m+1)).2=true)(k:¬(pr ps (m+1)).1<=(pr ps m).1):adjN ps (n+1) (m+1)=adjN ps n (m+1+1):=by
 simp [adjN,h];omega
end Pl
def eP(w:oC)(b off:Nat)(ps:List (Int×Int)):Prop:=∀i,i<ps.length->
 w.cell? ⟨b,off+i*2,none⟩=some (.int .i64 (Pl.pr ps i).1)/\w.cell? ⟨b,off+i*2+1,none⟩=some (.int .i64 (Pl.pr ps i).2)
def di(w:oC)(a:Option Addr)(len cap:Nat)(ps:List (Int×Int)):Prop:=
 ps.length=len/\len<=cap/\cap<=Jj/\(∀p∈ps,dJ p)/\(ps= []\/∃b off,a=some ⟨b,off,none⟩/\b<w.heap.size/\eP w b off ps)
theorem eP.below{w w':oC}{b off:Nat}{ps:List (Int×Int)}(h:eP w b off ps)(a:b<w.heap.size)(k:GM w.heap.size w w'):eP w' b off ps:=by
 intro i c;obtain⟨c0,c1⟩:=h i c;exact⟨(k.cell (p:=⟨b,_,none⟩) a).trans c0,(k.cell (p:=⟨b,_,none⟩) a).trans c1⟩
theorem di.below{w w':oC}{a:Option Addr}{len cap:Nat}{ps:List (Int×Int)}(h:di w a len cap ps)(k:GM w.heap.size w w'):di w' a len cap ps:=by
 obtain⟨j,i,g,f,c⟩:=h;refine⟨j,i,g,f,?_⟩;rcases c with c|⟨b,off,rfl,d,e⟩
 ·exact .inl c
 ·exact .inr ⟨b,off,rfl,LM d k.size,e.below d k⟩
theorem aO{B:Nat}{a w:oC}(h:GM B a w)(n:Nat):GM B a (w.drewN n):=h.trans ⟨rfl,rfl,rfl,Ah _,fun _ _=>rfl⟩
theorem vK{w w3:oC}{c0 c1:oP}{T:OE}(a:GM (w.heap.size+1) (w.alloc (.cells #[c0,c1] T)) w3):
  w3.cell? ⟨w.heap.size,0,none⟩=some c0/\w3.cell? ⟨w.heap.size,1,none⟩=some c1/\w.heap.size<w3.heap.size/\GM w.heap.size w w3:=by
 have b:=a.size;simp only [World.alloc,Array.size_push]at b;have h0:=a.cell (p:=⟨w.heap.size,0,none⟩) (by simp);have c:=a.cell (p:=⟨w.heap.size,1,none⟩) (by simp);refine⟨h0.trans ?_,c.trans ?_,by omega,((OI _ _).alloc (Ah _) _).trans (a.mono (by omega))⟩
 all_goals simp
open Go.ChangeShapes Go.WideShapes Go.ChangeAt Go.RowKit
theorem Ld{H:Type}{enc:OE×oP->H}{w:oC}{base:Nat}{spare:Nat->Bool}{held:Bool}{n:Nat}{cs:List oP}{x:DataW H×List MemPlace}{a:OE}{f0 f1:Field}
  (g:Tryz.prog.underlying a=some (.struct #[f0,f1]))(hc:Tryz.prog.cellsOf a=2)(t0:f0.type=3)(f:f0.offset=0)(t1:f1.type=3)(e:f1.offset=1)
  (h:DataW.trod enc xx w base spare held n a cs=some x):∃p:Int×Int,cs= [.int .i64 p.1,.int .i64 p.2]/\dJ p:=by
 obtain⟨xs,m,_,rfl,hl,hlen,b⟩:=DataW.trod_struct g h;rw [hc]at hl;match cs,hl,xs,hlen with
 | [c0,c1],_,[k,j],_=>
  have i:Tryz.prog.cellsOf 3=1:=by kernel_rfl
  have h0:=b 0 f0 rfl;have c:=b 1 f1 rfl;simp only [t0,t1,f,e,i]at h0 c;obtain⟨d,a0,_,b0⟩:=aae WZ (by simpa using h0);obtain⟨s1,a1,_,b1⟩:=aae WZ (by simpa using c);simp at a0 a1;subst a0 a1;exact⟨(d,s1),rfl,b0,b1⟩
namespace Pl
def span(b:Int):Int:=((256/2^b.toNat:Nat):Int)
def inP(p:Int×Int):Bool:=decide (0<=p.2/\p.2<=8)&&decide (0<=p.1/\p.1<=255)
def iH(p:Int×Int):Int:=if inP p then(if p.1%span p.2=0 then 0 else 4)else 2
def oz(p q:Int×Int):Bool:=decide (10*q.1+q.2<=10*p.1+p.2)
def pfxN(ps:List (Int×Int)):Nat->Nat->Int
 |0,_=>0
 |n+1,i=>if iH (pr ps i)=0 then(if 0<i/\oz (pr ps (i-1)) (pr ps i)=true then 7 else pfxN ps n (i+1))else iH (pr ps i)
def fM(ps:List (Int×Int)):Int:=if ps.length<=6 then pfxN ps ps.length 0 else 1
theorem Dp{ps:List (Int×Int)}(h:6<ps.length):fM ps=1:=by unfold fM;rw [ag (by omega)]
theorem xY{ps:List (Int×Int)}(h:ps.length<=6):fM ps=pfxN ps ps.length 0:=by unfold fM;rw [af h]
theorem Bd{ps:List (Int×Int)}{n i:Nat}(h:iH (pr ps i)≠0):pfxN ps (n+1) i=iH (pr ps i):=by simp [pfxN,h]
theorem zM{ps:List (Int×Int)}{n:Nat}(h:iH (pr ps 0)=0):pfxN ps (n+1) 0=pfxN ps n 1:=by simp [pfxN,h]
theorem F6{ps:List (Int×Int)}{n m:Nat}(h:iH (pr ps (m+1))=0)(k:oz (pr ps m) (pr ps (m+1))=true):pfxN ps (n+1) (m+1)=7:=by simp [pfxN,h,k]
theorem KX{ps:List (Int×Int)}{n m:Nat}(h:iH (pr ps (m+1))=0)(k:oz (pr ps m) (pr ps (m+1))=false):pfxN ps (n+1) (m+1)=pfxN ps n (m+1+1):=by simp [pfxN,h,k]
theorem gm{p:Int×Int}(h:iH p=0):(0<=p.2/\p.2<=8)/\(0<=p.1/\p.1<=255):=by
 unfold iH at h;split at h
 ·rename_i hh;unfold inP at hh;simp at hh;exact hh
 ·cases h
def Dq(p q:Int×Int):Int:=if lV p.1 q.1≠0 then lV p.1 q.1 else lV p.2 q.2
theorem Yg{p q:Int×Int}(hp:(0<=p.2/\p.2<=8)/\(0<=p.1/\p.1<=255))(a:(0<=q.2/\q.2<=8)/\(0<=q.1/\q.1<=255)):decide (0<=Dq p q)=oz p q:=by
 unfold Dq oz lV;rw [rU];simp only [ik];split<;>split<;>(try split)<;>(try split)<;>omega
theorem FM:span 0=256/\span 1=128/\span 2=64/\span 3=32/\span 4=16/\span 5=8/\span 6=4/\span 7=2/\span 8=1:=by decide
theorem Ic{b:Int}(h:0<=b/\b<=8):b=0\/b=1\/b=2\/b=3\/b=4\/b=5\/b=6\/b=7\/b=8:=by omega
structure Rt where
 p:Int×Int
 here:Bool
 cost:Int
 aH:List Int
def Rt.none:Rt:=⟨(0,0),false,0,[]⟩
def rt(rs:List Rt)(i:Nat):Rt:=rs.getD i Rt.none
theorem rt_eq(rs:List Rt)(i:Nat)(h:i<rs.length):rt rs i=rs[i]:=by simp [rt,xk,h]
theorem XZ(rs:List Rt)(i:Nat)(h:i<rs.length):rt rs i∈rs:=by rw [rt_eq rs i h];exact Qd h
theorem KR(e:Rt)(es:List Rt)(i:Nat):rt (e::es) (i+1)=rt es i:=by simp [rt]
def nm(l:List Int)(i:Nat):Int:=l.getD i 0
theorem vH(l:List Int)(i:Nat)(h:i<l.length):nm l i=l[i]:=by simp [nm,xk,h]
def mQ(l:List Int)(i:Nat):Bool:=decide (0<=nm l i/\nm l i<=11)&&(decide (i=0)||decide (nm l (i-1)<nm l i))
def fP(l:List Int):Bool:=(OO l.length).all (mQ l)
theorem Ey{l:List Int}{k:Nat}(a:k<l.length)(h:mQ l k=false):fP l=false:=by
 unfold fP;rw [List.all_eq_false];exact⟨k,List.mem_range.2 a,by simp [h]⟩
theorem zV{l:List Int}(h:∀k,k<l.length->mQ l k=true):fP l=true:=by
 unfold fP;rw [X6];intro k a;exact h k (List.mem_range.1 a)
theorem nS{l:List Int}(h:fP l=true)(k:Nat)(a:k<l.length):mQ l k=true:=by
 unfold fP at h;rw [X6]at h;exact h k (List.mem_range.2 a)
theorem uf(l:List Int):mQ l 0=decide (0<=nm l 0/\nm l 0<=11):=by simp [mQ]
theorem pU(l:List Int)(m:Nat):mQ l (m+1)=(decide (0<=nm l (m+1)/\nm l (m+1)<=11)&&decide (nm l m<nm l (m+1))):=by simp [mQ]
def dW(r:Rt):Bool:=decide (iH r.p=0)&&decide (0<=r.cost/\r.cost<=1048576)&&(if r.here then decide (r.cost=0)&&decide (r.aH= [])else decide (r.aH≠ []))&&fP r.aH
def dw(p q:Int×Int):Bool:=decide (p.1<q.1\/p.1=q.1/\p.2<q.2)
theorem qw{p q:Int×Int}:dw p q=true↔(p.1<q.1\/p.1=q.1/\p.2<q.2):=by simp [dw]
theorem FZ{p q:Int×Int}:dw p q=false↔(q.1<p.1\/q.1=p.1/\q.2<=p.2):=by
 rw [MJ,Ne,qw];omega
theorem kZ(p:Int×Int):dw p p=false:=by rw [FZ];omega
theorem F5{p q:Int×Int}(h:dw p q=true):dw q p=false:=by rw [qw]at h;rw [FZ];omega
theorem qp{p q r:Int×Int}(h:dw p q=true)(k:dw q r=true):dw p r=true:=by rw [qw]at h k⊢;omega
theorem QL{p q:Int×Int}(h:dw p q=false)(k:dw q p=false):p=q:=by
 rw [FZ]at h k;obtain⟨a,b⟩:=p;obtain⟨c,d⟩:=q;simp only [Prod.mk.injEq]at*;omega
theorem Bc{p q:Int×Int}(h:dw p q=true):¬p=q:=fun e=>by rw [e,kZ]at h;cases h
theorem KZ(p q:Int×Int):decide (0<=Dq p q)= !dw p q:=by
 unfold Dq lV dw;rw [rU];simp only [ik,PW,Ja];split<;>(try split)<;>(try split)<;>(try split)<;>omega
def Bv(rs:List Rt)(i:Nat):Bool:=decide (0<i)&& !dw (rt rs (i-1)).p (rt rs i).p
theorem DI(rs:List Rt):Bv rs 0=false:=by simp [Bv]
theorem yt(rs:List Rt)(m:Nat):Bv rs (m+1)= !dw (rt rs m).p (rt rs (m+1)).p:=by simp [Bv]
def tabN(rs:List Rt):Nat->Nat->Int
 |0,_=>0
 |n+1,i=>if dW (rt rs i)then(if Bv rs i then 7 else tabN rs n (i+1))else 4
def gB(rs:List Rt):Int:=if rs.length<=200 then tabN rs rs.length 0 else 1
theorem CV{rs:List Rt}(h:200<rs.length):gB rs=1:=by unfold gB;rw [ag (by omega)]
theorem CW{rs:List Rt}(h:rs.length<=200):gB rs=tabN rs rs.length 0:=by unfold gB;rw [af h]
theorem CU{rs:List Rt}{n i:Nat}(h:dW (rt rs i)=false):tabN rs (n+1) i=4:=by simp [tabN,h]
theorem Nu{rs:List Rt}{n i:Nat}(h:dW (rt rs i)=true)(k:Bv rs i=true):tabN rs (n+1) i=7:=by simp [tabN,h,k]
theorem AA{rs:List Rt}{n i:Nat}(h:dW (rt rs i)=true)(k:Bv rs i=false):tabN rs (n+1) i=tabN rs n (i+1):=by simp [tabN,h,k]
def xN(ps:List (Int×Int)):Prop:=∀i j,i<j->j<ps.length->dw (pr ps i) (pr ps j)=true
theorem qo(rs:List Rt)(i:Nat)(h:i<rs.length):pr (rs.map Rt.p) i=(rt rs i).p:=by
 rw [jI _ _ (by simpa using h),rt_eq rs i h];simp
theorem Jv(rs:List Rt):∀n i,tabN rs n i=0->∀j,i<=j->j<i+n->dW (rt rs j)=true/\Bv rs j=false
 |0,_,_,j,b,a=>by omega
 |n+1,i,h,j,b,a=>by
  simp only [tabN]at h
  cases hm:dW (rt rs i)
  ·simp [hm]at h
  ·cases hl:Bv rs i
   ·simp only [hm,hl]at h;rcases xn i j with k|k
    ·exact Jv rs n (i+1) (by simpa using h) j (by omega) (by omega)
    ·obtain rfl:j=i:=by omega
     exact⟨hm,hl⟩
   ·simp [hm,hl]at h
theorem iD{rs:List Rt}(h:gB rs=0):rs.length<=200/\(∀i,i<rs.length->dW (rt rs i)=true)/\xN (rs.map Rt.p):=by
 unfold gB at h;split at h
 ·rename_i hl;have c:=Jv rs rs.length 0 h;refine⟨hl,fun i g=>(c i (by omega) (by omega)).1,?_⟩;intro i j f d;simp only [aac]at d;rw [qo rs i (by omega),qo rs j d];induction j with
  |zero=>omega
  |succ m e=>
   have b:=(c (m+1) (by omega) (by omega)).2;have a:dw (rt rs m).p (rt rs (m+1)).p=true:=by
    rw [yt]at b;simpa using b
   rcases xn i m with k|k
   ·exact qp (e k (by omega)) a
   ·obtain rfl:i=m:=by omega
    exact a
 ·cases h
theorem AB(rs:List Rt)(h:∀j,j<rs.length->dW (rt rs j)=true/\Bv rs j=false):∀n i,i+n<=rs.length->tabN rs n i=0
 |0,_,_=>rfl
 |n+1,i,c=>by
  obtain⟨b,a⟩:=h i (by omega);rw [AA b a];exact AB rs h n (i+1) (by omega)
theorem KF{rs:List Rt}(hl:rs.length<=200)(hm:∀i,i<rs.length->dW (rt rs i)=true)(ha:xN (rs.map Rt.p)):gB rs=0:=by
 rw [CW hl];refine AB rs (fun j a=>⟨hm j a,?_⟩) _ _ (by omega);rcases Pe j with rfl|k
 ·exact DI _
 ·obtain⟨m,rfl⟩:∃m,j=m+1:=⟨j-1,by omega⟩
  rw [yt];have:=ha m (m+1) (by omega) (by simpa using a);rw [qo rs m (by omega),qo rs (m+1) a]at this;rw [this];rfl
def posP:List (Int×Int)->Int×Int->Nat
 | [],_=>0
 |e::r,p=>if dw e p then posP r p+1 else 0
theorem lN(e:Int×Int)(es:List (Int×Int))(i:Nat):pr (e::es) (i+1)=pr es i:=by simp [pr]
theorem Ba:∀(ps:List (Int×Int)) (p:Int×Int),posP ps p<=ps.length
 | [],_=>Ah _
 |e::r,p=>by
  simp only [posP,OG];have:=Ba r p;split<;>omega
theorem TW:∀(ps:List (Int×Int)) (p:Int×Int) (i:Nat),i<posP ps p->dw (pr ps i) p=true
 | [],_,i,h=>by simp [posP]at h
 |e::r,p,i,h=>by
  simp only [posP]at h;split at h
  ·rename_i he
   cases i with
   |zero=>simpa [pr]using he
   |succ i=>rw [lN];exact TW r p i (by omega)
  ·omega
theorem TY:∀(ps:List (Int×Int)) (p:Int×Int),posP ps p<ps.length->dw (pr ps (posP ps p)) p=false
 | [],_,h=>by simp at h
 |e::r,p,h=>by
  cases he:dw e p
  ·simp [posP,he,pr]
  ·simp only [posP,he,if_true]at h⊢;rw [lN];exact TY r p (by simpa using h)
theorem TV{ps:List (Int×Int)}{p:Int×Int}{i:Nat}(e:i<=ps.length)(d:∀t,t<i->dw (pr ps t) p=true)(c:i<ps.length->dw (pr ps i) p=false):posP ps p=i:=by
 rcases Xc (posP ps p) i with k|k|k
 ·have a:=d _ k;rw [TY ps p (by omega)]at a;cases a
 ·exact k
 ·have a:=TW ps p i k;have b:=Ba ps p;rw [c (by omega)]at a;cases a
def bu(ps:List (Int×Int))(p:Int×Int):Bool:=decide (posP ps p<ps.length)&&decide (pr ps (posP ps p)=p)
theorem jQ{ps:List (Int×Int)}{p:Int×Int}(h:bu ps p=true):posP ps p<ps.length:=by
 unfold bu at h;simp only [Eb,ik]at h;exact h.1
theorem xO{ps:List (Int×Int)}{p:Int×Int}(h:bu ps p=true):pr ps (posP ps p)=p:=by
 unfold bu at h;simp only [Eb,ik]at h;exact h.2
theorem UF{ps:List (Int×Int)}(h:xN ps){p:Int×Int}{t m:Nat}(hm:m<ps.length)(a:t<=m)(k:dw (pr ps m) p=true):dw (pr ps t) p=true:=by
 rcases xn t m with q|q
 ·exact qp (h t m q hm) k
 ·obtain rfl:t=m:=by omega
  exact k
theorem abR{ps:List (Int×Int)}(h:xN ps){p:Int×Int}{t m:Nat}(a:t<ps.length)(hm:m<=t)(k:dw (pr ps m) p=false):dw (pr ps t) p=false:=by
 cases q:dw (pr ps t) p
 ·rfl
 ·rw [UF h a hm q]at k;cases k
theorem Qr{ps:List (Int×Int)}(h:xN ps){p:Int×Int}{i:Nat}(a:i<ps.length)(e:pr ps i=p):posP ps p=i/\bu ps p=true:=by
 have hp:posP ps p=i:=by
  refine TV (by omega) (fun u hu=> ?_) (fun _=>by rw [e];exact kZ _);have:=h u i hu a;rwa [e]at this
 refine⟨hp,?_⟩;unfold bu;rw [hp,e];simp [a]
end Pl
def Ir(w:oC)(b off:Nat)(zs:List Int):Prop:=∀i,i<zs.length->w.cell? ⟨b,off+i,none⟩=some (.int .i64 (Pl.nm zs i))
def fV(w:oC)(a:Option Addr)(len cap:Nat)(zs:List Int):Prop:=
 zs.length=len/\len<=cap/\cap<=Jj/\(a=none->cap=0)/\(zs= []\/∃b off,a=some ⟨b,off,none⟩/\b<w.heap.size/\Ir w b off zs)
theorem Ir.below{w w':oC}{b off:Nat}{a:List Int}(h:Ir w b off a)(d:b<w.heap.size)(k:GM w.heap.size w w'):Ir w' b off a:=
 fun i c=>(k.cell (p:=⟨b,_,none⟩) d).trans (h i c)
theorem fV.below{w w':oC}{a:Option Addr}{len cap:Nat}{d:List Int}(h:fV w a len cap d)(k:GM w.heap.size w w'):fV w' a len cap d:=by
 obtain⟨l,j,i,g,c⟩:=h;refine⟨l,j,i,g,?_⟩;rcases c with c|⟨b,off,rfl,e,f⟩
 ·exact .inl c
 ·exact .inr ⟨b,off,rfl,LM e k.size,f.below e k⟩
theorem fV.nil(w:oC):fV w none 0 0 []:=⟨rfl,Ah _,by simp,fun _=>rfl,.inl rfl⟩
structure Pl.RH where
 p:Int×Int
 here:Bool
 cost:Int
 ha:Option Addr
 hl:Nat
 hc:Nat
def Pl.RH.none:Pl.RH:=⟨(0,0),false,0,Option.none,0,0⟩
def Pl.rh(hs:List Pl.RH)(i:Nat):Pl.RH:=hs.getD i Pl.RH.none
theorem Pl.ru(a:List Pl.RH)(i:Nat)(h:i<a.length):Pl.rh a i=a[i]:=by simp [Pl.rh,xk,h]
theorem Pl.AZ(e:Pl.RH)(es:List Pl.RH)(i:Nat):Pl.rh (e::es) (i+1)=Pl.rh es i:=by simp [Pl.rh]
theorem Pl.AY(e:Pl.RH)(es:List Pl.RH):Pl.rh (e::es) 0=e:=by simp [Pl.rh]
def lX(w:oC)(b off:Nat)(hs:List Pl.RH):Prop:=∀i,i<hs.length->
 w.cell? ⟨b,off+i*5,none⟩=some (.int .i64 (Pl.rh hs i).p.1)/\w.cell? ⟨b,off+i*5+1,none⟩=some (.int .i64 (Pl.rh hs i).p.2)/\
 w.cell? ⟨b,off+i*5+2,none⟩=some (.bool (Pl.rh hs i).here)/\w.cell? ⟨b,off+i*5+3,none⟩=some (.int .i64 (Pl.rh hs i).cost)/\
 w.cell? ⟨b,off+i*5+4,none⟩=some (.slice (Pl.rh hs i).ha (Pl.rh hs i).hl (Pl.rh hs i).hc)
def jw(w:oC)(a:Option Addr)(len cap:Nat)(hs:List Pl.RH):Prop:=
 hs.length=len/\len<=cap/\cap<=Jj/\(a=none->cap=0)/\(hs= []\/∃b off,a=some ⟨b,off,none⟩/\b<w.heap.size/\lX w b off hs)
theorem lX.below{w w':oC}{b off:Nat}{c:List Pl.RH}(h:lX w b off c)(a:b<w.heap.size)(k:GM w.heap.size w w'):lX w' b off c:=by
 intro i d;obtain⟨c0,c1,c2,f,e⟩:=h i d;exact⟨(k.cell (p:=⟨b,_,none⟩) a).trans c0,(k.cell (p:=⟨b,_,none⟩) a).trans c1,(k.cell (p:=⟨b,_,none⟩) a).trans c2,(k.cell (p:=⟨b,_,none⟩) a).trans f,(k.cell (p:=⟨b,_,none⟩) a).trans e⟩
theorem jw.below{w w':oC}{a:Option Addr}{len cap:Nat}{d:List Pl.RH}(h:jw w a len cap d)(k:GM w.heap.size w w'):jw w' a len cap d:=by
 obtain⟨l,j,i,g,c⟩:=h;refine⟨l,j,i,g,?_⟩;rcases c with c|⟨b,off,rfl,e,f⟩
 ·exact .inl c
 ·exact .inr ⟨b,off,rfl,LM e k.size,f.below e k⟩
def Reads(w:oC)(h:Pl.RH)(r:Pl.Rt):Prop:=h.p=r.p/\h.here=r.here/\h.cost=r.cost/\fV w h.ha h.hl h.hc r.aH/\dJ r.p
theorem Reads.below{w w':oC}{h:Pl.RH}{r:Pl.Rt}(hh:Reads w h r)(k:GM w.heap.size w w'):Reads w' h r:=⟨hh.1,hh.2.1,hh.2.2.1,hh.2.2.2.1.below k,hh.2.2.2.2⟩
def ReadsAll(w:oC)(hs:List Pl.RH)(rs:List Pl.Rt):Prop:=hs.length=rs.length/\∀i,i<hs.length->Reads w (Pl.rh hs i) (Pl.rt rs i)
theorem ReadsAll.below{w w':oC}{a:List Pl.RH}{rs:List Pl.Rt}(h:ReadsAll w a rs)(k:GM w.heap.size w w'):ReadsAll w' a rs:=⟨h.1,fun i b=>(h.2 i b).below k⟩
theorem ReadsAll.qA{w:oC}{a:List Pl.RH}{rs:List Pl.Rt}(h:ReadsAll w a rs):a.map Pl.RH.p=rs.map Pl.Rt.p:=by
 refine List.ext_getElem (by simpa using h.1) fun i b c=> ?_;simp only [aac]at b c;have:=(h.2 i b).1;rw [ru a i b,Pl.rt_eq rs i c]at this;simpa using this
theorem jw.at{w:oC}{a:Option Addr}{len cap:Nat}{c:List Pl.RH}(h:jw w a len cap c){k:Nat}(f:k<len):∃b off,a=some ⟨b,off,none⟩/\b<w.heap.size/\lX w b off c:=by
 rcases h.2.2.2.2 with e|d
 ·have:=h.1;rw [e]at this;simp at this;omega
 ·exact d
theorem fV.at{w:oC}{a:Option Addr}{len cap:Nat}{c:List Int}(h:fV w a len cap c){k:Nat}(f:k<len):∃b off,a=some ⟨b,off,none⟩/\b<w.heap.size/\Ir w b off c:=by
 rcases h.2.2.2.2 with e|d
 ·have:=h.1;rw [e]at this;simp at this;omega
 ·exact d
def left(n:Nat)(listed:Array Bool):Nat:=(OO n).countP (fun j=> !listed.getD j true)
theorem YF{n i:Nat}{listed:Array Bool}(k:i<n)(h:listed.getD i true=false):left n (listed.setIfInBounds i true)+1<=left n listed:=by
 unfold left;have f:∀j,j≠i->(listed.setIfInBounds i true).getD j true=listed.getD j true:=fun j g=>BD true (SQ g);have c:(listed.setIfInBounds i true).getD i true=true:=by
  have b:i<listed.size:=by
   rcases xn i listed.size with d|d
   ·exact d
   ·simp [GX d]at h
  simp [b]
 have key:∀m,(OO m).countP (fun j=> !(listed.setIfInBounds i true).getD j true)+(if i<m then 1 else 0)=(OO m).countP (fun j=> !listed.getD j true):=by
  intro m;induction m with
  |zero=>simp
  |succ m a=>
   rw [List.range_succ,Uz,Uz,Rz,Rz];by_cases hm:m=i
   ·subst hm;rw [c,h];rw [ag (Nat.lt_irrefl _)]at a;simp at a⊢;exact a
   ·rw [f m hm];have e:(i<m+1)↔(i<m):=by omega
    simp only [e];omega
 have:=key n;rw [af k]at this;omega
theorem QG{md:IA}{ops:Array Oper}{listed:Array Bool}(h:left ops.size listed=0):BG md ops listed= []:=by
 rw [List.eq_nil_iff_forall_not_mem];intro j b;rw [mem_ready]at b;obtain⟨h0,o,c,_⟩:=b;have a:j<ops.size:=(Array.getElem?_eq_some_iff.1 c).1;unfold left at h;rw [List.countP_eq_zero]at h;have:=h j (List.mem_range.2 a);rw [h0]at this;simp at this
theorem Jp{P:UX}{md:IA}{ops:Array Oper}{Q:Exit->Jk->oC->Prop}(Inv:Array Bool->Jk->oC->Prop)
  (c:∀i listed a w,i∈BG md ops listed->Inv listed a w->wpOp P ops Q i (Inv (listed.setIfInBounds i true)) a w)
  (b:∀listed a w,BG md ops listed= []->Inv listed a w->Q .normal a w):
  ∀(fuel:Nat) (listed:Array Bool) (a:Jk) (w:oC),left ops.size listed<=fuel->Inv listed a w->wpAny P md ops Q fuel listed a w:=by
 intro fuel;induction fuel with
 |zero=>
  intro listed a w j e;have d:=QG (md:=md) (Nat.le_zero.1 j);exact⟨d,b _ _ _ d e⟩
 |succ fuel k=>
  intro listed a w j e;refine⟨fun d=>b _ _ _ d e,fun i g=> ?_⟩;have hm:=mem_ready.1 g;obtain⟨h0,o,l,_⟩:=hm;have f:i<ops.size:=(Array.getElem?_eq_some_iff.1 l).1;have hl:=YF f h0;exact wpOp_mono (fun m w' h=>k _ m w' (by omega) h) (c i listed a w g e)
theorem mX{md:IA}{ops:Array Oper}{listed:Array Bool}(c:(OO ops.size).all (fun i=>(ops[i]?.map (fun o=>o.after.all (fun e=>decide (e.on<i)))).getD true)=true)(j:listed.size=ops.size)(g:BG md ops listed= []):
  ∀i,i<ops.size->listed.getD i false=true:=by
 have h:∀(i:Nat) (o:Oper),ops[i]? =some o->∀e∈o.after,e.on<i:=by
  intro i o d e he;have a:i<ops.size:=(Array.getElem?_eq_some_iff.1 d).1;have:=List.all_eq_true.1 c i (List.mem_range.2 a);rw [d]at this;simp only [Option.map_some,Option.getD_some]at this;have:=Array.all_eq_true_iff_forall_mem.1 this e he;exact of_decide_eq_true this
 intro i;induction i using Nat.strongRecOn with
 |_ i f=>
  intro a
  cases hl:listed.getD i false with
  |true=>rfl
  |false=>
   exfalso;have hm:i∈BG md ops listed:=by
    rw [mem_ready];refine⟨?_,ops[i],Rq a,fun e he _=> ?_⟩
    ·have:i<listed.size:=by omega
     simp [this]at hl⊢;exact hl
    ·have b:=h i ops[i] (Rq a) e he;exact f e.on b (by omega)
   rw [g]at hm
   cases hm
def Ef(md:IA)(ops:Array Oper)(listed:Array Bool):Prop:=
 ∀(i:Nat) (o:Oper),ops[i]? =some o->listed.getD i false=true->∀e∈o.after,Region.binds md e=true->listed.getD e.on false=true
theorem JB{listed:Array Bool}{i k:Nat}(h:listed.getD k false=true):(listed.setIfInBounds i true).getD k false=true:=by
 by_cases e:i=k
 ·subst e;have:i<listed.size:=by
   rcases xn i listed.size with a|a
   ·exact a
   ·simp [GX a]at h
  simp [this]
 ·rw [BD false e];exact h
theorem O7{md:IA}{ops:Array Oper}{listed:Array Bool}{i:Nat}(k:i∈BG md ops listed)(h:Ef md ops listed):Ef md ops (listed.setIfInBounds i true):=by
 intro j o c d e he f;by_cases g:i=j
 ·subst g;obtain⟨_,l,a,b⟩:=mem_ready.1 k;rw [c]at a
  cases a;exact JB (b e he f)
 ·rw [BD false g]at d;exact JB (h j o c d e he f)
theorem bn(md:IA)(ops:Array Oper)(n:Nat):Ef md ops (xh n false):=by
 intro i o _ h;rw [show(xh n false).getD i false=false from by by_cases a:i<n<;>simp [a]]at h
 cases h
theorem cO{P:UX}{md:IA}{ops:Array Oper}{Q:Exit->Jk->oC->Prop}(Inv:Array Bool->Jk->oC->Prop)
  (b:∀i listed a w,i∈BG md ops listed->Ef md ops listed->Inv listed a w->wpOp P ops Q i (Inv (listed.setIfInBounds i true)) a w)
  (c:∀listed a w,BG md ops listed= []->Inv listed a w->Q .normal a w)
  (fuel:Nat)(listed:Array Bool)(a:Jk)(w:oC)(f:left ops.size listed<=fuel)(g:Inv listed a w)(hC:Ef md ops listed):wpAny P md ops Q fuel listed a w:=
 Jp (fun l a w=>Inv l a w/\Ef md ops l) (fun i l a w d h=>wpOp_mono (fun _ _ j=>⟨j,O7 d h.2⟩) (b i l a w d h.2 h.1)) (fun l a w e h=>c l a w e h.1) fuel listed a w f ⟨g,hC⟩
theorem au{P:UX}{ops:Array Oper}{Q:Exit->Jk->oC->Prop}{i:Nat}{o:Oper}{K:Jk->oC->Prop}{a:Jk}{w:oC}
  (h:ops[i]? =some o)(b:o.guard=none)(hw:o.wp P a w K Q):wpOp P ops Q i K a w:=by
 unfold wpOp;simp only [h];rw [af (by simp [Ee,b])];exact .inl hw
theorem jT{a:Jk}{n m:Nat}{v:oP}(h:m≠n):(a.put (some m) v).tmps[n]?.getD qL=a.tmps[n]?.getD qL:=by
 simp [Act.put,Iy h]
theorem eval_eq{a:Jk}{m:Nat}{v:oP}(h:m<a.tmps.size):(a.put (some m) v).tmps[m]?.getD qL=v:=by
 simp [Act.put,h]
def setFrom(t:Array oP)(s:Nat):List oP->Array oP
 | []=>t
 |x::r=>setFrom (t.setIfInBounds s x) (s+1) r
theorem oU:∀(xs:List oP) (t:Array oP) (s:Nat),(setFrom t s xs).size=t.size
 | [],_,_=>rfl
 |x::r,t,s=>by rw [setFrom,oU r];simp
theorem fH:∀(xs:List oP) (t:Array oP) (s k:Nat),(k<s\/s+xs.length<=k)->(setFrom t s xs)[k]? =t[k]?
 | [],_,_,_,_=>rfl
 |x::r,t,s,k,h=>by
  rw [setFrom,fH r _ (s+1) k (by simp at h;omega),Iy (by simp at h;omega)]
theorem gu:∀(xs:List oP) (t:Array oP) (s k:Nat),k<xs.length->s+k<t.size->(setFrom t s xs)[s+k]? =xs[k]?
 | [],_,_,_,h,_=>by simp at h
 |x::r,t,s,0,_,a=>by
  rw [setFrom,fH r _ (s+1) (s+0) (by omega)];simp at a;simp [a]
 |x::r,t,s,k+1,h,a=>by
  have:=gu r (t.setIfInBounds s x) (s+1) k (by simpa using h) (by simp;omega);rw [setFrom,show s+(k+1)=s+1+k by omega,this];simp
theorem AP:∀(xs:List oP) (t:Array oP) (s j:Nat) (v:oP),j<s->setFrom (t.setIfInBounds j v) s xs=(setFrom t s xs).setIfInBounds j v
 | [],_,_,_,_,_=>rfl
 |x::r,t,s,j,v,h=>by
  rw [setFrom,setFrom,Ru _ _ (by omega),AP r _ (s+1) j v (by omega)]
theorem iV:∀(xs:List oP) (t:Array oP) (s k:Nat) (v:oP),k<xs.length->(setFrom t s xs).setIfInBounds (s+k) v=setFrom t s (xs.set k v)
 | [],_,_,_,_,h=>by simp at h
 |x::r,t,s,0,v,_=>by
  rw [List.set_cons_zero,setFrom,setFrom,<-AP r _ (s+1) (s+0) v (by omega)];congr 1
  simp
 |x::r,t,s,k+1,v,h=>by
  rw [List.set_cons_succ,setFrom,setFrom,show s+(k+1)=s+1+k by omega,iV r _ (s+1) k v (by simpa using h)]
theorem lK:∀(n:Nat) (t:Array oP) (s:Nat),s+n<=t.size->∃xs:List oP,xs.length=n/\setFrom t s xs=t
 |0,t,_,_=>⟨[],rfl,rfl⟩
 |n+1,t,s,h=>by
  obtain⟨xs,b,a⟩:=lK n t (s+1) (by omega);refine⟨t[s]::xs,by simp [b],?_⟩;rw [setFrom];have:t.setIfInBounds s t[s]=t:=by
   apply Array.ext
   ·simp
   ·intro i b a;rw [Array.getElem_setIfInBounds];split
    ·rename_i e;subst e;rfl
    ·rfl
  rw [this,a]
structure ig(a0:Jk)(s n m:Nat)(off:Nat->Option Nat)(V:Nat->oP)(C:oC->Prop)(listed:Array Bool)(a:Jk)(w:oC):Prop where
 ls:listed.size=m
 fr:∃xs:List oP,xs.length=n/\a={a0 with tmps:=setFrom a0.tmps s xs}/\∀k j,off k=some j->listed.getD k false=true->xs.getD j qL=V j
 cw:C w
theorem ig.put{a0:Jk}{s n m:Nat}{off:Nat->Option Nat}{V:Nat->oP}{C:oC->Prop}{listed:Array Bool}{a:Jk}{w w':oC}{i j:Nat}{v:oP}
  (h:ig a0 s n m off V C listed a w)(f:off i=some j)(g:j<n)(d:v=V j)(hc:C w'):ig a0 s n m off V C (listed.setIfInBounds i true) (a.put (some (s+j)) v) w':=by
 subst d;obtain⟨xs,hl,rfl,l⟩:=h.fr;refine⟨by simp [h.ls],⟨xs.set j (V j),by simp [hl],?_,?_⟩,hc⟩
 ·show({a0 with tmps:=(setFrom a0.tmps s xs).setIfInBounds (s+j) (V j)}:Jk)=_;rw [iV xs a0.tmps s j (V j) (by omega)]
 ·intro k q c b;by_cases e:q=j
  ·subst e;simp [xk,hl,g]
  ·have o:i≠k:=by rintro rfl;rw [f]at c;cases c;exact e rfl
   rw [BD false o]at b;have:(xs.set j (V j)).getD q qL=xs.getD q qL:=by simp [xk,OM (SQ e)]
   rw [this];exact l k q c b
theorem ig.skip{a0:Jk}{s n m:Nat}{off:Nat->Option Nat}{V:Nat->oP}{C:oC->Prop}{listed:Array Bool}{a:Jk}{w w':oC}{i:Nat}
  (h:ig a0 s n m off V C listed a w)(d:off i=none)(hc:C w'):ig a0 s n m off V C (listed.setIfInBounds i true) a w':=by
 obtain⟨xs,hl,rfl,e⟩:=h.fr;refine⟨by simp [h.ls],⟨xs,hl,rfl,?_⟩,hc⟩;intro k q c b;have f:i≠k:=by rintro rfl;rw [d]at c;cases c
 rw [BD false f]at b;exact e k q c b
theorem ig.at{a0:Jk}{s n m:Nat}{off:Nat->Option Nat}{V:Nat->oP}{C:oC->Prop}{listed:Array Bool}{a:Jk}{w:oC}{k j:Nat}
  (h:ig a0 s n m off V C listed a w)(e:s+n<=a0.tmps.size)(c:off k=some j)(f:j<n)(hl:listed.getD k false=true):a.tmps[s+j]?.getD qL=V j:=by
 obtain⟨xs,b,rfl,d⟩:=h.fr;show(setFrom a0.tmps s xs)[s+j]?.getD qL=_;rw [gu xs a0.tmps s j (by omega) (by omega),<-d k j c hl];simp [xk]
theorem ig.out{a0:Jk}{s n m:Nat}{off:Nat->Option Nat}{V:Nat->oP}{C:oC->Prop}{listed:Array Bool}{a:Jk}{w:oC}{k:Nat}
  (h:ig a0 s n m off V C listed a w)(c:k<s\/s+n<=k):a.tmps[k]?.getD qL=a0.tmps[k]?.getD qL:=by
 obtain⟨xs,b,rfl,d⟩:=h.fr;show(setFrom a0.tmps s xs)[k]?.getD qL=_;rw [fH xs a0.tmps s k (by omega)]
theorem ig.start{a0:Jk}{s n m:Nat}{off:Nat->Option Nat}{V:Nat->oP}{C:oC->Prop}{w:oC}(d:s+n<=a0.tmps.size)(hc:C w):ig a0 s n m off V C (xh m false) a0 w:=by
 obtain⟨xs,b,a⟩:=lK n a0.tmps s d;refine⟨by simp,⟨xs,b,by rw [a],?_⟩,hc⟩;intro k j _ h;rw [show(xh m false).getD k false=false from by by_cases c:k<m<;>simp [c]]at h
 cases h
def cellsP:List (Int×Int)->List oP
 | []=> []
 |p::r=> .int .i64 p.1:: .int .i64 p.2::cellsP r
theorem gy:∀ps:List (Int×Int),(cellsP ps).length=ps.length*2
 | []=>rfl
 |p::r=>by simp [cellsP,gy r];omega
theorem jq:∀(a b:List (Int×Int)),cellsP (a++b)=cellsP a++cellsP b
 | [],_=>rfl
 |p::r,b=>by simp [cellsP,jq r b]
theorem Aa:∀ps:List (Int×Int),∀u∈cellsP ps,u.oneCell'=true
 | [],u,h=>by simp [cellsP]at h
 |p::r,u,h=>by
  simp only [cellsP,List.mem_cons]at h;rcases h with rfl|rfl|h
  ·rfl
  ·rfl
  ·exact Aa r u h
theorem uV:∀(ps:List (Int×Int)) (i:Nat),i<ps.length->(cellsP ps)[i*2]? =some (.int .i64 (Pl.pr ps i).1)/\(cellsP ps)[i*2+1]? =some (.int .i64 (Pl.pr ps i).2)
 | [],i,h=>by simp at h
 |p::r,0,_=>by simp [cellsP,Pl.pr]
 |p::r,i+1,h=>by
  have:=uV r i (by simpa using h);rw [show(i+1)*2=i*2+2 by omega];simpa [cellsP,Pl.pr]using this
theorem aG{w:oC}{g:Nat}{o:Obj}(h:w.heap[g]? =some o):g<w.heap.size:=by
 rcases xn g w.heap.size with a|a
 ·exact a
 ·rw [GX a]at h;cases h
def aU(T:OE)(w:oC)(base:Nat)(v:oP)(ps:List (Int×Int)):Prop:=w.ownsRow base T 2 v ps.length (cellsP ps)
theorem iI{w w':oC}{base:Nat}{e:OE}{sz:Nat}{v:oP}{n:Nat}{xs:List oP}(h:w.ownsRow base e sz v n xs)(k:GM w.heap.size w w'):w'.ownsRow base e sz v n xs:=by
 obtain⟨h0,a⟩:=h;refine⟨h0,?_⟩;rcases a with a|⟨g,cap,cur,rfl,c,hh,b⟩
 ·exact .inl a
 ·exact .inr ⟨g,cap,cur,rfl,c,(k.block g (aG hh)).trans hh,b⟩
theorem aU.below{T:OE}{w w':oC}{base:Nat}{v:oP}{ps:List (Int×Int)}(h:aU T w base v ps)(k:GM w.heap.size w w'):aU T w' base v ps:=iI h k
theorem aU.nil(T:OE)(w:oC)(base:Nat):aU T w base (.slice none 0 0) []:=World.ownsRow_nil _ _ _ _
theorem aU.mono{T:OE}{w:oC}{base a:Nat}{v:oP}{ps:List (Int×Int)}(h:aU T w base v ps)(k:a<=base):aU T w a v ps:=by
 obtain⟨h0,b⟩:=h;refine⟨h0,?_⟩;rcases b with b|⟨g,cap,cur,rfl,d,c⟩
 ·exact .inl b
 ·exact .inr ⟨g,cap,cur,rfl,by omega,c⟩
theorem aU.shape{T:OE}{w:oC}{base:Nat}{v:oP}{ps:List (Int×Int)}(h:aU T w base v ps)(c:∀p∈ps,dJ p):
  ∃a cap,v= .slice a ps.length cap/\di w a ps.length cap ps/\(a=none->cap=0)/\(∀x,a=some x->base<=x.block):=by
 obtain⟨_,h|⟨g,cap,cur,rfl,o,hh,f,hm,s,m⟩⟩:=h
 ·obtain⟨rfl,f⟩:=h;have l:ps= []:=List.length_eq_zero_iff.1 f;subst l;exact⟨none,0,rfl,⟨rfl,Ah _,by simp,c,.inl rfl⟩,fun _=>rfl,by simp⟩
 ·refine⟨some ⟨g,0,none⟩,cap,rfl,⟨rfl,f,hm,c,?_⟩,by simp,by rintro x ⟨⟩;exact o⟩;rcases ps with _|⟨e,r⟩
  ·exact .inl rfl
  ·right;refine⟨g,0,rfl,aG hh,?_⟩;have b:∀j u,(cellsP (e::r))[j]? =some u->w.cell? ⟨g,0+j,none⟩=some u:=by
    intro j u d;rw [<-m]at d;have k:cur[j]? =some u:=by
     rw [List.getElem?_take]at d;split at d
     ·rw [<-Array.getElem?_toList];exact d
     ·cases d
    simp [aag,hh,k]
   intro i n;obtain⟨h0,q⟩:=uV _ i n;have c0:=b _ _ h0;have c1:=b _ _ q;exact⟨c0,by rw [Nat.add_assoc];exact c1⟩
theorem aU.slice{T:OE}{w:oC}{base:Nat}{v:oP}{ps:List (Int×Int)}(h:aU T w base v ps):∃a n cap,v= .slice a n cap:=by
 obtain⟨_,h|⟨g,cap,cur,rfl,_⟩⟩:=h
 ·exact⟨_,_,_,h.1⟩
 ·exact⟨_,_,_,rfl⟩
theorem partsOf{t:OE}{z:oP}{n m:Nat}(h:(Tryz.prog.info? t).map (fun i=>(i.zero,i.size,i.bytes))=some (some z,n,m)):∃i,Tryz.prog.info? t=some i/\i.zero=some z/\i.size=n/\i.bytes=m:=by
 cases a:Tryz.prog.info? t with
 |none=>rw [a]at h;cases h
 |some i=>rw [a]at h;simp at h;exact⟨i,rfl,h.1,h.2.1,h.2.2⟩
theorem dM{tS c:OE}(E:Tryz.prog.underlying tS=some (.slice c))(F:(Tryz.prog.info? c).map (fun i=>(i.zero,i.size,i.bytes))=some (some (.agg #[.int .i64 0,.int .i64 0]),2,16))
  {w:oC}{ops:Array Oper}{rest:List Oper}{o:Oper}{a:Jk}{Q:Exit->Jk->oC->Prop}(t:o.guard=none)(s x:Operand)
  (B:o.op= .call {callee:= .builtin .append,args:=#[s,x],argTypes:=#[tS,tS]})
  (base:Nat)(v:oP)(ps:List (Int×Int))(p:Int×Int)(A:a.eval s=v)(b:aU c w base v ps)(f:base<=w.heap.size)(z:a.eval x= .slice (some ⟨w.heap.size,0,none⟩) 1 1)(D:(ps.length+1)*16<=140737488355328)
  (h:∀g w',aU c w' base g (ps++ [p])->GM base w w'->(w.alloc (.cells #[.int .i64 p.1,.int .i64 p.2] c)).grownBy w' v.ownBlock->wpList xx ops Q rest (a.put o.dst g) w'):
  wpList xx ops Q (o::rest) a (w.alloc (.cells #[.int .i64 p.1,.int .i64 p.2] c)):=by
 obtain⟨i0,r,n,m,l⟩:=partsOf F;refine wpList_append_own (w:=_) t s x tS B base c i0 _ 2 16 E r n m l rfl (by decide) _ ps.length (cellsP ps) A (aai b _) ⟨w.heap.size,0,none⟩ 1 1 [.int .i64 p.1,.int .i64 p.2] z rfl ?_ ?_ (by unfold Jj;omega) D (by simp;omega) ?_
 ·intro j u e;rw [bD];match j,e with
  |0,e=>simp at e;subst e;simp
  |1,e=>simp at e;subst e;simp
 ·intro u hu;simp at hu;rcases hu with rfl|rfl<;>rfl
 ·intro g w' d y _;have q:=aah b;refine h g w' ?_ (((OI _ _).alloc f _).grown y (by simp;omega) (fun k C=>(q k C).1)) y;unfold aU;rw [jq];simpa [cellsP]using d
structure kC(a0:Jk)(s n m:Nat)(off:Nat->Option Nat)(V:Nat->oP->oC->Prop)(C:oC->Prop)(listed:Array Bool)(a:Jk)(w:oC):Prop where
 ls:listed.size=m
 fr:∃xs:List oP,xs.length=n/\a={a0 with tmps:=setFrom a0.tmps s xs}/\∀k j,off k=some j->listed.getD k false=true->V j (xs.getD j qL) w
 cw:C w
theorem kC.put{a0:Jk}{s n m:Nat}{off:Nat->Option Nat}{V:Nat->oP->oC->Prop}{C:oC->Prop}{listed:Array Bool}{a:Jk}{w w':oC}{i j:Nat}{v:oP}
  (h:kC a0 s n m off V C listed a w)(g:off i=some j)(l:j<n)(c:∀q u,V q u w->V q u w')(f:V j v w')(hc:C w'):kC a0 s n m off V C (listed.setIfInBounds i true) (a.put (some (s+j)) v) w':=by
 obtain⟨xs,hl,rfl,o⟩:=h.fr;refine⟨by simp [h.ls],⟨xs.set j v,by simp [hl],?_,?_⟩,hc⟩
 ·show({a0 with tmps:=(setFrom a0.tmps s xs).setIfInBounds (s+j) v}:Jk)=_;rw [iV xs a0.tmps s j v (by omega)]
 ·intro k q d b;by_cases e:q=j
  ·subst e;have:(xs.set q v).getD q qL=v:=by simp [xk,hl,l]
   rw [this];exact f
  ·have p:i≠k:=by rintro rfl;rw [g]at d;cases d;exact e rfl
   rw [BD false p]at b;have:(xs.set j v).getD q qL=xs.getD q qL:=by simp [xk,OM (SQ e)]
   rw [this];exact c _ _ (o k q d b)
theorem kC.skip{a0:Jk}{s n m:Nat}{off:Nat->Option Nat}{V:Nat->oP->oC->Prop}{C:oC->Prop}{listed:Array Bool}{a:Jk}{w w':oC}{i:Nat}
  (h:kC a0 s n m off V C listed a w)(e:off i=none)(c:∀q u,V q u w->V q u w')(hc:C w'):kC a0 s n m off V C (listed.setIfInBounds i true) a w':=by
 obtain⟨xs,hl,rfl,f⟩:=h.fr;refine⟨by simp [h.ls],⟨xs,hl,rfl,?_⟩,hc⟩;intro k q d b;have g:i≠k:=by rintro rfl;rw [e]at d;cases d
 rw [BD false g]at b;exact c _ _ (f k q d b)
theorem kC.at{a0:Jk}{s n m:Nat}{off:Nat->Option Nat}{V:Nat->oP->oC->Prop}{C:oC->Prop}{listed:Array Bool}{a:Jk}{w:oC}{k j:Nat}
  (h:kC a0 s n m off V C listed a w)(e:s+n<=a0.tmps.size)(c:off k=some j)(f:j<n)(hl:listed.getD k false=true):V j (a.tmps[s+j]?.getD qL) w:=by
 obtain⟨xs,b,rfl,d⟩:=h.fr;show V j ((setFrom a0.tmps s xs)[s+j]?.getD qL) w;rw [gu xs a0.tmps s j (by omega) (by omega)];have:=d k j c hl;simpa [xk]using this
theorem kC.out{a0:Jk}{s n m:Nat}{off:Nat->Option Nat}{V:Nat->oP->oC->Prop}{C:oC->Prop}{listed:Array Bool}{a:Jk}{w:oC}{k:Nat}
  (h:kC a0 s n m off V C listed a w)(c:k<s\/s+n<=k):a.tmps[k]?.getD qL=a0.tmps[k]?.getD qL:=by
 obtain⟨xs,b,rfl,d⟩:=h.fr;show(setFrom a0.tmps s xs)[k]?.getD qL=_;rw [fH xs a0.tmps s k (by omega)]
theorem kC.start{a0:Jk}{s n m:Nat}{off:Nat->Option Nat}{V:Nat->oP->oC->Prop}{C:oC->Prop}{w:oC}(d:s+n<=a0.tmps.size)(hc:C w):kC a0 s n m off V C (xh m false) a0 w:=by
 obtain⟨xs,b,a⟩:=lK n a0.tmps s d;refine⟨by simp,⟨xs,b,by rw [a],?_⟩,hc⟩;intro k j _ h;rw [show(xh m false).getD k false=false from by by_cases c:k<m<;>simp [c]]at h
 cases h
theorem bZ{P:UX}{ops:Array Oper}{Q:Exit->Jk->oC->Prop}{i:Nat}{o:Oper}{K:Jk->oC->Prop}{a:Jk}{w:oC}
  (h:ops[i]? =some o)(c:Ee o (yielded ops a.tmps)=false)(b:K (a.put o.dst qL) w):wpOp P ops Q i K a w:=by
 unfold wpOp;simp only [h];rw [ag (by rw [c];exact O6)];exact b
theorem aJ{P:UX}{ops:Array Oper}{Q:Exit->Jk->oC->Prop}{i:Nat}{o:Oper}{K:Jk->oC->Prop}{a:Jk}{w:oC}
  (h:ops[i]? =some o)(b:Ee o (yielded ops a.tmps)=true)(hw:o.wp P a w K Q):wpOp P ops Q i K a w:=by
 unfold wpOp;simp only [h];rw [af b];exact .inl hw
theorem aB{ops:Array Oper}{tmps:Array oP}{o f:Oper}{g d:Nat}{b c:Bool}(h:o.guard=some (g,b))(i:ops[g]? =some f)(j:f.dst=some d)(a:tmps[d]?.getD qL= .bool c):Ee o (yielded ops tmps)=(c==b):=by
 have e:tmps[d]? =some (.bool c):=by
  cases e:tmps[d]? with
  |none=>rw [e]at a;cases a
  |some v=>rw [e]at a;exact congrArg some a
 unfold Ee yielded;simp [h,i,j,e]
theorem iy{ops:Array Oper}{tmps:Array oP}{o c:Oper}{g d:Nat}{b:Bool}(h:o.guard=some (g,b))(f:ops[g]? =some c)(i:c.dst=some d)(a:tmps[d]?.getD qL=qL):Ee o (yielded ops tmps)=false:=by
 unfold Ee yielded
 cases e:tmps[d]? with
 |none=>simp [h,f,i,e]
 |some v=>
  rw [e]at a;have a:v=qL:=a;subst a;simp [h,f,i,e,qL]
def sF:Code->Nat->Option (Array Oper)
 | .region i ops _,n=>if i=n then some ops else none
 | .seq a b,n=>match sF a n with
  |some x=>some x
  |none=>sF b n
 | .cond _ a b,n=>match sF a n with
  |some x=>some x
  |none=>sF b n
 | .block _ a,n=>sF a n
 | .loop a,n=>sF a n
 | .rangeFunc _ _ a b,n=>match sF a n with
  |some x=>some x
  |none=>sF b n
 | .scope a,n=>sF a n
 |_,_=>none
def dX(f:Func)(n:Nat):Option (Array Oper):=match f.body with
 |some c=>sF c n
 |none=>none
structure oQ(a0:Jk)(s n m t L:Nat)(off:Nat->Option Nat)(V:Nat->oP->oC->Prop)(Z:oP)(C:oC->Prop)(listed:Array Bool)(a:Jk)(w:oC):Prop where
 ls:listed.size=m
 fr:∃(z:oP) (xs:List oP),xs.length=n/\a={a0 with tmps:=setFrom (a0.tmps.setIfInBounds t z) s xs}/\(∀k j,off k=some j->listed.getD k false=true->V j (xs.getD j qL) w)/\(if listed.getD L false=true then z=Z else z=a0.tmps[t]?.getD qL)
 cw:C w
theorem oQ.put{a0:Jk}{s n m t L:Nat}{off:Nat->Option Nat}{V:Nat->oP->oC->Prop}{Z:oP}{C:oC->Prop}{listed:Array Bool}{a:Jk}{w w':oC}{i j:Nat}{v:oP}
  (h:oQ a0 s n m t L off V Z C listed a w)(o:off i=some j)(p:j<n)(f:i≠L)(c:∀q u,V q u w->V q u w')(l:V j v w')(hc:C w'):oQ a0 s n m t L off V Z C (listed.setIfInBounds i true) (a.put (some (s+j)) v) w':=by
 obtain⟨z,xs,hl,rfl,r,g⟩:=h.fr;refine⟨by simp [h.ls],⟨z,xs.set j v,by simp [hl],?_,?_,by rw [BD false f];exact g⟩,hc⟩
 ·show({a0 with tmps:=(setFrom (a0.tmps.setIfInBounds t z) s xs).setIfInBounds (s+j) v}:Jk)=_;rw [iV xs _ s j v (by omega)]
 ·intro k q d b;by_cases e:q=j
  ·subst e;have:(xs.set q v).getD q qL=v:=by simp [xk,hl,p]
   rw [this];exact l
  ·have x:i≠k:=by rintro rfl;rw [o]at d;cases d;exact e rfl
   rw [BD false x]at b;have:(xs.set j v).getD q qL=xs.getD q qL:=by simp [xk,OM (SQ e)]
   rw [this];exact c _ _ (r k q d b)
theorem NG(xs:List oP):∀(ts:Array oP) (s t:Nat) (v:oP),t<s->(setFrom ts s xs).setIfInBounds t v=setFrom (ts.setIfInBounds t v) s xs:=by
 induction xs with
 |nil=>intro ts s t v _;rfl
 |cons x r a=>
  intro ts s t v h;show(setFrom (ts.setIfInBounds s x) (s+1) r).setIfInBounds t v=setFrom ((ts.setIfInBounds t v).setIfInBounds s x) (s+1) r;rw [a _ _ _ _ (by omega),Ru _ _ (by omega)]
theorem oQ.last{a0:Jk}{s n m t L:Nat}{off:Nat->Option Nat}{V:Nat->oP->oC->Prop}{Z:oP}{C:oC->Prop}{listed:Array Bool}{a:Jk}{w:oC}
  (h:oQ a0 s n m t L off V Z C listed a w)(g:off L=none)(e:L<m)(c:t<s):oQ a0 s n m t L off V Z C (listed.setIfInBounds L true) (a.put (some t) Z) w:=by
 obtain⟨z,xs,hl,rfl,f,j⟩:=h.fr;refine⟨by simp [h.ls],⟨Z,xs,hl,?_,?_,?_⟩,h.cw⟩
 ·show({a0 with tmps:=(setFrom (a0.tmps.setIfInBounds t z) s xs).setIfInBounds t Z}:Jk)=_;rw [NG xs _ s t Z c];simp
 ·intro k q d b;have i:L≠k:=by rintro rfl;rw [g]at d;cases d
  rw [BD false i]at b;exact f k q d b
 ·have:L<listed.size:=by rw [h.ls];exact e
  simp [this]
theorem oQ.at{a0:Jk}{s n m t L:Nat}{off:Nat->Option Nat}{V:Nat->oP->oC->Prop}{Z:oP}{C:oC->Prop}{listed:Array Bool}{a:Jk}{w:oC}{k j:Nat}
  (h:oQ a0 s n m t L off V Z C listed a w)(e:s+n<=a0.tmps.size)(c:off k=some j)(f:j<n)(hl:listed.getD k false=true):V j (a.tmps[s+j]?.getD qL) w:=by
 obtain⟨z,xs,b,rfl,d,_⟩:=h.fr;show V j ((setFrom (a0.tmps.setIfInBounds t z) s xs)[s+j]?.getD qL) w;rw [gu xs _ s j (by omega) (by simp;omega)];have:=d k j c hl;simpa [xk]using this
theorem oQ.out{a0:Jk}{s n m t L:Nat}{off:Nat->Option Nat}{V:Nat->oP->oC->Prop}{Z:oP}{C:oC->Prop}{listed:Array Bool}{a:Jk}{w:oC}{k:Nat}
  (h:oQ a0 s n m t L off V Z C listed a w)(d:k<s\/s+n<=k)(b:k≠t):a.tmps[k]?.getD qL=a0.tmps[k]?.getD qL:=by
 obtain⟨z,xs,c,rfl,e,_⟩:=h.fr;show(setFrom (a0.tmps.setIfInBounds t z) s xs)[k]?.getD qL=_;rw [fH xs _ s k (by omega),Iy (SQ b)]
theorem oQ.ahQ{a0:Jk}{s n m t L:Nat}{off:Nat->Option Nat}{V:Nat->oP->oC->Prop}{Z:oP}{C:oC->Prop}{listed:Array Bool}{a:Jk}{w:oC}
  (h:oQ a0 s n m t L off V Z C listed a w)(e:t<s)(b:t<a0.tmps.size)(f:listed.getD L false=false):a.tmps[t]?.getD qL=a0.tmps[t]?.getD qL:=by
 obtain⟨z,xs,d,rfl,g,c⟩:=h.fr;rw [ag (by rw [f];exact O6)]at c;show(setFrom (a0.tmps.setIfInBounds t z) s xs)[t]?.getD qL=_;rw [fH xs _ s t (by omega)];simp [b,c]
theorem oQ.start{a0:Jk}{s n m t L:Nat}{off:Nat->Option Nat}{V:Nat->oP->oC->Prop}{Z:oP}{C:oC->Prop}{w:oC}(f:s+n<=a0.tmps.size)(hc:C w):oQ a0 s n m t L off V Z C (xh m false) a0 w:=by
 obtain⟨xs,c,b⟩:=lK n a0.tmps s f;have a:∀k,(xh m false).getD k false=false:=fun k=>by by_cases d:k<m<;>simp [d]
 refine⟨by simp,⟨a0.tmps[t]?.getD qL,xs,c,?_,?_,?_⟩,hc⟩
 ·have:a0.tmps.setIfInBounds t (a0.tmps[t]?.getD qL)=a0.tmps:=by
   apply Array.ext_getElem?;intro i;rw [Array.getElem?_setIfInBounds];split
   ·rename_i e;subst e;split
    ·rename_i h;simp [h]
    ·rename_i h;simp at h;simp [h]
   ·rfl
  rw [this,b]
 ·intro k j _ h;rw [a]at h
  cases h
 ·rw [a,ag O6]
def VV(T:OE)(base:Nat)(ps:List (Int×Int))(j0:Nat)(g:Bool)(VL:List oP)(j:Nat)(u:oP)(W:oC):Prop:=(j=j0->g=true->aU T W base u ps)/\((j=j0/\g=true)\/u=VL.getD j qL)
theorem VV.eq{T base ps a g b j u W}(h:VV T base ps a g b j u W)(c:j≠a):u=b.getD j qL:=by
 rcases h.2 with⟨e,_⟩|e
 ·exact absurd e c
 ·exact e
theorem VV.of{T base ps a g b j u W}(c:j≠a)(h:u=b.getD j qL):VV T base ps a g b j u W:=⟨fun e=>absurd e c,.inr h⟩
theorem VV.own{T base ps a g c u W}(b:g=true)(h:aU T W base u ps):VV T base ps a g c a u W:=⟨fun _ _=>h,.inl ⟨rfl,b⟩⟩
theorem VV.grow{T base ps a g c}{W b:oC}(d:GM W.heap.size W b):∀q u,VV T base ps a g c q u W->VV T base ps a g c q u b:=fun _ _ h=>⟨fun f e=>(h.1 f e).below d,h.2⟩
def spl:Nat->List oP->List oP->List oP
 |0,l,[]=>l
 |0,[],_::_=> []
 |0,_::l,x::xs=>x::spl 0 l xs
 |_+1,[],_=> []
 |n+1,v::l,xs=>v::spl n l xs
theorem TM:∀(s:Nat) (xs:List oP),spl s [] xs= []
 |0,[]=>rfl
 |0,_::_=>rfl
 |_+1,_=>rfl
theorem TL:∀(l:List oP) (s:Nat) (x:oP) (xs:List oP),spl (s+1) (l.set s x) xs=spl s l (x::xs)
 | [],s,x,xs=>by rw [List.set_nil,TM,TM]
 |v::l,0,x,xs=>by
  show spl 1 (x::l) xs=x::spl 0 l xs;rfl
 |v::l,s+1,x,xs=>by
  show v::spl (s+1) (l.set s x) xs=v::spl s l (x::xs);rw [TL l s x xs]
theorem NC:∀(s:Nat) (l:List oP),spl s l []=l
 |0,[]=>rfl
 |0,_::_=>rfl
 |s+1,[]=>rfl
 |s+1,v::l=>by show v::spl s l []=_;rw [NC s l]
theorem dC:∀(xs:List oP) (l:List oP) (s:Nat),setFrom l.toArray s xs=(spl s l xs).toArray
 | [],l,s=>by rw [setFrom,NC]
 |x::r,l,s=>by
  rw [setFrom,List.setIfInBounds_toArray,dC r (l.set s x) (s+1),TL]
namespace Pl
def MV(es:List aK):Prop:=∀i j,i<j->j<es.length->mr (eF es i).key (eF es j).key=true
def May(es:List aK):Prop:=∀i,i<es.length->(eF es i).may=true
theorem EC(es:List aK):∀n i,faultN es n i=0->∀j,i<=j->j<i+n->(eF es j).may=true/\Bz es j=false
 |0,_,_,j,b,a=>by omega
 |n+1,i,h,j,b,a=>by
  simp only [faultN]at h
  cases hm:(eF es i).may
  ·simp [hm]at h
  ·cases hl:Bz es i
   ·simp only [hm,hl]at h;rcases xn i j with k|k
    ·exact EC es n (i+1) (by simpa using h) j (by omega) (by omega)
    ·obtain rfl:j=i:=by omega
     exact⟨hm,hl⟩
   ·simp [hm,hl]at h
theorem jm{es:List aK}(h:fault es=0):es.length<=60/\May es/\MV es:=by
 unfold fault at h;split at h
 ·rename_i hl;have c:=EC es es.length 0 h;refine⟨hl,fun i g=>(c i (by omega) (by omega)).1,?_⟩;intro i j e f;induction j with
  |zero=>omega
  |succ m d=>
   have b:=(c (m+1) (by omega) (by omega)).2;have a:mr (eF es m).key (eF es (m+1)).key=true:=by
    unfold Bz at b;simpa using b
   rcases xn i m with k|k
   ·exact Dx (d k (by omega)) a
   ·obtain rfl:i=m:=by omega
    exact a
 ·cases h
theorem wZ(es:List aK)(h:∀j,j<es.length->(eF es j).may=true/\Bz es j=false):∀n i,i+n<=es.length->faultN es n i=0
 |0,_,_=>rfl
 |n+1,i,c=>by
  obtain⟨b,a⟩:=h i (by omega);rw [uj b a];exact wZ es h n (i+1) (by omega)
theorem I8{es:List aK}(hl:es.length<=60)(hm:May es)(ha:MV es):fault es=0:=by
 rw [zY hl];refine wZ es (fun j a=>⟨hm j a,?_⟩) _ _ (by omega);unfold Bz;rcases Pe j with rfl|k
 ·rfl
 ·rw [ha (j-1) j (by omega) a];simp
def pos:List aK->ByteArray->Nat
 | [],_=>0
 |e::r,key=>if mr e.key key then pos r key+1 else 0
theorem Dl:∀(es:List aK) (key:ByteArray),pos es key<=es.length
 | [],_=>Ah _
 |e::r,key=>by
  simp only [pos,OG];have:=Dl r key;split<;>omega
theorem QK:∀(es:List aK) (key:ByteArray) (i:Nat),i<pos es key->mr (eF es i).key key=true
 | [],_,i,h=>by simp [pos]at h
 |e::r,key,i,h=>by
  simp only [pos]at h;split at h
  ·rename_i he
   cases i with
   |zero=>simpa [eF]using he
   |succ i=>rw [iK];exact QK r key i (by omega)
  ·omega
theorem pos_at:∀(es:List aK) (key:ByteArray),pos es key<es.length->mr (eF es (pos es key)).key key=false
 | [],_,h=>by simp at h
 |e::r,key,h=>by
  cases he:mr e.key key
  ·simp [pos,he,eF]
  ·simp only [pos,he,if_true]at h⊢;rw [iK];exact pos_at r key (by simpa using h)
theorem Yd{es:List aK}{key:ByteArray}{i:Nat}(e:i<=es.length)(d:∀t,t<i->mr (eF es t).key key=true)(c:i<es.length->mr (eF es i).key key=false):pos es key=i:=by
 rcases Xc (pos es key) i with k|k|k
 ·have a:=d _ k;rw [pos_at es key (by omega)]at a;cases a
 ·exact k
 ·have a:=QK es key i k;have b:=Dl es key;rw [c (by omega)]at a;cases a
def there(es:List aK)(key:ByteArray):Bool:=decide (pos es key<es.length)&&decide ((eF es (pos es key)).key=key)
theorem ZM{es:List aK}(h:MV es){key:ByteArray}{t m:Nat}(hm:m<es.length)(a:t<=m)(k:mr (eF es m).key key=true):mr (eF es t).key key=true:=by
 rcases xn t m with q|q
 ·exact Dx (h t m q hm) k
 ·obtain rfl:t=m:=by omega
  exact k
theorem ad7{es:List aK}(h:MV es){key:ByteArray}{t m:Nat}(a:t<es.length)(hm:m<=t)(k:mr (eF es m).key key=false):mr (eF es t).key key=false:=by
 cases q:mr (eF es t).key key
 ·rfl
 ·rw [ZM h a hm q]at k;cases k
def idx:List aK->ByteArray->Nat
 | [],_=>0
 |e::r,key=>if e.key=key then 0 else idx r key+1
def YX(es:List aK)(key:ByteArray):Int:=if idx es key<es.length then(idx es key:Int)else-1
theorem GH:∀(es:List aK) (key:ByteArray) (i:Nat),i<=es.length->(∀t,t<i->¬(eF es t).key=key)->(i<es.length->(eF es i).key=key)->idx es key=i
 | [],_,i,h,_,_=>by simp at h;simp [idx,h]
 |e::r,key,i,h,b,a=>by
  cases i with
  |zero=>
   have:e.key=key:=by simpa [eF]using a (by simp)
   simp [idx,this]
  |succ i=>
   have h0:¬e.key=key:=by simpa [eF]using b 0 (by omega)
   simp only [idx,h0,if_false];rw [GH r key i (by simpa using h) (fun t d=>by have:=b (t+1) (by omega);rwa [iK]at this) (fun c=>by have:=a (by simpa using c);rwa [iK]at this)]
theorem abo{es:List aK}(h:MV es)(key:ByteArray):idx es key=if there es key then pos es key else es.length:=by
 have hle:=Dl es key
 cases b:there es key
 ·simp only [Bool.false_eq_true,if_false];refine GH es key _ (Ah _) (fun t a he=> ?_) (fun k=>by omega);have hp:pos es key=t:=by
   refine Yd (by omega) (fun u hu=> ?_) (fun _=>by rw [he];exact kN _);have:=h u t hu a;rwa [he]at this
  unfold there at b;rw [hp]at b;simp [a,he]at b
 ·unfold there at b;simp only [Eb,ik]at b;simp only [if_true];refine GH es key _ hle (fun t a he=> ?_) (fun _=>b.2);have:=QK es key t a;rw [he,kN]at this;cases this
theorem jJ{es:List aK}(h:MV es)(key:ByteArray):YX es key=if there es key then(pos es key:Int)else-1:=by
 unfold YX;rw [abo h key]
 cases a:there es key
 ·simp
 ·simp only [if_true];unfold there at a;simp only [Eb,ik]at a;rw [af a.1]
def Srt(es:List aK):Prop:=es.Pairwise fun a b=>mr a.key b.key=true
theorem yG(es:List aK):MV es↔Srt es:=by
 unfold MV Srt;rw [List.pairwise_iff_getElem];constructor
 ·intro h i j c b a;have:=h i j a b;rwa [oD es i c,oD es j b]at this
 ·intro h i j a b;have:=h i j (by omega) b a;rwa [oD es i (by omega),oD es j b]
theorem Uf(es:List aK):May es↔∀e∈es,e.may=true:=by
 unfold May;constructor
 ·intro h e he;obtain⟨i,a,rfl⟩:=List.getElem_of_mem he;rw [<-oD es i a];exact h i a
 ·intro h i a;exact h _ (lU es i a)
def Good(es:List aK):Prop:=es.length<=60/\(∀e∈es,e.may=true)/\Srt es
theorem bK(es:List aK):fault es=0↔Good es:=by
 constructor
 ·intro h;obtain⟨c,b,a⟩:=jm h;exact⟨c,(Uf es).1 b,(yG es).1 a⟩
 ·rintro⟨c,b,a⟩;exact I8 c ((Uf es).2 b) ((yG es).2 a)
theorem adx{e:aK}(h:e.may=true):e.ok:=by
 unfold aK.may uQ qE at h;simp only [Eb,ik]at h;obtain⟨⟨⟨⟨d,_⟩,c⟩,b⟩,a⟩:=h;unfold aK.ok Jj;refine⟨by omega,?_,?_,by omega⟩
 ·exact Qe (by omega)
 ·exact Qe (by omega)
def ins:List aK->aK->List aK
 | [],x=> [x]
 |e::r,x=>if mr e.key x.key then e::ins r x else if e.key=x.key then x::r else x::e::r
def LD(es:List aK)(i:Nat)(instead:Bool)(x:aK):List aK:=es.take i++x::es.drop (if instead then i+1 else i)
theorem yY{e:aK}{r:List aK}{key:ByteArray}(h:mr e.key key=true):there (e::r) key=there r key:=by
 unfold there;simp only [pos,h,if_true,iK,OG];simp
theorem yZ{e:aK}{r:List aK}{key:ByteArray}(h:mr e.key key=false):there (e::r) key=decide (e.key=key):=by
 unfold there;simp [pos,h,eF]
theorem E5:∀(es:List aK) (x:aK),LD es (pos es x.key) (there es x.key) x=ins es x
 | [],x=>by simp [LD,ins,pos,there]
 |e::r,x=>by
  cases h:mr e.key x.key
  ·rw [yZ h];simp only [pos,h,ins,LD];by_cases k:e.key=x.key
   ·simp [k]
   ·simp [k]
  ·rw [yY h];have a:=E5 r x;unfold LD at a⊢;simp only [pos,h,if_true,ins,List.take_succ_cons,List.cons_append];rw [<-a]
   cases there r x.key<;>simp
theorem Ls{es:List aK}{x e:aK}(h:e∈ins es x):e=x\/e∈es:=by
 induction es with
 |nil=>simp [ins]at h;exact .inl h
 |cons a r b=>
  unfold ins at h;split at h
  ·rcases List.mem_cons.1 h with rfl|h
   ·exact .inr (by simp)
   ·rcases b h with h|h
    ·exact .inl h
    ·exact .inr (by simp [h])
  ·split at h
   ·rcases List.mem_cons.1 h with rfl|h
    ·exact .inl rfl
    ·exact .inr (by simp [h])
   ·rcases List.mem_cons.1 h with rfl|h
    ·exact .inl rfl
    ·exact .inr h
theorem Ul{es:List aK}{x:aK}(h:Srt es):Srt (ins es x):=by
 induction es with
 |nil=>simp [Srt,ins]
 |cons a r f=>
  unfold Srt at h f⊢;rw [Tq]at h;obtain⟨c,d⟩:=h;unfold ins;split
  ·rename_i hl;refine List.pairwise_cons.2 ⟨fun e he=> ?_,f d⟩;rcases Ls he with rfl|he
   ·exact hl
   ·exact c e he
  ·rename_i hl;split
   ·rename_i he;refine List.pairwise_cons.2 ⟨fun e hm=> ?_,d⟩;rw [<-he];exact c e hm
   ·rename_i he;have b:mr x.key a.key=true:=by
     cases k:mr x.key a.key
     ·exact absurd (Dy (by simpa using hl) k) he
     ·rfl
    refine List.pairwise_cons.2 ⟨fun e hm=> ?_,List.pairwise_cons.2 ⟨c,d⟩⟩;rcases List.mem_cons.1 hm with rfl|hm
    ·exact b
    ·exact Dx b (c e hm)
theorem LH:∀(es:List aK) (x:aK),(ins es x).length=if there es x.key then es.length else es.length+1
 | [],x=>by simp [ins,there]
 |e::r,x=>by
  have a:=LH r x
  cases h:mr e.key x.key
  ·rw [yZ h];simp only [ins,h];by_cases k:e.key=x.key<;>simp [k]
  ·rw [yY h];simp only [ins,h,if_true,OG,a]
   cases there r x.key<;>simp
def wE:List aK->Bool->aK->List aK
 | [],done,x=>if done then []else [x]
 |e::r,done,x=>(if !done&& !mr e.key x.key then [x]else [])++((if e.key=x.key then []else [e])++wE r (done|| !mr e.key x.key) x)
theorem TI:∀(es:List aK) (x:aK),(∀e∈es,¬e.key=x.key)->wE es true x=es
 | [],_,_=>rfl
 |e::r,x,h=>by
  have h0:=h e (by simp);simp [wE,h0,TI r x (fun e he=>h e (by simp [he]))]
theorem Fq:∀(es:List aK) (x:aK),Srt es->wE es false x=ins es x
 | [],x,_=>rfl
 |e::r,x,h=>by
  unfold Srt at h;rw [Tq]at h;obtain⟨d,c⟩:=h
  cases hl:mr e.key x.key
  ·have b:∀a∈r,¬a.key=x.key:=by
    intro a ha he;have:=d a ha;rw [he,hl]at this;cases this
   simp only [wE,ins,hl,Bool.not_false,Bool.and_self,if_true,Bool.or_true];rw [TI r x b];by_cases k:e.key=x.key<;>simp [k]
  ·have k:¬e.key=x.key:=ne_of_lt hl;simp [wE,ins,hl,k,Fq r x c]
def jM(es:List aK)(x:aK):Bool:=if there es x.key then decide (0<BR x.gz x.org x.val (eF es (pos es x.key)).gz (eF es (pos es x.key)).org (eF es (pos es x.key)).val)else decide (es.length<60)
theorem BC{es:List aK}{x:aK}(h:Good es)(a:x.may=true)(hc:jM es x=true):Good (ins es x):=by
 obtain⟨f,d,c⟩:=h;refine⟨?_,?_,Ul c⟩
 ·rw [LH];unfold jM at hc
  cases b:there es x.key
  ·rw [b]at hc;simp at hc;simp;omega
  ·simpa using f
 ·intro e he;rcases Ls he with rfl|he
  ·exact a
  ·exact d e he
def mrg:List aK->List ByteArray->List aK->List aK×List ByteArray
 |out,ks,[]=>(out,ks)
 |out,ks,x::r=>if jM out x then mrg (ins out x) (ks++ [x.key]) r else mrg out ks r
theorem Gm:∀(b out:List aK) (c:List ByteArray),Good out->(∀e∈b,e.may=true)->Good (mrg out c b).1
 | [],_,_,h,_=>h
 |x::r,out,c,h,a=>by
  unfold mrg;split
  ·rename_i hc;exact Gm r _ _ (BC h (a x (by simp)) hc) (fun e he=>a e (by simp [he]))
  ·exact Gm r _ _ h (fun e he=>a e (by simp [he]))
end Pl
end Go.Proofs.YtjjelkdajdeikaaGreatDoor
