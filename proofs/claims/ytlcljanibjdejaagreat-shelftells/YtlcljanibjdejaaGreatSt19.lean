/- ShelfTells holds: the law returns true for every input, and each argument reads behind the call as it read before; no condition. A part of its proof. -/
import Derived.Test.YtlcljanibjdejaaGreatSt18
set_option maxHeartbeats 64000000
namespace Go.Proofs.YtlcljanibjdejaaGreat
open Go.RowKit Go.Maps
theorem Jpj (s:ByteArray) (w:World) (hs:s.size≤40000):
  Calls Tryz.prog 110 #[.string s] w fun e w'=>e=.returned (.string ⟨(Jx s.data.toList).toArray⟩)∧Jb [] w w':=by
 obtain ⟨i0,hi,hz0,hz1,hz2⟩:=info_parts Tryz.info5;have hln:=Js s;go_enter Tryz.func110,Tryz.ntmps110;go_wp2_with fail;go_loopw [3,4] (fun v i wr=> ∃ j:Nat,j≤s.size∧i=.int .i64 j∧wr.ownsRow w.heap.size 5 1 v (Jx (s.data.toList.take j)).length (Lib.byteCells (Jx (s.data.toList.take j)))∧Jb [] w wr) (fun _ i _=>s.size - (intOf i).toNat)
 case atStart=>exact ⟨0,Nat.zero_le _,rfl,World.ownsRow_nil _ _ _ _,Jb.refl _ _⟩
 case round=>
  obtain ⟨j,hj,rfl,ho,hk⟩:=hrel;have hll:(Jx (s.data.toList.take j)).length≤40000:=by
   have h1:(s.data.toList.take j).length≤s.data.toList.length:=(List.take_sublist _ _).length_le;unfold Jx;rw [List.length_map];omega
  by_cases hlt:j<s.size
  ·have hlj:j<s.data.toList.length:=by rw [hln];exact hlt
   have HL:=Ja (Jgn s.data.toList j hlj);rw [show s.data.toList[j]=s[j] from rfl] at HL;generalize Jx (s.data.toList.take j)=Y at *;have hb:=Ja (fun w=>Xu (s[j].toNat:Int) 65 90 w);rw [←Jl3] at hb;have hsz:=hk.size;have hc256:s[j].toNat<256:=UInt8.toNat_lt s[j];cases hbig:JbL s[j]
   ·have hlow:Z8 s[j]=s[j]:=by unfold Z8;rw [hbig];rfl
    rw [hbig] at hb;rw [hlow] at HL;clear hlow hbig;go_wp2_with fail;refine (hb.out _).mono ?_;rintro e w1 ⟨rfl,rfl⟩;go_wp2_with (at_builtin;refine wpList_append_own _ rfl _ _ 107 rfl w.heap.size 5 i0 (.int .u8 0) 1 1 Tryz.underlying107 hi hz0 hz1 hz2 rfl (by decide) _ _ _ rfl (ho.alloc _) ⟨w1.heap.size,0,none⟩ 1 1 [.int .u8 s[j].toNat] rfl rfl ?c1 ?c2 ?c3 ?c4 ?c5 ?_)
    case c1=>
     intro j u hj
     match j,hj with
     | 0,hj=>simp at hj;subst hj;simp [Addr.add]
    case c2=>intro u hu;simp at hu;subst hu;rfl
    case c3=>unfold maxLen;omega
    case c4=>omega
    case c5=>simp;omega
    intro v' w2 ho1 hg1 _;have ho2:=Jaa (t:=[s[j]]) ho1;rw [←HL.out] at ho2;have hk2:Jb [] w w2:=(hk.alloc _).grown hg1 fun k e=>.inr (ho.lt k e).1;go_wp2_with fail;go_roundw
    case rel=>exact ⟨j+1,by omega,by go_num,ho2,hk2⟩
    case measure=>simp [intOf];omega
   ·have hv:=Jku s[j] hbig;rw [hbig] at hb;have h90:65≤s[j].toNat∧s[j].toNat≤90:=by simpa [JbL] using hbig
    clear hbig;generalize Z8 s[j]=d at *;go_wp2_with fail;refine (hb.out _).mono ?_;rintro e w1 ⟨rfl,rfl⟩;go_wp2_with (at_builtin;refine wpList_append_own _ rfl _ _ 107 rfl w.heap.size 5 i0 (.int .u8 0) 1 1 Tryz.underlying107 hi hz0 hz1 hz2 rfl (by decide) _ _ _ rfl (ho.alloc _) ⟨w1.heap.size,0,none⟩ 1 1 [.int .u8 ((s[j].toNat:Int)+32)] rfl rfl ?c1 ?c2 ?c3 ?c4 ?c5 ?_)
    case c1=>
     intro j u hj
     match j,hj with
     | 0,hj=>simp at hj;subst hj;simp [Addr.add]
    case c2=>intro u hu;simp at hu;subst hu;rfl
    case c3=>unfold maxLen;omega
    case c4=>omega
    case c5=>simp;omega
    intro v' w2 ho1 hg1 _;rw [←hv] at ho1;have ho2:=Jaa (t:=[d]) ho1;rw [←HL.out] at ho2;have hk2:Jb [] w w2:=(hk.alloc _).grown hg1 fun k e=>.inr (ho.lt k e).1;go_wp2_with fail;go_roundw
    case rel=>exact ⟨j+1,by omega,by go_num,ho2,hk2⟩
    case measure=>simp [intOf];omega
  ·have he:s.data.toList.take j=s.data.toList:=List.take_of_length_le (by rw [hln];omega);rw [he] at ho;have hcv:=Jar ho 0;rw [show wr.drewN 0=wr from rfl] at hcv;obtain ⟨oo,cc,hrow⟩:=JfD ho;subst hrow;clear he;obtain ⟨Y,hY⟩: ∃ Y,Jx s.data.toList=Y:=⟨_,rfl⟩;rw [hY] at ho hcv ⊢;have HY:=Ja hY;clear hY hll;go_wp2_with fail;go_ret;exact ⟨by first | (rw [HY.out];simp;done) | simp,hk⟩
theorem JlO (s:ByteArray) (w:World) (hs:s.size≤40000):
  Calls Tryz.prog 200 #[.string s] w fun e w'=>e=.returned (.int .i64 (XA s.data.toList 0))∧w'=w:=by
 obtain ⟨R,hR⟩: ∃ R,XA s.data.toList 0=R:=⟨_,rfl⟩;rw [hR];have HR:=Ja hR;have hls:=Js s;clear hR;go_enter Tryz.func200,Tryz.ntmps200;go_wp2_with fail;go_loopw [3] (fun i wr=> ∃ k:Nat,i=.int .i64 k∧k≤s.size∧wr=w∧Hid (XA (s.data.toList.drop k) k=R)) (fun i _=>s.size - (intOf i).toNat)
 case atStart=>exact ⟨0,rfl,Nat.zero_le _,rfl,Ja (by simpa using HR.out)⟩
 case round=>
  obtain ⟨k,rfl,hk,rfl,hH⟩:=hrel;by_cases hlt:k<s.size
  ·have l1:k<s.data.toList.length:=by omega
   have hst:=hH.out;rw [List.drop_eq_getElem_cons l1] at hst;rw [show s.data.toList[k]=s[k] from rfl] at hst;unfold XA at hst;have b1:(0:Int)≤(k:Int):=by omega
   have b2:(k:Int)<(s.size:Int):=by omega
   have hc256:s[k].toNat<256:=UInt8.toNat_lt s[k];have hlt9:=Ja (fun w=>Jbv s[k] w);have hbt:=Ja (fun w=>Xu (s[k].toNat:Int) 48 57 w);cases h1:((s[k].toNat:Int)==58)
   ·rw [h1] at hst;cases h2:J2 s[k]
    ·rw [h2] at hst hlt9;by_cases h0:0<k
     ·have hd:(0:Int)<(k:Int):=by omega
      have hd':decide ((0:Int)<(k:Int))=true:=decide_eq_true hd;rw [hd'] at hst;obtain ⟨B,hB⟩: ∃ B,(decide ((48:Int)≤(s[k].toNat:Int))&&decide ((s[k].toNat:Int)≤57))=B:=⟨_,rfl⟩;rw [hB] at hst hbt;clear hB;cases B
      ·cases h3:((s[k].toNat:Int)==43)
       ·cases h4:((s[k].toNat:Int)==45)
        ·cases h5:((s[k].toNat:Int)==46)
         ·rw [h3,h4,h5] at hst;simp at hst;have HS:=Ja hst;clear hst;go_wp2_with (first | (go_at_call 107;refine (hlt9.out _).mono ?_;rintro e w' ⟨rfl,rfl⟩) | (go_at_call 128;refine (hbt.out _).mono ?_;rintro e w' ⟨rfl,rfl⟩));go_ret;exact ⟨by rw [←HS.out];rfl,rfl⟩
         ·rw [h3,h4,h5] at hst;simp at hst;have HS:=Ja hst;clear hst;go_wp2_with (first | (go_at_call 107;refine (hlt9.out _).mono ?_;rintro e w' ⟨rfl,rfl⟩) | (go_at_call 128;refine (hbt.out _).mono ?_;rintro e w' ⟨rfl,rfl⟩));go_roundw
          case rel=>exact ⟨k+1,by go_num,by omega,by first | rfl | trivial,HS⟩
          case measure=>simp [intOf];omega
        ·rw [h3,h4] at hst;simp at hst;have HS:=Ja hst;clear hst;go_wp2_with (first | (go_at_call 107;refine (hlt9.out _).mono ?_;rintro e w' ⟨rfl,rfl⟩) | (go_at_call 128;refine (hbt.out _).mono ?_;rintro e w' ⟨rfl,rfl⟩));go_roundw
         case rel=>exact ⟨k+1,by go_num,by omega,by first | rfl | trivial,HS⟩
         case measure=>simp [intOf];omega
       ·rw [h3] at hst;simp at hst;have HS:=Ja hst;clear hst;go_wp2_with (first | (go_at_call 107;refine (hlt9.out _).mono ?_;rintro e w' ⟨rfl,rfl⟩) | (go_at_call 128;refine (hbt.out _).mono ?_;rintro e w' ⟨rfl,rfl⟩));go_roundw
        case rel=>exact ⟨k+1,by go_num,by omega,by first | rfl | trivial,HS⟩
        case measure=>simp [intOf];omega
      ·simp at hst;have HS:=Ja hst;clear hst;go_wp2_with (first | (go_at_call 107;refine (hlt9.out _).mono ?_;rintro e w' ⟨rfl,rfl⟩) | (go_at_call 128;refine (hbt.out _).mono ?_;rintro e w' ⟨rfl,rfl⟩));go_roundw
       case rel=>exact ⟨k+1,by go_num,by omega,by first | rfl | trivial,HS⟩
       case measure=>simp [intOf];omega
     ·have hd:decide ((0:Int)<(k:Int))=false:=decide_eq_false (by omega);rw [hd] at hst;simp at hst;have HS:=Ja hst;clear hst;go_wp2_with (first | (go_at_call 107;refine (hlt9.out _).mono ?_;rintro e w' ⟨rfl,rfl⟩) | (go_at_call 128;refine (hbt.out _).mono ?_;rintro e w' ⟨rfl,rfl⟩));go_ret;exact ⟨by rw [←HS.out];rfl,rfl⟩
    ·rw [h2] at hst hlt9;simp at hst;have HS:=Ja hst;clear hst;go_wp2_with (first | (go_at_call 107;refine (hlt9.out _).mono ?_;rintro e w' ⟨rfl,rfl⟩) | (go_at_call 128;refine (hbt.out _).mono ?_;rintro e w' ⟨rfl,rfl⟩));go_roundw
     case rel=>exact ⟨k+1,by go_num,by omega,by first | rfl | trivial,HS⟩
     case measure=>simp [intOf];omega
   ·rw [h1] at hst;simp at hst;have HS:=Ja hst;clear hst;go_wp2_with (first | (go_at_call 107;refine (hlt9.out _).mono ?_;rintro e w' ⟨rfl,rfl⟩) | (go_at_call 128;refine (hbt.out _).mono ?_;rintro e w' ⟨rfl,rfl⟩));go_ret;exact ⟨by rw [←HS.out];rfl,rfl⟩
  ·have hst:=hH.out;rw [List.drop_eq_nil_of_le (by omega)] at hst;unfold XA at hst;have HS:=Ja hst;clear hst;go_wp2_with fail;go_ret;exact ⟨by rw [←HS.out];rfl,rfl⟩
theorem JbB (s:ByteArray) (w:World) (hs:s.size≤40000):
  Calls Tryz.prog 129 #[.string s] w fun e w'=>e=.returned (.bool (Yd s.data.toList))∧Jb [] w w':=by
 obtain ⟨R,hR⟩: ∃ R,Yd s.data.toList=R:=⟨_,rfl⟩;rw [hR];have HR:=Ja hR;have hls:=Js s;clear hR;go_enter Tryz.func129,Tryz.ntmps129;go_wp2_with fail;go_loopw [3,4] (fun v i wr=> ∃ (k m:Nat) (B:List UInt8),i=.int .i64 k∧k≤s.size∧v=.string ⟨B.toArray⟩∧Hid (Xj (s.data.toList.take k)=B)∧wr=w.drewN m) (fun _ i _=>s.size - (intOf i).toNat)
 case atStart=>exact ⟨0,0,[],rfl,Nat.zero_le _,rfl,Ja (by simp [Xj]),rfl⟩
 case round=>
  obtain ⟨k,m,B,rfl,hk,rfl,hB,rfl⟩:=hrel;by_cases hlt:k<s.size
  ·have l1:k<s.data.toList.length:=by omega
   have hst:=JiA s.data.toList k l1;rw [hB.out,show s.data.toList[k]=s[k] from rfl] at hst;have b1:(0:Int)≤(k:Int):=by omega
   have b2:(k:Int)<(s.size:Int):=by omega
   by_cases h32:32<s[k].toNat
   ·have hd:decide ((32:Int)<(s[k].toNat:Int))=true:=decide_eq_true (by omega);have hd2:(32:Int)<(s[k].toNat:Int):=by omega
    simp [h32] at hst;have HS:=Ja hst;clear hst h32;have hbl:=JbK (s.data.toList.take k);rw [hB.out,List.length_take] at hbl;have hle:B.length≤40000:=by omega
    clear hbl;go_wp2_with fail;go_roundw
    case rel=>exact ⟨k+1,_,_,by go_num,by omega,by rw [show s.extract k (k+1)=⟨[s[k]].toArray⟩ from WideShapes.bytes_inj (by rw [Ji2 s k hlt])];exact congrArg Value.string (WideShapes.bytes_inj (by simp)),HS,rfl⟩
    case measure=>simp [intOf];omega
   ·have hd:decide ((32:Int)<(s[k].toNat:Int))=false:=decide_eq_false (by omega);simp [h32] at hst;have HS:=Ja hst;clear hst h32;go_wp2_with fail;go_roundw
    case rel=>exact ⟨k+1,_,_,by go_num,by omega,rfl,HS,rfl⟩
    case measure=>simp [intOf];omega
  ·have hke:s.data.toList.take k=s.data.toList:=List.take_of_length_le (by omega);rw [hke] at hB;have hbl:=JbK s.data.toList;rw [hB.out,hls] at hbl;have hso:=Ja (fun w=>JlO ⟨B.toArray⟩ w (by rw [Jv];omega));rw [Qc] at hso;have htk:=Jje B;have hle:XA B 0≤B.length:=by simpa using Jip B 0
   have hex:((⟨B.toArray⟩:ByteArray).extract 0 (XA B 0)).data.toList=B.take (XA B 0):=by simp
   have hfo:=Ja (fun w=>Jpj ((⟨B.toArray⟩:ByteArray).extract 0 (XA B 0)) w (by rw [ByteArray.size_extract,Jv];omega));rw [hex,htk] at hfo;have HQ:Hid (R=okS (Jx ((J8 B).getD []))):=Ja (by rw [←HR.out];unfold Yd;rw [hB.out];rfl);generalize Jx ((J8 B).getD [])=L at *;unfold okS at HQ;have n0:(0:Int)≤(XA B 0:Int):=by omega
   have n1:(XA B 0:Int)≤(B.length:Int):=by omega
   clear htk hex hke hbl;generalize XA B 0=n at *;cases h1:(L==[104,116,116,112])<;>cases h2:(L==[104,116,116,112,115])<;>cases h3:(L==[109,97,105,108,116,111])
   all_goals
    rw [h1,h2,h3] at HQ;go_wp2_with fail;refine (hso.out _).mono ?_;rintro e w2 ⟨rfl,rfl⟩;go_wp2_with fail;refine (hfo.out _).mono ?_;rintro e w3 ⟨rfl,hk3⟩;go_wp2_with fail;go_ret;exact ⟨by rw [HQ.out];rfl,((Jb.refl [] w).drewN _).trans hk3⟩
def GdN (n:List UInt8) (a:List Jw):Prop:=n=[]∧a=[]∨JO n=true∧ ∀ x∈a,YB n x=0
def Gd:List Nd→Prop
 | []=>True
 | .mk n a _ k::r=>GdN n a∧Gd k∧Gd r
theorem Gd.at {n:Nd}:{ns:List Nd}→Gd ns→n∈ns→GdN n.name n.attrs∧Gd n.kids
 | .mk m a t k::r,h,hm=>by
   rw [Gd] at h;rcases List.mem_cons.1 hm with rfl | hm
   ·exact ⟨h.1,h.2.1⟩
   ·exact Gd.at h.2.2 hm
theorem GdN.ways {n:List UInt8} {a:List Jw} (h:GdN n a):(a=[]∧(n=[]∨n=[98]∨n=[105]∨n=[101,109]∨n=[115,116,114,111,110,103]∨n=[112]∨n=[98,114]∨n=[104,114]∨n=[117,108]∨n=[111,108]∨n=[108,105]∨n=[98,108,111,99,107,113,117,111,116,101]∨n=[99,111,100,101]))∨(n=[97]∧ ∀ x∈a,YB [97] x=0)∨(n=[105,109,103]∧ ∀ x∈a,YB [105,109,103] x=0):=by
 rcases h with ⟨rfl,rfl⟩ | ⟨h1,h2⟩
 ·exact .inl ⟨rfl,.inl rfl⟩
 ·by_cases ha:n=[97]
  ·subst ha;exact .inr (.inl ⟨rfl,h2⟩)
  ·by_cases hi:n=[105,109,103]
   ·subst hi;exact .inr (.inr ⟨rfl,h2⟩)
   ·left;refine ⟨?_,?_⟩
    ·cases a with
     | nil=>rfl
     | cons x a=>
       have:=h2 x (by simp);unfold YB Yv at this;have b1:(n==[97])=false:=by simpa using ha
       have b2:(n==[105,109,103])=false:=by simpa using hi
       simp [b1,b2] at this
    ·unfold JO at h1;simp only [Bool.or_eq_true,beq_iff_eq] at h1;rcases h1 with h | h | h | h | h | h | h | h | h | h | h | h | h | h
     all_goals first | exact absurd h ha | exact absurd h hi | (subst h;simp)
def okA (el:List UInt8) (x:Jw):Bool:=Yv el x.1&& !(Yl x.1&&(!Yd x.2 || decide (3000<x.2.length)))
def icL:List Nd→Bool
 | []=>true
 | .mk n a _ k::r=>((n==[]) || (JO n&& !((n==[105,109,103])&& !YW a)&&icL k&&a.all (okA n)))&&icL r
theorem Jrp (n:Nd) (r:List Nd):icL (n::r)=(((n.name==[]) || (JO n.name&& !((n.name==[105,109,103])&& !YW n.attrs)&&icL n.kids&&n.attrs.all (okA n.name)))&&icL r):=by
 obtain ⟨n,a,t,k⟩:=n;rw [icL];rfl
theorem JtQ (el:List UInt8) (x:Jw):okA el x=decide (YB el x=0):=by
 unfold okA YB;cases h1:Yv el x.1
 ·simp
 ·cases h2:Yl x.1
  ·simp
  ·by_cases h3:3000<x.2.length
   ·simp [h3]
   ·cases h4:Yd x.2<;>simp [h3]
theorem JdV (el:List UInt8): ∀ a:List Jw,(ZF el a=0)↔a.all (okA el)=true
 | []=>by simp [ZF]
 | x::r=>by
   rw [ZF,List.all_cons,JtQ];by_cases h:YB el x=0
   ·rw [if_pos h];simp [h,JdV el r]
   ·rw [if_neg h];simp [h]
theorem JfV: ∀ (ns:List Nd) (ar:List (List UInt8)) (prev:Bool),Rt ar prev ns→(icL ns=true↔isE ns=0)
 | [],_,_,_=>by simp [icL,isE]
 | .mk n a t k::r,ar,prev,h=>by
   rw [icL,isE];by_cases hn:n=[]
   ·subst hn;obtain ⟨_,rfl,rfl,_,hr⟩:=(JcL ar prev (.mk [] a t k) r rfl).1 h;have:=JfV r _ _ hr;simp [QY,isE,this]
   ·obtain ⟨_,_,_,_,_,_,hk,hr⟩:=(JfQ ar prev (.mk n a t k) r hn).1 h;have i1:=JfV k _ _ hk;have i2:=JfV r _ _ hr;have e:(n==[])=false:=by simpa using hn
    have e2:n.isEmpty=false:=by simpa using hn
    unfold QY;rw [e,e2,Bool.false_or];cases h1:JO n
    ·simp
    ·by_cases h2:ZF n a=0
     ·have h3:=(JdV n a).1 h2;cases h4:((n==[105,109,103])&& !YW a)
      ·by_cases h5:isE k=0
       ·have:=i1.2 h5;simp [h2,h3,h5,this,i2]
       ·have:icL k=false:=by rw [←Bool.not_eq_true];exact fun h=>h5 (i1.1 h)
        simp [h2,h5,this]
      ·simp [h2]
     ·have h3:a.all (okA n)=false:=by rw [←Bool.not_eq_true];exact fun h=>h2 ((JdV n a).2 h)
      rw [h3];simp [h2]
theorem Jq7 (ns:List Nd) (h:Rt [] false ns):icL ns=decide (isE ns=0):=by
 have:=JfV ns [] false h;rw [Bool.eq_iff_iff,this];simp
theorem Jim (n:List UInt8) (w:World):Calls Tryz.prog 275 #[.string ⟨n.toArray⟩] w fun e w'=>e=.returned (.bool (JO n))∧Jb [] w w':=by
 obtain ⟨W,hW⟩: ∃ W,w.alloc (.cells #[.string ⟨#[97]⟩,.string ⟨#[98]⟩,.string ⟨#[105]⟩,.string ⟨#[101,109]⟩,.string ⟨#[115,116,114,111,110,103]⟩,.string ⟨#[112]⟩,.string ⟨#[98,114]⟩,.string ⟨#[104,114]⟩,.string ⟨#[117,108]⟩,.string ⟨#[111,108]⟩,.string ⟨#[108,105]⟩,.string ⟨#[98,108,111,99,107,113,117,111,116,101]⟩,.string ⟨#[99,111,100,101]⟩,.string ⟨#[105,109,103]⟩] 9)=W:=⟨_,rfl⟩;have hl:Jh W (.slice (some ⟨w.heap.size,0,none⟩) 14 14) 14 1 (Jq [[97],[98],[105],[101,109],[115,116,114,111,110,103],[112],[98,114],[104,114],[117,108],[111,108],[108,105],[98,108,111,99,107,113,117,111,116,101],[99,111,100,101],[105,109,103]]):=by
  rw [←hW];exact Jks w _ 9 14 1 (by unfold maxLen;omega) rfl
 have hk:Jb [] w W:=by rw [←hW];exact (Jb.refl [] w).alloc _
 have hc:=Ja (Jgk n _ _ W hl);have hR:decide (n∈([[97],[98],[105],[101,109],[115,116,114,111,110,103],[112],[98,114],[104,114],[117,108],[111,108],[108,105],[98,108,111,99,107,113,117,111,116,101],[99,111,100,101],[105,109,103]]:List (List UInt8)))=JO n:=by
  unfold JO;rw [Bool.eq_iff_iff];simp
 rw [hR] at hc;have HW:=Ja hW;have HK:=Ja hk;clear hW hl hk hR;go_enter Tryz.func275,Tryz.ntmps275;go_upto_region 1 with fail;go_wp2_with (rw [HW.out]);refine hc.out.mono ?_;rintro e w' ⟨rfl,rfl⟩;go_wp2_with fail;go_ret;exact ⟨rfl,HK.out⟩
theorem JjF (w:World) (v:Value) (l:List Jw) (hv:Jh w v l.length 2 (Jj l)):
  Calls Tryz.prog 276 #[v] w fun e w'=>e=.returned (.bool (YW l))∧w'=w:=by
 obtain ⟨o,c,rfl,h1,h2⟩:=hv.form;unfold maxLen at h2;obtain ⟨R,hR⟩: ∃ R,YW l=R:=⟨_,rfl⟩;rw [hR];have HR:=Ja hR;clear hR;go_enter Tryz.func276,Tryz.ntmps276;go_wp2_with fail;go_loopw [3] (fun i wr=> ∃ k:Nat,i=.int .i64 k∧k≤l.length∧wr=w∧Hid (YW (l.drop k)=R)) (fun i _=>l.length - (intOf i).toNat)
 case atStart=>exact ⟨0,rfl,Nat.zero_le _,rfl,Ja (by simpa using HR.out)⟩
 case round=>
  obtain ⟨k,rfl,hk,rfl,hH⟩:=hrel;by_cases hlt:k<l.length
  ·obtain ⟨g,a,rfl,hc⟩:=hv.addr (by omega);have q0:=hc _ _ (Zw l k hlt);have b1:(0:Int)≤(k:Int):=by omega
   have b2:(k:Int)<(l.length:Int):=by omega
   have hs:=hH.out;rw [List.drop_eq_getElem_cons hlt] at hs;have hs:((l[k].1==[115,114,99]) || YW (l.drop (k+1)))=R:=hs;have HS:=Ja hs;clear hc hs hH;generalize l[k]=p at *;cases he:(p.1==[115,114,99])
   ·have p1:=(Jp p.1 _).trans he;have hn:=HS.out;rw [he,Bool.false_or] at hn;have HN:=Ja hn;clear hn HS;go_wp2_with fail;go_roundw
    case rel=>exact ⟨k+1,by go_num,by omega,by first | rfl | trivial,HN⟩
    case measure=>simp [intOf];omega
   ·have p1:=(Jp p.1 _).trans he;have hn:=HS.out;rw [he,Bool.true_or] at hn;subst hn;clear HS;go_wp2_with fail;go_ret;exact ⟨rfl,rfl⟩
  ·have hr:=hH.out;rw [List.drop_eq_nil_of_le (by omega)] at hr;have hr:false=R:=hr;subst hr;clear hH;go_wp2_with fail;go_ret;exact ⟨rfl,rfl⟩
theorem JhS (el nm:List UInt8) (w:World):Calls Tryz.prog 277 #[.string ⟨el.toArray⟩,.string ⟨nm.toArray⟩] w fun e w'=>e=.returned (.bool (Yv el nm))∧w'=w:=by
 obtain ⟨R,hR⟩: ∃ R,Yv el nm=R:=⟨_,rfl⟩;rw [hR];unfold Yv at hR;cases h1:(el==[97])
 ·have p1:=(Jp el _).trans h1;cases h2:(el==[105,109,103])
  ·have p2:=(Jp el _).trans h2;have HR:=Ja (show R=false from by rw [←hR,h1,h2];simp);clear hR;go_enter Tryz.func277,Tryz.ntmps277;go_wp2_with fail;go_ret;exact ⟨by rw [HR.out];rfl,rfl⟩
  ·have p2:=(Jp el _).trans h2;cases h3:(nm==[115,114,99])
   ·have p3:=(Jp nm _).trans h3;cases h4:(nm==[97,108,116])
    all_goals
     have p4:=(Jp nm _).trans h4;have HR:=Ja (show R=_ from by rw [←hR,h1,h2,h3,h4]);clear hR;go_enter Tryz.func277,Tryz.ntmps277;go_wp2_with fail;go_ret;exact ⟨by rw [HR.out];rfl,rfl⟩
   ·have p3:=(Jp nm _).trans h3;have HR:=Ja (show R=true from by rw [←hR,h1,h2,h3];simp);clear hR;go_enter Tryz.func277,Tryz.ntmps277;go_wp2_with fail;go_ret;exact ⟨by rw [HR.out];rfl,rfl⟩
 ·have p1:=(Jp el _).trans h1;have he:el=[97]:=by simpa using h1
  subst he;cases h3:(nm==[104,114,101,102])
  ·have p3:=(Jp nm _).trans h3;cases h4:(nm==[116,105,116,108,101])
   all_goals
    have p4:=(Jp nm _).trans h4;have HR:=Ja (show R=_ from by rw [←hR,h1,h3,h4]);clear hR h1 p1;go_enter Tryz.func277,Tryz.ntmps277;go_wp2_with fail;go_ret;exact ⟨by rw [HR.out];rfl,rfl⟩
  ·have p3:=(Jp nm _).trans h3;have HR:=Ja (show R=true from by rw [←hR,h1,h3];simp);clear hR h1 p1;go_enter Tryz.func277,Tryz.ntmps277;go_wp2_with fail;go_ret;exact ⟨by rw [HR.out];rfl,rfl⟩
def Vls:List Nd→Prop
 | []=>True
 | .mk _ a _ k::r=>(∀ p∈a,p.2.length≤40000)∧Vls k∧Vls r
theorem Vls.at {n:Nd}:{ns:List Nd}→Vls ns→n∈ns→(∀ p∈n.attrs,p.2.length≤40000)∧Vls n.kids
 | .mk m a t k::r,h,hm=>by
   rw [Vls] at h;rcases List.mem_cons.1 hm with rfl | hm
   ·exact ⟨h.1,h.2.1⟩
   ·exact Vls.at h.2.2 hm
set_option maxRecDepth 8000 in
theorem Jkm (P:Nat→Prop) (w0:World) (v:Value) (ns:List Nd) (h:Ns w0 P v ns): ∀ (w:World),Jb [] w0 w→Vls ns→
  Calls Tryz.prog 201 #[v] w fun e w'=>e=.returned (.bool (icL ns))∧Jb [] w w':=by
 induction h with
 | mk v l ns hns hl ha hk ih=>
   intro w hkw hG;have hlw:=hl.keeps hkw (fun _ _=>List.not_mem_nil);obtain ⟨o,c,rfl,h1,h2⟩:=hlw.lies.form;unfold maxLen at h2;have HL:=Ja hlw;have HI:=Ja ih;have HA:=Ja ha;have HG:=Ja (show ∀ p∈l,(∀ q∈p.nd.attrs,q.2.length≤40000)∧Vls p.nd.kids from fun p hp=>Vls.at hG (by rw [←hns];exact List.mem_map_of_mem hp));have HKD:=Ja hk;have HKW:=Ja hkw;obtain ⟨R,hR⟩: ∃ R,icL ns=R:=⟨_,rfl⟩;have HR0:Hid (icL ((l.drop 0).map Pn.nd)=R):=Ja (by rw [List.drop_zero,hns];exact hR);rw [hR];clear hlw hl ih ha hk hG hkw hns hR;go_enter Tryz.func201,Tryz.ntmps201;go_wp2_with fail;go_loopw [3] (fun i wr=> ∃ (k:Nat),k≤l.length∧i=.int .i64 k∧Hid (Jb [] w wr)∧Hid (icL ((l.drop k).map Pn.nd)=R)) (fun i _=>l.length - (intOf i).toNat)
   case atStart=>exact ⟨0,Nat.zero_le _,rfl,Ja (Jb.refl _ _),HR0⟩
   case round=>
    obtain ⟨k,hk,rfl,hkr,hH⟩:=hrel;obtain ⟨wo,hwo⟩: ∃ wo,wo=wr:=⟨_,rfl⟩;subst hwo;clear HR0;by_cases hlt:k<l.length
    ·obtain ⟨g,x,hoo,hcl⟩:=(HL.out.keeps hkr.out (fun _ _=>List.not_mem_nil)).lies.addr (by omega);subst hoo;obtain ⟨a0,a1,a2,a3⟩:=YJ hcl k hlt;have hin0:=HI.out l[k] (List.getElem_mem hlt);have hak:=((HA.out l[k] (List.getElem_mem hlt)).keeps HKW.out (fun _ _=>List.not_mem_nil)).keeps hkr.out (fun _ _=>List.not_mem_nil);have hgd:=HG.out l[k] (List.getElem_mem hlt);have hkf:=(HKD.out l[k] (List.getElem_mem hlt)).form;have hs:=hH.out;rw [List.drop_eq_getElem_cons hlt,List.map_cons,Jrp] at hs;obtain ⟨rb,hrb⟩: ∃ rb,icL ((l.drop (k+1)).map Pn.nd)=rb:=⟨_,rfl⟩;rw [hrb] at hs;have HRB:=Ja hrb;clear hcl hrb hH;generalize l[k]=p at *;obtain ⟨⟨nm,at',tx,ks⟩,pav,pkv⟩:=p;simp only [Nd.name,Nd.attrs,Nd.text,Nd.kids] at a0 a1 a2 a3 hin0 hak hgd hkf hs;obtain ⟨qo,qc,hq⟩:=hak.form;subst hq;obtain ⟨ko,kc,hkv⟩:=hkf;subst hkv;have hin:=Ja (fun (W:World) (hkk:Jb [] wo W)=>hin0 W ((HKW.out.trans hkr.out).trans hkk) hgd.2);have HVL:=Ja hgd.1;have HKO:=hkr;have hal:at'.length≤9223372036854775807:=by obtain ⟨_,_,_,q1,q2⟩:=hak.lies.form;unfold maxLen at q2;omega
     obtain ⟨Wb,hWb⟩: ∃ Wb,wo.alloc (.cells #[.string ⟨nm.toArray⟩,.slice qo at'.length qc,.string ⟨tx.toArray⟩,.slice ko ks.length kc] 45)=Wb:=⟨_,rfl⟩;have hka:Jb [] wo Wb:=by rw [←hWb];exact (Jb.refl [] wo).alloc _
     have hbx:Wb.heap[wo.heap.size]?=some (.cells #[.string ⟨nm.toArray⟩,.slice qo at'.length qc,.string ⟨tx.toArray⟩,.slice ko ks.length kc] 45 (0,0)):=by rw [←hWb];exact heap_alloc_new wo _
     have HBX:=Ja hbx;have HKA:=Ja hka;have HKb:=Ja (hak.lies.keeps hka);have b0:Wb.cell? ⟨wo.heap.size,0,none⟩=some (.string ⟨nm.toArray⟩):=Jd hbx 0;have HS:=Ja hs;have HW:=Ja hWb;clear hin0 hak hgd hs hbx hka hkr hWb;by_cases hn:nm=[]
     ·subst hn;have HN:Hid (rb=R):=Ja (by rw [←HS.out];simp);clear HS;go_wp2_with fail;refine ⟨⟨k+1,by omega,by go_num,Ja (HKO.out.trans ((Jb.refl [] wo).alloc _)),Ja (HRB.out.trans HN.out)⟩,?_⟩;simp [intOf];omega
     ·have e0:(nm==[])=false:=by simpa using hn
      have p0:=(Jp nm []).trans e0;rw [e0,Bool.false_or] at HS;have hall:=Ja (fun w=>Jim nm w);clear hn;go_upto_region 5 with fail;rw [HW.out];cases hA:JO nm
      ·rw [hA] at hall;have hr:R=false:=by rw [←HS.out];simp [hA]
       subst hr;clear HS;go_wp2_with fail;refine (hall.out _).mono ?_;rintro e w2 ⟨rfl,hk2⟩;go_wp2_with fail;go_ret;exact ⟨rfl,(HKO.out.trans HKA.out).trans hk2⟩
      ·rw [hA] at hall;go_wp2_with fail;refine (hall.out _).mono ?_;rintro e w2 ⟨rfl,hk2⟩;have hb2:=(hk2.block _ (lt_of_block HBX.out) List.not_mem_nil).trans HBX.out;have d0:w2.cell? ⟨wo.heap.size,0,none⟩=some (.string ⟨nm.toArray⟩):=Jd hb2 0;have d1:w2.cell? ⟨wo.heap.size,1,none⟩=some (.slice qo at'.length qc):=Jd hb2 1;have d3:w2.cell? ⟨wo.heap.size,3,none⟩=some (.slice ko ks.length kc):=Jd hb2 3;have HK2:=Ja hk2;clear hb2 hk2 b0 a0 a1 a2 a3 hall;cases hI:(nm==[105,109,103])
       ·have pI:=(Jp nm _).trans hI;obtain ⟨wc,hwc⟩: ∃ wc,wc=w2:=⟨_,rfl⟩;subst hwc;have HKc:=HK2;have HS:=Ja (show ((icL ks&&at'.all (okA nm))&&rb)=R from by rw [←HS.out];simp [hA,hI]);have hbc:=Ja ((HKc.out.block _ (lt_of_block HBX.out) List.not_mem_nil).trans HBX.out);have hc3:wc.cell? ⟨wo.heap.size,3,none⟩=some (.slice ko ks.length kc):=Jd hbc.out 3;have hinc:=Ja (hin.out wc (HKA.out.trans HKc.out));obtain ⟨ck,hck⟩: ∃ ck,icL ks=ck:=⟨_,rfl⟩;rw [hck] at HS hinc;clear hck;cases ck
        ·have hr:R=false:=by rw [←HS.out];simp
         subst hr;clear HS;go_wp2_with fail;refine hinc.out.mono ?_;rintro e w5 ⟨rfl,hk5⟩;go_wp2_with fail;go_ret;exact ⟨rfl,(HKO.out.trans HKA.out).trans (HKc.out.trans hk5)⟩
        ·have HS1:Hid (((at'.drop 0).all (okA nm)&&rb)=R):=Ja (by rw [←HS.out];simp);clear HS;go_wp2_with fail;refine hinc.out.mono ?_;rintro e w5 ⟨rfl,hk5⟩;have HK5:=Ja (HKc.out.trans hk5);clear hk5 hinc hbc hc3;go_wp2_with fail;go_loopw [5] (fun j wr=> ∃ (m:Nat),m≤at'.length∧j=.int .i64 m∧Hid (Jb [] Wb wr)∧Hid (((at'.drop m).all (okA nm)&&rb)=R)) (fun j _=>at'.length - (intOf j).toNat)
         case atStart=>exact ⟨0,Nat.zero_le _,rfl,HK5,HS1⟩
         case round=>
          obtain ⟨m,hm,rfl,hkx,HS⟩:=hrel;clear HS1;have hb2:=(hkx.out.block _ (lt_of_block HBX.out) List.not_mem_nil).trans HBX.out;have c0:wr.cell? ⟨wo.heap.size,0,none⟩=some (.string ⟨nm.toArray⟩):=Jd hb2 0;have c1:wr.cell? ⟨wo.heap.size,1,none⟩=some (.slice qo at'.length qc):=Jd hb2 1;clear hb2;by_cases hml:m<at'.length
          ·obtain ⟨g2,x2,rfl,hc⟩:=(HKb.out.keeps hkx.out).addr (by omega);have q0:=hc _ _ (Zw at' m hml);have q1:=hc _ _ (JaZ at' m hml);rw [←Nat.add_assoc] at q1;have hpl:=HVL.out _ (List.getElem_mem hml);have hs:=HS.out;rw [List.drop_eq_getElem_cons hml,List.all_cons] at hs;have HS:=Ja hs;clear hc hs;generalize at'[m]=pr at *;obtain ⟨pn,pv⟩:=pr;simp only at q0 q1 hpl;have HKC:Hid (Jb [] wr (wr.alloc (.cells #[.string ⟨pn.toArray⟩,.string ⟨pv.toArray⟩] 52))):=Ja ((Jb.refl [] wr).alloc _);have HBC:=Ja (heap_alloc_new wr (.cells #[.string ⟨pn.toArray⟩,.string ⟨pv.toArray⟩] 52));have c0a:=(JI (a:=⟨wo.heap.size,0,none⟩) (JcY c0) (.cells #[.string ⟨pn.toArray⟩,.string ⟨pv.toArray⟩] 52)).trans c0;have hmy:=Ja (fun w=>JhS nm pn w);cases hM:Yv nm pn
           ·rw [hM] at hmy;have hr:R=false:=by rw [←HS.out];simp [okA,hM]
            subst hr;clear HS;go_wp2_with fail;refine (hmy.out _).mono ?_;rintro e w6 ⟨rfl,rfl⟩;go_wp2_with fail;go_ret;exact ⟨rfl,((HKO.out.trans HKA.out).trans hkx.out).trans HKC.out⟩
           ·rw [hM] at hmy;go_wp2_with fail;refine (hmy.out _).mono ?_;rintro e w6 ⟨rfl,h6⟩;subst h6;have r0:(wr.alloc (.cells #[.string ⟨pn.toArray⟩,.string ⟨pv.toArray⟩] 52)).cell? ⟨wr.heap.size,0,none⟩=some (.string ⟨pn.toArray⟩):=Jd HBC.out 0;have r1:(wr.alloc (.cells #[.string ⟨pn.toArray⟩,.string ⟨pv.toArray⟩] 52)).cell? ⟨wr.heap.size,1,none⟩=some (.string ⟨pv.toArray⟩):=Jd HBC.out 1;cases hh:(pn==[104,114,101,102])
            ·have ph:=(Jp pn _).trans hh;cases hc:(pn==[115,114,99])
             ·have pc:=(Jp pn _).trans hc;have HN:Hid (((at'.drop (m+1)).all (okA nm)&&rb)=R):=Ja (by rw [←HS.out];simp [okA,Yl,hM,hh,hc]);clear HS;go_wp2_with fail;refine ⟨⟨m+1,by omega,by go_num,Ja (hkx.out.trans HKC.out),HN⟩,?_⟩;simp [intOf];omega
             ·have pc:=(Jp pn _).trans hc;have hsf:=Ja (fun w=>JbB ⟨pv.toArray⟩ w (by rw [Jv];exact hpl));rw [Qc] at hsf;cases hS:Yd pv
              ·rw [hS] at hsf;have hr:R=false:=by rw [←HS.out];simp [okA,Yl,hM,hh,hc,hS]
               subst hr;clear HS;go_wp2_with fail;refine (hsf.out _).mono ?_;rintro e w3 ⟨rfl,hk3⟩;go_wp2_with fail;go_ret;exact ⟨rfl,((HKO.out.trans HKA.out).trans hkx.out).trans (HKC.out.trans hk3)⟩
              ·rw [hS] at hsf;have hlg:=Ja (fun w=>YY ⟨pv.toArray⟩ (by rw [Jv];unfold maxLen;omega) w);simp only [Jv] at hlg;cases hG:decide (3000<pv.length)
               ·rw [hG] at hlg;have HN:Hid (((at'.drop (m+1)).all (okA nm)&&rb)=R):=Ja (by rw [←HS.out];simp [okA,Yl,hM,hh,hc,hS,hG];try omega);clear HS hG;go_wp2_with fail;refine (hsf.out _).mono ?_;rintro e w3 ⟨rfl,hk3⟩;have hb3:=(hk3.block _ (lt_of_block HBC.out) List.not_mem_nil).trans HBC.out;have s1:w3.cell? ⟨wr.heap.size,1,none⟩=some (.string ⟨pv.toArray⟩):=Jd hb3 1;clear hb3;go_wp2_with fail;refine (hlg.out _).mono ?_;rintro e w4 ⟨rfl,h4⟩;obtain rfl:w3=w4:=h4.symm;go_wp2_with fail;refine ⟨⟨m+1,by omega,by go_num,Ja (hkx.out.trans (HKC.out.trans hk3)),HN⟩,?_⟩;simp [intOf];omega
               ·rw [hG] at hlg;have hr:R=false:=by rw [←HS.out];simp [okA,Yl,hM,hh,hc,hS,hG];try omega
                subst hr;clear HS hG;go_wp2_with fail;refine (hsf.out _).mono ?_;rintro e w3 ⟨rfl,hk3⟩;have hb3:=(hk3.block _ (lt_of_block HBC.out) List.not_mem_nil).trans HBC.out;have s1:w3.cell? ⟨wr.heap.size,1,none⟩=some (.string ⟨pv.toArray⟩):=Jd hb3 1;clear hb3;go_wp2_with fail;refine (hlg.out _).mono ?_;rintro e w4 ⟨rfl,h4⟩;obtain rfl:w3=w4:=h4.symm;go_wp2_with fail;go_ret;exact ⟨rfl,((HKO.out.trans HKA.out).trans hkx.out).trans (HKC.out.trans hk3)⟩
            ·have ph:=(Jp pn _).trans hh;have hsf:=Ja (fun w=>JbB ⟨pv.toArray⟩ w (by rw [Jv];exact hpl));rw [Qc] at hsf;cases hS:Yd pv
             ·rw [hS] at hsf;have hr:R=false:=by rw [←HS.out];simp [okA,Yl,hM,hh,hS]
              subst hr;clear HS;go_wp2_with fail;refine (hsf.out _).mono ?_;rintro e w3 ⟨rfl,hk3⟩;go_wp2_with fail;go_ret;exact ⟨rfl,((HKO.out.trans HKA.out).trans hkx.out).trans (HKC.out.trans hk3)⟩
             ·rw [hS] at hsf;have hlg:=Ja (fun w=>YY ⟨pv.toArray⟩ (by rw [Jv];unfold maxLen;omega) w);simp only [Jv] at hlg;cases hG:decide (3000<pv.length)
              ·rw [hG] at hlg;have HN:Hid (((at'.drop (m+1)).all (okA nm)&&rb)=R):=Ja (by rw [←HS.out];simp [okA,Yl,hM,hh,hS,hG];try omega);clear HS hG;go_wp2_with fail;refine (hsf.out _).mono ?_;rintro e w3 ⟨rfl,hk3⟩;have hb3:=(hk3.block _ (lt_of_block HBC.out) List.not_mem_nil).trans HBC.out;have s1:w3.cell? ⟨wr.heap.size,1,none⟩=some (.string ⟨pv.toArray⟩):=Jd hb3 1;clear hb3;go_wp2_with fail;refine (hlg.out _).mono ?_;rintro e w4 ⟨rfl,h4⟩;obtain rfl:w3=w4:=h4.symm;go_wp2_with fail;refine ⟨⟨m+1,by omega,by go_num,Ja (hkx.out.trans (HKC.out.trans hk3)),HN⟩,?_⟩;simp [intOf];omega
              ·rw [hG] at hlg;have hr:R=false:=by rw [←HS.out];simp [okA,Yl,hM,hh,hS,hG];try omega
               subst hr;clear HS hG;go_wp2_with fail;refine (hsf.out _).mono ?_;rintro e w3 ⟨rfl,hk3⟩;have hb3:=(hk3.block _ (lt_of_block HBC.out) List.not_mem_nil).trans HBC.out;have s1:w3.cell? ⟨wr.heap.size,1,none⟩=some (.string ⟨pv.toArray⟩):=Jd hb3 1;clear hb3;go_wp2_with fail;refine (hlg.out _).mono ?_;rintro e w4 ⟨rfl,h4⟩;obtain rfl:w3=w4:=h4.symm;go_wp2_with fail;go_ret;exact ⟨rfl,((HKO.out.trans HKA.out).trans hkx.out).trans (HKC.out.trans hk3)⟩
          ·have he:m=at'.length:=by omega
           subst he;have hs:=HS.out;rw [List.drop_length] at hs;have HN:Hid (rb=R):=Ja (by simpa using hs);clear hs HS;go_wp2_with fail;refine ⟨⟨k+1,by omega,by go_num,Ja (HKO.out.trans (HKA.out.trans hkx.out)),Ja (HRB.out.trans HN.out)⟩,?_⟩;simp [intOf];omega
       ·have pI:=(Jp nm _).trans hI;have hsr:=Ja (JjF w2 _ at' (HKb.out.keeps HK2.out));cases hSr:YW at'
        ·rw [hSr] at hsr;have hr:R=false:=by rw [←HS.out];simp [hI,hSr]
         subst hr;clear HS;go_wp2_with fail;refine hsr.out.mono ?_;rintro e w3 ⟨rfl,h3⟩;obtain rfl:w2=w3:=h3.symm;go_wp2_with fail;go_ret;exact ⟨rfl,(HKO.out.trans HKA.out).trans HK2.out⟩
        ·rw [hSr] at hsr;have HS:=Ja (show ((icL ks&&at'.all (okA nm))&&rb)=R from by rw [←HS.out];simp [hA,hSr]);go_wp2_with fail;refine hsr.out.mono ?_;rintro e w3 ⟨rfl,h3⟩;obtain rfl:w2=w3:=h3.symm;obtain ⟨wc,hwc⟩: ∃ wc,wc=w2:=⟨_,rfl⟩;subst hwc;have HKc:=HK2;have hbc:=Ja ((HKc.out.block _ (lt_of_block HBX.out) List.not_mem_nil).trans HBX.out);have hc3:wc.cell? ⟨wo.heap.size,3,none⟩=some (.slice ko ks.length kc):=Jd hbc.out 3;have hinc:=Ja (hin.out wc (HKA.out.trans HKc.out));obtain ⟨ck,hck⟩: ∃ ck,icL ks=ck:=⟨_,rfl⟩;rw [hck] at HS hinc;clear hck;cases ck
         ·have hr:R=false:=by rw [←HS.out];simp
          subst hr;clear HS;go_wp2_with fail;refine hinc.out.mono ?_;rintro e w5 ⟨rfl,hk5⟩;go_wp2_with fail;go_ret;exact ⟨rfl,(HKO.out.trans HKA.out).trans (HKc.out.trans hk5)⟩
         ·have HS1:Hid (((at'.drop 0).all (okA nm)&&rb)=R):=Ja (by rw [←HS.out];simp);clear HS;go_wp2_with fail;refine hinc.out.mono ?_;rintro e w5 ⟨rfl,hk5⟩;have HK5:=Ja (HKc.out.trans hk5);clear hk5 hinc hbc hc3;go_wp2_with fail;go_loopw [5] (fun j wr=> ∃ (m:Nat),m≤at'.length∧j=.int .i64 m∧Hid (Jb [] Wb wr)∧Hid (((at'.drop m).all (okA nm)&&rb)=R)) (fun j _=>at'.length - (intOf j).toNat)
          case atStart=>exact ⟨0,Nat.zero_le _,rfl,HK5,HS1⟩
          case round=>
           obtain ⟨m,hm,rfl,hkx,HS⟩:=hrel;clear HS1;have hb2:=(hkx.out.block _ (lt_of_block HBX.out) List.not_mem_nil).trans HBX.out;have c0:wr.cell? ⟨wo.heap.size,0,none⟩=some (.string ⟨nm.toArray⟩):=Jd hb2 0;have c1:wr.cell? ⟨wo.heap.size,1,none⟩=some (.slice qo at'.length qc):=Jd hb2 1;clear hb2;by_cases hml:m<at'.length
           ·obtain ⟨g2,x2,rfl,hc⟩:=(HKb.out.keeps hkx.out).addr (by omega);have q0:=hc _ _ (Zw at' m hml);have q1:=hc _ _ (JaZ at' m hml);rw [←Nat.add_assoc] at q1;have hpl:=HVL.out _ (List.getElem_mem hml);have hs:=HS.out;rw [List.drop_eq_getElem_cons hml,List.all_cons] at hs;have HS:=Ja hs;clear hc hs;generalize at'[m]=pr at *;obtain ⟨pn,pv⟩:=pr;simp only at q0 q1 hpl;have HKC:Hid (Jb [] wr (wr.alloc (.cells #[.string ⟨pn.toArray⟩,.string ⟨pv.toArray⟩] 52))):=Ja ((Jb.refl [] wr).alloc _);have HBC:=Ja (heap_alloc_new wr (.cells #[.string ⟨pn.toArray⟩,.string ⟨pv.toArray⟩] 52));have c0a:=(JI (a:=⟨wo.heap.size,0,none⟩) (JcY c0) (.cells #[.string ⟨pn.toArray⟩,.string ⟨pv.toArray⟩] 52)).trans c0;have hmy:=Ja (fun w=>JhS nm pn w);cases hM:Yv nm pn
            ·rw [hM] at hmy;have hr:R=false:=by rw [←HS.out];simp [okA,hM]
             subst hr;clear HS;go_wp2_with fail;refine (hmy.out _).mono ?_;rintro e w6 ⟨rfl,rfl⟩;go_wp2_with fail;go_ret;exact ⟨rfl,((HKO.out.trans HKA.out).trans hkx.out).trans HKC.out⟩
            ·rw [hM] at hmy;go_wp2_with fail;refine (hmy.out _).mono ?_;rintro e w6 ⟨rfl,h6⟩;subst h6;have r0:(wr.alloc (.cells #[.string ⟨pn.toArray⟩,.string ⟨pv.toArray⟩] 52)).cell? ⟨wr.heap.size,0,none⟩=some (.string ⟨pn.toArray⟩):=Jd HBC.out 0;have r1:(wr.alloc (.cells #[.string ⟨pn.toArray⟩,.string ⟨pv.toArray⟩] 52)).cell? ⟨wr.heap.size,1,none⟩=some (.string ⟨pv.toArray⟩):=Jd HBC.out 1;cases hh:(pn==[104,114,101,102])
             ·have ph:=(Jp pn _).trans hh;cases hc:(pn==[115,114,99])
              ·have pc:=(Jp pn _).trans hc;have HN:Hid (((at'.drop (m+1)).all (okA nm)&&rb)=R):=Ja (by rw [←HS.out];simp [okA,Yl,hM,hh,hc]);clear HS;go_wp2_with fail;refine ⟨⟨m+1,by omega,by go_num,Ja (hkx.out.trans HKC.out),HN⟩,?_⟩;simp [intOf];omega
              ·have pc:=(Jp pn _).trans hc;have hsf:=Ja (fun w=>JbB ⟨pv.toArray⟩ w (by rw [Jv];exact hpl));rw [Qc] at hsf;cases hS:Yd pv
               ·rw [hS] at hsf;have hr:R=false:=by rw [←HS.out];simp [okA,Yl,hM,hh,hc,hS]
                subst hr;clear HS;go_wp2_with fail;refine (hsf.out _).mono ?_;rintro e w3 ⟨rfl,hk3⟩;go_wp2_with fail;go_ret;exact ⟨rfl,((HKO.out.trans HKA.out).trans hkx.out).trans (HKC.out.trans hk3)⟩
               ·rw [hS] at hsf;have hlg:=Ja (fun w=>YY ⟨pv.toArray⟩ (by rw [Jv];unfold maxLen;omega) w);simp only [Jv] at hlg;cases hG:decide (3000<pv.length)
                ·rw [hG] at hlg;have HN:Hid (((at'.drop (m+1)).all (okA nm)&&rb)=R):=Ja (by rw [←HS.out];simp [okA,Yl,hM,hh,hc,hS,hG];try omega);clear HS hG;go_wp2_with fail;refine (hsf.out _).mono ?_;rintro e w3 ⟨rfl,hk3⟩;have hb3:=(hk3.block _ (lt_of_block HBC.out) List.not_mem_nil).trans HBC.out;have s1:w3.cell? ⟨wr.heap.size,1,none⟩=some (.string ⟨pv.toArray⟩):=Jd hb3 1;clear hb3;go_wp2_with fail;refine (hlg.out _).mono ?_;rintro e w4 ⟨rfl,h4⟩;obtain rfl:w3=w4:=h4.symm;go_wp2_with fail;refine ⟨⟨m+1,by omega,by go_num,Ja (hkx.out.trans (HKC.out.trans hk3)),HN⟩,?_⟩;simp [intOf];omega
                ·rw [hG] at hlg;have hr:R=false:=by rw [←HS.out];simp [okA,Yl,hM,hh,hc,hS,hG];try omega
                 subst hr;clear HS hG;go_wp2_with fail;refine (hsf.out _).mono ?_;rintro e w3 ⟨rfl,hk3⟩;have hb3:=(hk3.block _ (lt_of_block HBC.out) List.not_mem_nil).trans HBC.out;have s1:w3.cell? ⟨wr.heap.size,1,none⟩=some (.string ⟨pv.toArray⟩):=Jd hb3 1;clear hb3;go_wp2_with fail;refine (hlg.out _).mono ?_;rintro e w4 ⟨rfl,h4⟩;obtain rfl:w3=w4:=h4.symm;go_wp2_with fail;go_ret;exact ⟨rfl,((HKO.out.trans HKA.out).trans hkx.out).trans (HKC.out.trans hk3)⟩
             ·have ph:=(Jp pn _).trans hh;have hsf:=Ja (fun w=>JbB ⟨pv.toArray⟩ w (by rw [Jv];exact hpl));rw [Qc] at hsf;cases hS:Yd pv
              ·rw [hS] at hsf;have hr:R=false:=by rw [←HS.out];simp [okA,Yl,hM,hh,hS]
               subst hr;clear HS;go_wp2_with fail;refine (hsf.out _).mono ?_;rintro e w3 ⟨rfl,hk3⟩;go_wp2_with fail;go_ret;exact ⟨rfl,((HKO.out.trans HKA.out).trans hkx.out).trans (HKC.out.trans hk3)⟩
              ·rw [hS] at hsf;have hlg:=Ja (fun w=>YY ⟨pv.toArray⟩ (by rw [Jv];unfold maxLen;omega) w);simp only [Jv] at hlg;cases hG:decide (3000<pv.length)
               ·rw [hG] at hlg;have HN:Hid (((at'.drop (m+1)).all (okA nm)&&rb)=R):=Ja (by rw [←HS.out];simp [okA,Yl,hM,hh,hS,hG];try omega);clear HS hG;go_wp2_with fail;refine (hsf.out _).mono ?_;rintro e w3 ⟨rfl,hk3⟩;have hb3:=(hk3.block _ (lt_of_block HBC.out) List.not_mem_nil).trans HBC.out;have s1:w3.cell? ⟨wr.heap.size,1,none⟩=some (.string ⟨pv.toArray⟩):=Jd hb3 1;clear hb3;go_wp2_with fail;refine (hlg.out _).mono ?_;rintro e w4 ⟨rfl,h4⟩;obtain rfl:w3=w4:=h4.symm;go_wp2_with fail;refine ⟨⟨m+1,by omega,by go_num,Ja (hkx.out.trans (HKC.out.trans hk3)),HN⟩,?_⟩;simp [intOf];omega
               ·rw [hG] at hlg;have hr:R=false:=by rw [←HS.out];simp [okA,Yl,hM,hh,hS,hG];try omega
                subst hr;clear HS hG;go_wp2_with fail;refine (hsf.out _).mono ?_;rintro e w3 ⟨rfl,hk3⟩;have hb3:=(hk3.block _ (lt_of_block HBC.out) List.not_mem_nil).trans HBC.out;have s1:w3.cell? ⟨wr.heap.size,1,none⟩=some (.string ⟨pv.toArray⟩):=Jd hb3 1;clear hb3;go_wp2_with fail;refine (hlg.out _).mono ?_;rintro e w4 ⟨rfl,h4⟩;obtain rfl:w3=w4:=h4.symm;go_wp2_with fail;go_ret;exact ⟨rfl,((HKO.out.trans HKA.out).trans hkx.out).trans (HKC.out.trans hk3)⟩
           ·have he:m=at'.length:=by omega
            subst he;have hs:=HS.out;rw [List.drop_length] at hs;have HN:Hid (rb=R):=Ja (by simpa using hs);clear hs HS;go_wp2_with fail;refine ⟨⟨k+1,by omega,by go_num,Ja (HKO.out.trans (HKA.out.trans hkx.out)),Ja (HRB.out.trans HN.out)⟩,?_⟩;simp [intOf];omega
    ·have he:k=l.length:=by omega
     subst he;have hr:=hH.out;rw [List.drop_length] at hr;rw [List.map_nil,icL] at hr;subst hr;clear hH;go_wp2_with fail;go_ret;exact ⟨rfl,hkr.out⟩
theorem Jqe (s:ByteArray) (w:World) (hs:s.size≤2000000) (n:Nat):
 Calls Tryz.prog 63 #[.string s] (w.drewN n) fun e w'=>e=.returned (.string ⟨(J0 s.data.toList).toArray⟩)∧w'=w.drewN n:=Ji5 s (w.drewN n) hs
set_option maxRecDepth 4000 in
theorem Jjm (w:World) (v:Value) (l:List Jw) (hv:Jh w v l.length 2 (Jj l)) (hb:JY l≤1100000):
  Calls Tryz.prog 278 #[v] w fun e w'=>e=.returned (.string ⟨(J3 l).toArray⟩)∧ ∃ n,w'=w.drewN n:=by
 obtain ⟨o,c,rfl,h1,h2⟩:=hv.form;unfold maxLen at h2;go_enter Tryz.func278,Tryz.ntmps278;go_wp2_with fail;go_loopw [3,4] (fun o i wr=> ∃ (k:Nat) (S:ByteArray),k≤l.length∧i=.int .i64 k∧o=.string S∧Hid (S.data.toList=J3 (l.take k))∧Hid (∃ m,wr=w.drewN m)) (fun _ i _=>l.length - (intOf i).toNat)
 case atStart=>exact ⟨0,⟨#[]⟩,Nat.zero_le _,rfl,rfl,rfl,⟨0,rfl⟩⟩
 case round=>
  obtain ⟨k,S,hk,rfl,rfl,hS,hW⟩:=hrel;have hkw:Jb [] w wr:=by obtain ⟨m,hm⟩:=hW.out;rw [hm];exact (Jb.refl _ _).drewN _
  by_cases hlt:k<l.length
  ·obtain ⟨g,x,rfl,hca⟩:=(hv.keeps hkw).addr (by omega);have a0:=hca _ _ (Zw l k hlt);have a1:=hca _ _ (JaZ l k hlt);rw [←Nat.add_assoc] at a1;have hfk:=Jdh (List.getElem_mem hlt);have hpl:=JbA l k;have hts:=Jgp l k hlt;rw [←hS.out] at hts hpl;have hSl:S.size≤8 * JY l:=by rw [←Js];exact hpl
   generalize l[k]=p at *;obtain ⟨n,v⟩:=p;simp only at a0 a1 hfk;have hpv:=Jat v;have hput:=Ja (Jqe ⟨v.toArray⟩ wr (by rw [Jv];omega));rw [Qc] at hput;have hnl:(⟨n.toArray⟩:ByteArray).size≤1100000:=by rw [Jv];omega
   have hPl:(⟨(J0 v).toArray⟩:ByteArray).size≤6600000:=by rw [Jv];omega
   have HTS:Hid (∀ X:ByteArray,X.data.toList=S.data.toList++Yu (n,v)→X.data.toList=J3 (l.take (k+1))):=fun X hX=>by rw [hX,hts]
   have HP:Hid (∀ N P:ByteArray,N=⟨n.toArray⟩→P=⟨(J0 v).toArray⟩→(S++(⟨#[32]⟩++N++⟨#[61,34]⟩++P++⟨#[34]⟩)).data.toList=S.data.toList++Yu (n,v)):=fun N P hN hP=>by
    subst hN;subst hP;simp [Yu]
   have HP2:=HP.out _ _ rfl rfl;clear hts hpl hS hca hfk hpv HP;generalize (⟨(J0 v).toArray⟩:ByteArray)=P at *;generalize (⟨n.toArray⟩:ByteArray)=NB at *;have HP3:=Ja (HTS.out _ HP2);clear HP2 HTS;have q1: ¬ 9223372036854775807<1+NB.size:=by omega
   have q2: ¬ 9223372036854775807<1+NB.size+2:=by omega
   have q3: ¬ 9223372036854775807<1+NB.size+2+P.size:=by omega
   have q4: ¬ 9223372036854775807<1+NB.size+2+P.size+1:=by omega
   have q5: ¬ 9223372036854775807<S.size+(1+NB.size+2+P.size+1):=by omega
   go_wp2_with fail
   go_quiet ((go_at_call 63;exact Calls.quiet_of_same (hput.out _)))
   go_wp2_with fail;go_roundw
   case rel=>exact ⟨k+1,_,by omega,by go_num,rfl,HP3,by obtain ⟨m,hm⟩:=hW.out;exact ⟨m+nq,by rw [hm];simp⟩⟩
   case measure=>simp [intOf];omega
  ·have hall:l.take k=l:=List.take_of_length_le (by omega);have hSe:S=⟨(J3 l).toArray⟩:=WideShapes.bytes_inj (by rw [hS.out,hall]);subst hSe;clear hS;go_wp2_with fail;go_ret;exact ⟨rfl,hW.out⟩
set_option maxRecDepth 4000 in
theorem Jiu (w:World) (v:Value) (ts:List Tok) (hv:Jbd w v ts) (hb:Qh ts≤1100000) (hkd: ∀ t∈ts,t.kind=1∨t.kind=2∨t.kind=3):
  Calls Tryz.prog 202 #[v] w fun e w'=>e=.returned (.string ⟨(Qn ts).toArray⟩)∧ ∃ n,w'=w.drewN n:=by
 obtain ⟨l,rfl,hv,hva⟩:=hv;obtain ⟨o,c,rfl,h1,h2⟩:=hv.form;unfold maxLen at h2;go_enter Tryz.func202,Tryz.ntmps202;go_wp2_with fail;go_loopw [3,4] (fun o i wr=> ∃ (k:Nat) (S:ByteArray),k≤l.length∧i=.int .i64 k∧o=.string S∧Hid (S.data.toList=Qn ((l.take k).map (·.1)))∧Hid (∃ m,wr=w.drewN m)) (fun _ i _=>l.length - (intOf i).toNat)
 case atStart=>exact ⟨0,⟨#[]⟩,Nat.zero_le _,rfl,rfl,rfl,⟨0,rfl⟩⟩
 case round=>
  obtain ⟨k,S,hk,rfl,rfl,hS,hW⟩:=hrel;have hkw:Jb [] w wr:=by obtain ⟨m,hm⟩:=hW.out;rw [hm];exact (Jb.refl _ _).drewN _
  by_cases hlt:k<l.length
  ·obtain ⟨g,x,rfl,hc⟩:=(hv.keeps hkw).addr (by omega);obtain ⟨a0,a1,a2,a3⟩:=JbS hc k hlt;have hkk:=hkd l[k].1 (List.mem_map_of_mem (List.getElem_mem hlt));have hfk:=Jcd (List.mem_map_of_mem (f:=(·.1)) (List.getElem_mem hlt));have hpa:=hva l[k] (List.getElem_mem hlt);have hpl:=Jjh l k;have hts:=Jh2 l k hlt;rw [←hS.out] at hts hpl;have hSl:S.size≤8 * Qh (l.map (·.1)):=by rw [←Js];exact hpl
   have hab:=fun (hq:JY l[k].1.attrs≤1100000) (n:Nat)=>Jjm (wr.drewN n) l[k].2 l[k].1.attrs (hpa.keeps (hkw.drewN n)) hq;generalize l[k]=p at *;obtain ⟨⟨kp,np,ap,xp⟩,vp⟩:=p;simp only at a0 a1 a2 a3 hkk hab hpa hts;unfold Yc at hfk;simp only at hfk;obtain ⟨op,cp,rfl,hp1,hp2⟩:=hpa.form;unfold maxLen at hp2;have HTS:Hid (∀ X:ByteArray,X.data.toList=S.data.toList++XS ⟨kp,np,ap,xp⟩→X.data.toList=Qn ((l.take (k+1)).map (·.1))):=fun X hX=>by rw [hX,hts]
   have hAB:=Ja (hab (by omega));have hpx:=Jat xp;have hap:=JbA ap ap.length;rw [List.take_length] at hap;clear hts hpl hS hc hab hpa;have hnl:(⟨np.toArray⟩:ByteArray).size≤1100000:=by rw [Jv];omega
   rcases hkk with rfl | rfl | rfl
   ·have hput:=Ja (fun w=>Ji5 ⟨xp.toArray⟩ w (by rw [Jv];omega));rw [Qc] at hput;have hPl:(⟨(J0 xp).toArray⟩:ByteArray).size≤6600000:=by rw [Jv];omega
    have HP:=Ja (HTS.out (S++⟨(J0 xp).toArray⟩) (by simp [XS]));clear HTS hAB hpx hap;generalize (⟨(J0 xp).toArray⟩:ByteArray)=P at *;have q1: ¬ 9223372036854775807<S.size+P.size:=by omega
    go_wp2_with fail;refine (hput.out _).mono ?_;rintro e w3 ⟨rfl,rfl⟩;go_wp2_with fail;go_roundw
    case rel=>exact ⟨k+1,_,by omega,by go_num,rfl,HP,hW⟩
    case measure=>simp [intOf];omega
   ·have hPl:(⟨(J3 ap).toArray⟩:ByteArray).size≤8800000:=by rw [Jv];omega
    have HP:=Ja (HTS.out (S++(⟨#[60]⟩++⟨np.toArray⟩++⟨(J3 ap).toArray⟩++⟨#[62]⟩)) (by simp [XS,Jbz]));clear HTS hpx hap;generalize (⟨(J3 ap).toArray⟩:ByteArray)=P at *;generalize (⟨np.toArray⟩:ByteArray)=NB at *;have q1: ¬ 9223372036854775807<1+NB.size:=by omega
    have q2: ¬ 9223372036854775807<1+NB.size+P.size:=by omega
    have q3: ¬ 9223372036854775807<1+NB.size+P.size+1:=by omega
    have q4: ¬ 9223372036854775807<S.size+(1+NB.size+P.size+1):=by omega
    go_wp2_with fail
    go_quiet ((go_at_call 278;exact Calls.quiet_of (hAB.out _)))
    go_wp2_with fail;go_roundw
    case rel=>exact ⟨k+1,_,by omega,by go_num,rfl,HP,by obtain ⟨m,hm⟩:=hW.out;exact ⟨m+nq,by rw [hm];simp⟩⟩
    case measure=>simp [intOf];omega
   ·have HP:=Ja (HTS.out (S++(⟨#[60,47]⟩++⟨np.toArray⟩++⟨#[62]⟩)) (by simp [XS]));clear HTS hpx hap hAB;generalize (⟨np.toArray⟩:ByteArray)=NB at *;have q1: ¬ 9223372036854775807<2+NB.size:=by omega
    have q2: ¬ 9223372036854775807<2+NB.size+1:=by omega
    have q3: ¬ 9223372036854775807<S.size+(2+NB.size+1):=by omega
    go_wp2_with fail;go_roundw
    case rel=>exact ⟨k+1,_,by omega,by go_num,rfl,HP,hW⟩
    case measure=>simp [intOf];omega
  ·have hall:l.take k=l:=List.take_of_length_le (by omega);have hSe:S=⟨(Qn (l.map (·.1))).toArray⟩:=WideShapes.bytes_inj (by rw [hS.out,hall]);subst hSe;clear hS;go_wp2_with fail;go_ret;exact ⟨rfl,hW.out⟩
theorem JgA:(ns:List Nd)→J1 ns≤40000→Vls ns
 | [],_=>by simp [Vls]
 | .mk n a t k::r,h=>by
   rw [J1] at h;rw [Vls];exact ⟨fun p hp=>by have:=Jdh hp;omega,JgA k (by omega),JgA r (by omega)⟩
theorem Jd9:(ns:List Nd)→ ∀ t∈JX ns,t.kind=1∨t.kind=2∨t.kind=3
 | [],t,h=>by simp [JX] at h
 | .mk n a x k::r,t,h=>by
   rw [JX] at h;rcases List.mem_append.1 h with h | h
   ·split at h
    ·simp at h;subst h;exact .inl rfl
    ·rcases List.mem_cons.1 h with rfl | h
     ·exact .inr (.inl rfl)
     ·rcases List.mem_append.1 h with h | h
      ·exact Jd9 k t h
      ·split at h
       ·simp at h
       ·simp at h;subst h;exact .inr (.inr rfl)
   ·exact Jd9 r t h
theorem Je9 (s:List UInt8) (w:World) (hs:s.length≤3000):
  Calls Tryz.prog 130 #[.string ⟨s.toArray⟩] w fun e w'=>e=.returned (.bool (Yo s))∧Jb [] w w':=by
 have hlg:=Ja (YY ⟨s.toArray⟩ (by rw [Jv];unfold maxLen;omega) w);simp only [Jv] at hlg;rw [decide_eq_false (show ¬ 3000<s.length by omega)] at hlg;have htr:=Ja (JnX s w hs);obtain ⟨f1,_,f3,f4,_,_,_,_,_,_⟩:=Jec [] s hs;have hrt:=(Jbi _).1 f3;have hic:=Jq7 _ hrt.2;have hem:=Jdo _ _ _ hrt.2;have fB:=Jaz (JP (JL s)) (by omega);have hvl:=JgA (JP (JL s)) (by omega);have hfb:=Jbo (JP (JL s));have hnb:=Jbx (JP (JL s));have hkd:=Jd9 (JP (JL s));have hcl:=Ja (fun (w1:World) (P:Nat→Prop) (v:Value) (h:Ns w1 P v (JP (JL s)))=>Jkm P w1 v _ h w1 (Jb.refl _ _) hvl);have hfl:=Ja (fun (w1 w2:World) (P:Nat→Prop) (v:Value) (h:Ns w1 P v (JP (JL s))) (hk:Jb [] w1 w2)=>Jpi P w1 v _ h w2 hk hem fB.2 (by omega));have htb:=Ja (fun (w1:World) (v:Value) (h:Jbd w1 v (JX (JP (JL s))))=>Jiu w1 v _ h (by omega) hkd);rw [hic] at hcl;unfold Yo;clear f1 f3 f4 hrt hic hem fB hvl hfb hnb hkd hs;generalize decide (isE (JP (JL s))=0)=B at *;obtain ⟨FL,hFL⟩: ∃ FL,JX (JP (JL s))=FL:=⟨_,rfl⟩;rw [hFL] at hfl htb ⊢;clear hFL;generalize JP (JL s)=BL at *;obtain ⟨PL,hPL⟩: ∃ PL,Qn FL=PL:=⟨_,rfl⟩;rw [hPL] at htb ⊢;clear hPL;have hse:((⟨PL.toArray⟩:ByteArray).toList==(⟨s.toArray⟩:ByteArray).toList)=(PL==s):=by rw [Jca,Bool.eq_iff_iff];simp
 obtain ⟨E,hE⟩: ∃ E,(PL==s)=E:=⟨_,rfl⟩;rw [hE] at hse ⊢;have HE:=Ja hE;clear hE;go_enter Tryz.func130,Tryz.ntmps130;go_wp2_with fail;refine hlg.out.mono ?_;rintro e w1 ⟨rfl,h1⟩;obtain rfl:w=w1:=h1.symm;go_wp2_with fail;refine htr.out.mono ?_;rintro e w2 ⟨v,rfl,hns,hk2⟩;obtain ⟨o,c,rfl⟩:=hns.form;have hcl2:=Ja (hcl.out w2 _ _ hns);have HNS:=Ja hns;have HK2:=Ja hk2;clear hns hk2 hcl htr;cases B
 ·go_wp2_with fail;refine hcl2.out.mono ?_;rintro e w3 ⟨rfl,hk3⟩;go_wp2_with fail;go_ret;exact ⟨by simp,HK2.out.trans hk3⟩
 ·go_wp2_with fail;refine hcl2.out.mono ?_;rintro e w3 ⟨rfl,hk3⟩;have hfl3:=Ja (hfl.out w2 w3 _ _ HNS.out hk3);have HK3:=Ja (HK2.out.trans hk3);clear hk3 hcl2;go_wp2_with fail;refine hfl3.out.mono ?_;rintro e w4 ⟨v4,rfl,ht4,hk4⟩;have htb4:=Ja (htb.out w4 v4 ht4.toks);obtain ⟨l4,_,hr4,_⟩:=ht4;obtain ⟨o4,c4,rfl⟩:=Jg hr4;have HK4:=Ja (HK3.out.trans hk4);clear hk4 hfl3 hr4 htb hfl;go_wp2_with fail;refine htb4.out.mono ?_;rintro e w5 ⟨rfl,m,h5⟩;have hk5:Jb [] w w5:=by rw [h5];exact HK4.out.drewN _
  clear h5;go_wp2_with fail;go_ret;exact ⟨by simp [HE.out],hk5⟩
def JbI (v:Value):Prop:= ∃ o n c,v=.slice o n c
theorem Jh.sl {w:World} {v:Value} {n z:Nat} {xs:List Value} (h:Jh w v n z xs):JbI v:=by
 obtain ⟨o,c,h,_,_⟩:=h.form;exact ⟨o,n,c,h⟩
def Jco (w:World) (ev rv:Value) (n C:Int) (S:Sh) (N:Int):Prop:=
 (C=0→Jh w ev S.es.length 5 (Je S.es)∧Jh w rv S.rd.length 1 (Jq S.rd)∧n=N)∧(C≠0→ev=.slice none 0 0∧rv=.slice none 0 0∧n=0)∧JbI ev∧JbI rv
def JaV (w:World) (ev rv:Value) (n C:Int) (S:Sh) (N:Int):Prop:=
 (C=0→Jh w ev S.es.length 5 (Je S.es)∧Jh w rv S.rd.length 1 (Jq S.rd)∧n=N)∧JbI ev∧JbI rv
theorem Jco.keeps {w w':World} {ev rv:Value} {n C:Int} {S:Sh} {N:Int} (h:Jco w ev rv n C S N) (hk:Jb [] w w'):Jco w' ev rv n C S N:=
 ⟨fun h0=>⟨(h.1 h0).1.keeps hk,(h.1 h0).2.1.keeps hk,(h.1 h0).2.2⟩,h.2⟩
theorem JaV.keeps {w w':World} {ev rv:Value} {n C:Int} {S:Sh} {N:Int} (h:JaV w ev rv n C S N) (hk:Jb [] w w'):JaV w' ev rv n C S N:=
 ⟨fun h0=>⟨(h.1 h0).1.keeps hk,(h.1 h0).2.1.keeps hk,(h.1 h0).2.2⟩,h.2⟩
theorem Jck:JbI (.slice none 0 0):=⟨none,0,0,rfl⟩
theorem JeY {w:World} {B:Nat} {ev rv:Value} {n:Int} {S:Sh} (h:Jcz w B ev rv S):Jco w ev rv n 0 S n:=
 ⟨fun _=>⟨h.lies.1,h.lies.2,rfl⟩,fun h=>absurd rfl h,h.lies.1.sl,h.lies.2.sl⟩
theorem Jgw {w:World} {C:Int} {S:Sh} {N:Int} (h:C≠0):Jco w (.slice none 0 0) (.slice none 0 0) 0 C S N:=
 ⟨fun h0=>absurd h0 h,fun _=>⟨rfl,rfl,rfl⟩,Jck,Jck⟩
theorem JdG (w:World) (e1 r1 e2 r2:Value) (n1 n2 C:Int) (S:Sh) (N:Int) (h1:Jco w e1 r1 n1 C S N) (h2:JaV w e2 r2 n2 C S N):
  Calls Tryz.prog 52 #[.agg #[e1,r1],.int .i64 n1,.int .i64 C,.int .i64 C,.agg #[e2,r2],.int .i64 n2] w fun e w'=>e=.returned (.bool true)∧Jb [] w w':=by
 by_cases hC:C=0
 ·subst hC;obtain ⟨a1,a2,rfl⟩:=h1.1 rfl;obtain ⟨b1,b2,rfl⟩:=h2.1 rfl;exact JkL w e1 r1 e2 r2 S _ a1 a2 b1 b2
 ·obtain ⟨rfl,rfl,rfl⟩:=h1.2.1 hC;obtain ⟨_,⟨o3,n3,c3,rfl⟩,⟨o4,n4,c4,rfl⟩⟩:=h2;exact JlP w C o3 o4 n3 c3 n4 c4 n2 hC
section
variable (w:World) (ev rv:Value) (s:Sh) (he:Jh w ev s.es.length 5 (Je s.es)) (hr:Jh w rv s.rd.length 1 (Jq s.rd)) (hf: ∀ x∈s.es,Xh x) (hM:JW w)
include he hr hf hM
theorem Jp5 (v:Value) (l:List En) (hv:Jh w v l.length 5 (Je l)) (hfl: ∀ x∈l,Xh x):
  Calls Tryz.prog 41 #[.agg #[ev,rv],v] w fun e w'=> ∃ ev' rv' n,e=.returned (.tuple #[.agg #[ev',rv'],.int .i64 n,.int .i64 (Ye s l)])∧Jco w' ev' rv' n (Ye s l) ⟨Qy s.es l,s.rd⟩ (Ql (Qy s.es l) s.es)∧Jb [] w w':=by
 by_cases h0:Ye s l=0
 ·refine (JhM w ev rv v s l he hr hv hf hfl hM h0).mono ?_;rintro e w' ⟨ev',rv',rfl,ho,hk⟩;exact ⟨ev',rv',_,by rw [h0],by rw [h0];exact JeY ho,hk⟩
 ·refine (Jp6 w ev rv v s l he hr hv hf hfl hM h0).mono ?_;rintro e w' ⟨rfl,hk⟩;exact ⟨_,_,_,rfl,Jgw h0,hk⟩
theorem Jnb (id:List UInt8) (read:Bool):
  Calls Tryz.prog 42 #[.agg #[ev,rv],.string ⟨id.toArray⟩,.bool read] w fun e w'=> ∃ ev' rv',e=.returned (.tuple #[.agg #[ev',rv'],.int .i64 (XM s id read)])∧Jco w' ev' rv' 0 (XM s id read) ⟨s.es,XE s.rd id read⟩ 0∧Jb [] w w':=by
 by_cases h0:XM s id read=0
 ·refine (Jgo w ev rv s id read he hr hf hM h0).mono ?_;rintro e w' ⟨ev',rv',rfl,ho,hk⟩;exact ⟨ev',rv',by rw [h0],by rw [h0];exact JeY ho,hk⟩
 ·refine (Jnc w ev rv s id read he hr hf hM h0).mono ?_;rintro e w' ⟨rfl,hk⟩;exact ⟨_,_,rfl,Jgw h0,hk⟩
theorem JmR:
  Calls Tryz.prog 43 #[.agg #[ev,rv]] w fun e w'=> ∃ ev' rv' n,e=.returned (.tuple #[.agg #[ev',rv'],.int .i64 n,.int .i64 (J7 s)])∧Jco w' ev' rv' n (J7 s) ⟨JS s.es s.rd,s.rd⟩ ((s.es.length:Int) - ((JS s.es s.rd).length:Int))∧Jb [] w w':=by
 by_cases h0:J7 s=0
 ·refine (Jdy w ev rv s he hr hf hM h0).mono ?_;rintro e w' ⟨ev',rv',rfl,ho,hk⟩;exact ⟨ev',rv',_,by rw [h0],by rw [h0];exact JeY ho,hk⟩
 ·refine (Jhm w ev rv s he hr hf hM h0).mono ?_;rintro e w' ⟨rfl,hk⟩;exact ⟨_,_,_,rfl,Jgw h0,hk⟩
theorem Jk0:
  Calls Tryz.prog 44 #[.agg #[ev,rv]] w fun e w'=> ∃ v,e=.returned (.tuple #[v,.int .i64 (J7 s)])∧Jh w' v (if J7 s=0 then (JS s.es s.rd).map (·.id) else []).length 1 (Jq (if J7 s=0 then (JS s.es s.rd).map (·.id) else []))∧Jb [] w w':=by
 by_cases h0:J7 s=0
 ·refine (JeS w ev rv s he hr hf hM h0).mono ?_;rintro e w' ⟨v,rfl,ho,hk⟩;exact ⟨v,by rw [h0],by rw [if_pos h0];exact Jh.of_row ho,hk⟩
 ·refine (Jk1 w ev rv s he hr hf hM h0).mono ?_;rintro e w' ⟨rfl,hk⟩;exact ⟨_,rfl,by rw [if_neg h0];exact ⟨rfl,.inl ⟨rfl,rfl⟩⟩,hk⟩
end
theorem JkE (x:En) (w:World) (hF:Xh x):Calls Tryz.prog 46 #[.agg (Jo x).toArray] w fun e w'=>e=.returned (.int .i64 (Xc x))∧Jb [] w w':=
 JfB x w hF (fun w1 _ h=>Je9 x.html w1 h)
theorem JkF (w:World) (ev rv:Value) (s:Sh) (he:Jh w ev s.es.length 5 (Je s.es)) (hr:Jh w rv s.rd.length 1 (Jq s.rd)) (hf: ∀ x∈s.es,Xh x) (hrl: ∀ x∈s.rd,x.length≤maxLen):
  Calls Tryz.prog 45 #[.agg #[ev,rv]] w fun e w'=>e=.returned (.int .i64 (J7 s))∧Jb [] w w':=
 JkG w ev rv s he hr hf hrl (fun x _ w1 _ h=>Je9 x.html w1 h)
theorem Joe {s:Sh} {id:List UInt8} {read:Bool} (h:J7 s=0):XM s id read=Jgy s id read:=by
 unfold XM Jgy;rw [if_neg (by rw [h];decide)]
end Go.Proofs.YtlcljanibjdejaaGreat
