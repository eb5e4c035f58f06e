/- ShelfTells holds: the law returns true for every input, and each argument reads behind the call as it read before; no condition. A part of its proof. -/
import Derived.Test.YtlcljanibjdejaaGreatSt06
import Derived.Deep.SlicePairs
import Derived.Laws.ResultCell
set_option maxHeartbeats 64000000
namespace Go.Proofs.YtlcljanibjdejaaGreat
theorem YC {l:List UInt8} {k:Nat} {a:UInt8} {r:List UInt8} (h:l.drop k=a::r):k<l.length∧l.getD k 0=a∧l.drop (k+1)=r∧l.length=k+1+r.length:=by
 have hk:k<l.length:=by
  rcases Nat.lt_or_ge k l.length with h' | h'
  ·exact h'
  ·rw [List.drop_eq_nil_of_le h'] at h;simp at h
 have e:=List.drop_eq_getElem_cons hk;rw [h] at e;simp only [List.cons.injEq] at e;refine ⟨hk,?_,e.2.symm,?_⟩
 ·rw [List.getD_eq_getElem?_getD,List.getElem?_eq_getElem hk];exact e.1.symm
 ·have:=congrArg List.length h;rw [List.length_drop] at this;simp at this;omega
theorem JdO {l:List UInt8} {k:Nat} {a:UInt8} {r:List UInt8} (h:l.drop k=a::r) (ha:a≠60) (p:List UInt8):stL l k (60::p)=false:=by
 unfold stL;rw [h];have:((60:UInt8)==a)=false:=by simpa using Ne.symm ha
 simp [List.isPrefixOf,this]
theorem JnV {l:List UInt8} {k:Nat} {a:UInt8} {r:List UInt8} (h:l.drop k=a::r) (ha:a≠60) (raw:List UInt8) (out:List Tok):
  Qa l k raw out=some (k+1+(r.takeWhile YE).length,raw++[a]++r.takeWhile YE,out):=by
 obtain ⟨h1,h2,h3,_⟩:=YC h;have e1:=JdO h ha [];have e2:=JdO h ha [47];have e3:=JdO h ha [33,45,45];have e4:=JdO h ha [33];have e5:=JdO h ha [63];unfold Qa XD;rw [e1,e2,e3,e4,e5];simp only [Bool.false_and,Bool.false_or,Bool.false_eq_true,if_false];unfold Jaw;rw [h2,h3]
theorem JrF {s:List UInt8} (h: ∀ c∈s,c≠60):s.takeWhile YE=s:=by
 induction s with
 | nil=>rfl
 | cons a s ih=>
   have:YE a=true:=by simp [YE,h a (by simp)]
   rw [List.takeWhile_cons,this];simp [ih (fun c hc=>h c (by simp [hc]))]
theorem JpL {s t:List UInt8} (h: ∀ c∈s,c≠60):(s++60::t).takeWhile YE=s:=by
 induction s with
 | nil=>rfl
 | cons a s ih=>
   have:YE a=true:=by simp [YE,h a (by simp)]
   rw [List.cons_append,List.takeWhile_cons,this];simp [ih (fun c hc=>h c (by simp [hc]))]
theorem YK {f:UInt8→Bool} {sk:List UInt8} {d:UInt8} {q:List UInt8} (h: ∀ x∈sk,f x=true) (hd:f d=false):(sk++d::q).takeWhile f=sk:=by
 induction sk with
 | nil=>simp [hd]
 | cons a sk ih=>
   rw [List.cons_append,List.takeWhile_cons,h a (by simp)];simp [ih (fun x hx=>h x (by simp [hx]))]
theorem JnY {qu:UInt8} (hq:qu=34∨qu=39) (V t:List UInt8) (hV: ∀ x∈V,x≠qu):XL (qu::(V++qu::t))=some (V,V.length+2):=by
 have h:=YK (f:=(· != qu)) (sk:=V) (d:=qu) (q:=t) (fun x hx=>by simpa using hV x hx) (by simp);unfold XL;simp only [if_pos hq];rw [h,if_pos (by simp)]
theorem Joc {l:List UInt8} {f k:Nat} {acc:List Jw} {sk q:List UInt8} (h:l.drop k=sk++62::q) (hsk: ∀ x∈sk,XB x=true):JM l (f+1) k acc=some (acc,k+sk.length):=by
 have e1:(l.drop k).takeWhile XB=sk:=by rw [h];exact YK hsk (by decide)
 have e2:l.drop (k+sk.length)=62::q:=by rw [←Q4,h,List.drop_left]
 rw [JM,e1,e2];simp
theorem Jod {l:List UInt8} {f k:Nat} {acc:List Jw} {sk q:List UInt8} {d:UInt8} {p:Jw} {m:Nat} (h:l.drop k=sk++d::q) (hsk: ∀ x∈sk,XB x=true) (hd:XB d=false) (h62:d≠62) (ha:Xm (d::q)=some (p,m))
  (hnew:p.1∉acc.map (·.1)) (hn:JB p.1=true):JM l (f+1) k acc=JM l f (k+sk.length+m) (acc++[p]):=by
 have e1:(l.drop k).takeWhile XB=sk:=by rw [h];exact YK hsk hd
 have e2:l.drop (k+sk.length)=d::q:=by rw [←Q4,h,List.drop_left]
 rw [JM,e1,e2];simp only [if_neg h62,ha];rw [if_neg (by simp only [hn];simpa using hnew)]
theorem Jnx (c d:UInt8) (h:d∈Yy c):d≠60∧d≠62∧d≠34:=by
 unfold Yy at h;split at h
 ·simp at h;rcases h with h | h | h | h | h<;>subst h<;>decide
 ·split at h
  ·simp at h;rcases h with h | h | h | h<;>subst h<;>decide
  ·split at h
   ·simp at h;rcases h with h | h | h | h<;>subst h<;>decide
   ·split at h
    ·simp at h;rcases h with h | h | h | h | h | h<;>subst h<;>decide
    ·rename_i h1 h2 h3 h4;simp at h;subst h;exact ⟨h2,h3,h4⟩
theorem Jes (l:List UInt8) (d:UInt8) (h:d∈J0 l):d≠60∧d≠62∧d≠34:=by
 simp only [J0,List.mem_flatMap] at h;obtain ⟨c,_,hc⟩:=h;exact Jnx c d hc
theorem JaI {c:UInt8} (h:Ym c=true):QJ c=true∧Qj c=true∧Z8 c=c∧XB c=false∧c≠62:=by
 have h256: ∀ i:Fin 256,Ym (UInt8.ofNat i.val)=true→QJ (UInt8.ofNat i.val)=true∧Qj (UInt8.ofNat i.val)=true∧Z8 (UInt8.ofNat i.val)=UInt8.ofNat i.val∧XB (UInt8.ofNat i.val)=false∧UInt8.ofNat i.val≠62:=by decide+kernel
 have:=h256 ⟨c.toNat,UInt8.toNat_lt c⟩;simp only [UInt8.ofNat_toNat] at this;exact this h
theorem JeP {c:UInt8} (h:Xt c=true):J2 c=true:=by simp [J2,h]
theorem JcH {n:List UInt8} (h:JB n=true):(∀ c∈n,Ym c=true)∧ ∃ c r,n=c::r∧Xt c=true:=by
 unfold JB at h;simp only [Bool.and_eq_true,decide_eq_true_eq,List.all_eq_true] at h;obtain ⟨⟨⟨h1,_⟩,h3⟩,h4⟩:=h;refine ⟨h4,?_⟩;cases n with
 | nil=>simp at h1
 | cons c r=>exact ⟨c,r,rfl,by simpa using h3⟩
theorem Jek {n:List UInt8} (h: ∀ c∈n,Ym c=true):Jx n=n:=by
 unfold Jx
 induction n with
 | nil=>rfl
 | cons a n ih=>
   rw [List.map_cons,(JaI (h a (by simp))).2.2.1,ih (fun c hc=>h c (by simp [hc]))]
theorem Jjn {n v t:List UInt8} (hn:JB n=true):Xm (n++[61,34]++J0 v++[34]++t)=some ((n,v),n.length+2+(J0 v).length+1):=by
 obtain ⟨hall,c,r,rfl,hc⟩:=JcH hn;have hr: ∀ x∈r,Qj x=true:=fun x hx=>(JaI (hall x (by simp [hx]))).2.1;have e0:c::r++[61,34]++J0 v++[34]++t=c::(r++61::(34::(J0 v++34::t))):=by simp
 rw [e0];have hL:(r++61::(34::(J0 v++34::t))).takeWhile Qj=r:=YK hr (by decide);have hd:(c::(r++61::(34::(J0 v++34::t)))).drop (1+r.length)=61::(34::(J0 v++34::t)):=by
  rw [show c::(r++61::(34::(J0 v++34::t)))=(c::r)++61::(34::(J0 v++34::t)) from rfl,show 1+r.length=(c::r).length from by simp;omega,List.drop_left]
 have hW:((c::(r++61::(34::(J0 v++34::t)))).drop (1+r.length)).takeWhile JA=[]:=by rw [hd];rfl
 rw [JdU _ _ r [] hL hW];have hv:=JnY (.inl rfl) (J0 v) t (fun x hx=>(Jes v x hx).2.2);have hw:(34::(J0 v++34::t)).takeWhile JA=[]:=rfl;simp only [List.length_nil,Nat.add_zero,hd,if_true,hw,List.drop_zero,hv];rw [Jek hall,JeA];simp;omega
theorem JeE (L:List UInt8): ∀ (la acc:List Jw) (f k:Nat) (t:List UInt8),L.drop k=J3 la++62::t→la.length<f→QR la (acc.map (·.1))=0→JM L f k acc=some (acc++la,k+(J3 la).length)
 | [],acc,f,k,t,h,hf,_=>by
   obtain ⟨g,rfl⟩: ∃ g,f=g+1:=⟨f - 1,by simp at hf;omega⟩;rw [Joc (sk:=[]) (by simpa [J3] using h) (by simp)];simp [J3]
 | p::la,acc,f,k,t,h,hf,hc=>by
   obtain ⟨g,rfl⟩: ∃ g,f=g+1:=⟨f - 1,by simp at hf;omega⟩;unfold QR at hc;have hn:JB p.1=true:=by
    cases hq:JB p.1
    ·simp [hq] at hc
    ·rfl
   have hm:p.1∉acc.map (·.1):=by
    intro hm;simp [hn,hm] at hc
   have hc':QR la ((acc++[p]).map (·.1))=0:=by
    rw [List.map_append];simpa [hn,hm] using hc
   have ha:=Jjn (v:=p.2) (t:=J3 la++62::t) hn;obtain ⟨hall,c,r,hcr,_⟩:=JcH hn;have e1:L.drop k=[32]++c::(r++[61,34]++J0 p.2++[34]++(J3 la++62::t)):=by
    rw [h];simp [J3,Yu,hcr]
   have ha':Xm (c::(r++[61,34]++J0 p.2++[34]++(J3 la++62::t)))=some (p,p.1.length+2+(J0 p.2).length+1):=by
    rw [←ha,hcr];simp
   have hcf:=JaI (hall c (by rw [hcr];simp));rw [Jod e1 (by decide) hcf.2.2.2.1 hcf.2.2.2.2 ha' hm hn];have hlen:(Yu p).length=1+(p.1.length+2+(J0 p.2).length+1):=by simp [Yu];omega
   have e2:L.drop (k+([32]:List UInt8).length+(p.1.length+2+(J0 p.2).length+1))=J3 la++62::t:=by
    rw [show k+([32]:List UInt8).length+(p.1.length+2+(J0 p.2).length+1)=k+(Yu p).length from by rw [hlen];simp;omega, ←Q4,h,show J3 (p::la)=Yu p++J3 la from by simp [J3],List.append_assoc,List.drop_left]
   rw [JeE L la (acc++[p]) g _ t e2 (by simp at hf;omega) hc'];have e3:J3 (p::la)=Yu p++J3 la:=by simp [J3]
   rw [e3,List.length_append,hlen];simp;omega
theorem Jg8 {t:Tok} (h:Xi t=0):
  (∃ x,x≠[]∧t=⟨1,[],[],x⟩)∨(∃ n a,JB n=true∧QR a []=0∧t=⟨2,n,a,[]⟩)∨(∃ n,JB n=true∧t=⟨3,n,[],[]⟩):=by
 obtain ⟨kd,nm,la,tx⟩:=t;unfold Xi at h;simp only at h;by_cases k1:kd=1
 ·subst k1;rw [if_pos rfl] at h;split at h
  ·simp at h
  ·rename_i hc;simp only [not_or,Classical.not_not,ne_eq] at hc;obtain ⟨rfl,rfl,h3⟩:=hc;exact .inl ⟨tx,h3,rfl⟩
 ·rw [if_neg k1] at h;by_cases k2:kd=2
  ·subst k2;rw [if_pos rfl] at h;split at h
   ·simp at h
   ·rename_i hc;simp only [not_or,Classical.not_not,ne_eq] at hc;obtain ⟨rfl,h3⟩:=hc;exact .inr (.inl ⟨nm,la,by simpa using h3,h,rfl⟩)
  ·rw [if_neg k2] at h;by_cases k3:kd=3
   ·subst k3;rw [if_pos rfl] at h;split at h
    ·simp at h
    ·rename_i hc;simp only [not_or,Classical.not_not,ne_eq] at hc;obtain ⟨rfl,rfl,h3⟩:=hc;exact .inr (.inr ⟨nm,by simpa using h3,rfl⟩)
   ·rw [if_neg k3] at h;simp at h
theorem JcZ {p:Int} {t:Tok} {r:List Tok} (h:Qi p (t::r)=0):Xi t=0∧¬ (t.kind=1∧p=1)∧Qi t.kind r=0:=by
 unfold Qi at h;split at h
 ·rename_i hc;exact absurd h hc
 ·rename_i hc;split at h
  ·simp at h
  ·rename_i h2;exact ⟨by simpa using hc,h2,h⟩
theorem JsO (c:UInt8):Yy c≠[]:=by
 unfold Yy
 repeat (first | (split) | simp)
theorem Jp9 {x:List UInt8} (h:x≠[]): ∃ a r,J0 x=a::r:=by
 cases x with
 | nil=>exact absurd rfl h
 | cons c x=>
   cases hp:J0 (c::x) with
   | nil=>
     have e:J0 (c::x)=Yy c++J0 x:=by simp [J0]
     rw [e] at hp;exact absurd (List.append_eq_nil_iff.1 hp).1 (JsO c)
   | cons a r=>exact ⟨a,r,rfl⟩
theorem JnW {r:List Tok} (h:Qi 1 r=0):Qn r=[]∨ ∃ z,Qn r=60::z:=by
 cases r with
 | nil=>exact .inl rfl
 | cons t r=>
   obtain ⟨h1,h2,_⟩:=JcZ h;have e:Qn (t::r)=XS t++Qn r:=by simp [Qn]
   rcases Jg8 h1 with ⟨x,_,rfl⟩ | ⟨n,a,_,_,rfl⟩ | ⟨n,_,rfl⟩
   ·exact absurd ⟨rfl,rfl⟩ h2
   ·exact .inr ⟨_,by rw [e];simp [XS,Jbz];rfl⟩
   ·exact .inr ⟨_,by rw [e];simp [XS];rfl⟩
theorem Jnm (la:List Jw) (t:List UInt8): ∃ d q,J3 la++62::t=d::q∧QJ d=false:=by
 cases la with
 | nil=>exact ⟨62,t,rfl,by decide⟩
 | cons p la=>exact ⟨32,_,by simp [J3,Yu];rfl,by decide⟩
theorem JpX (la:List Jw):la.length≤(J3 la).length:=by
 induction la with
 | nil=>simp
 | cons p la ih=>
   have e:J3 (p::la)=Yu p++J3 la:=by simp [J3]
   rw [e,List.length_append];have:1≤(Yu p).length:=by simp [Yu]
   simp only [List.length_cons];omega
theorem Jnl {L:List UInt8} {k:Nat} {n t:List UInt8} {la:List Jw} (h:L.drop k=60::(n++(J3 la++62::t))) (hn:JB n=true) (ha:QR la []=0) (raw:List UInt8) (out:List Tok):
  Qa L k raw out=some (k+(XS ⟨2,n,la,[]⟩).length,[],out++Xp raw++[⟨2,n,la,[]⟩]):=by
 obtain ⟨hall,c,r,rfl,hc⟩:=JcH hn;obtain ⟨h1,_,h3,h4⟩:=YC h;obtain ⟨g1,g2,_,_⟩:=YC (show L.drop (k+1)=c::(r++(J3 la++62::t)) from h3);have e1:XD L k [60]=true:=by
  unfold XD stL;rw [h];have e:L.getD (k+([60]:List UInt8).length) 0=c:=g2;rw [e,JeP hc];simp [List.isPrefixOf];exact g1
 obtain ⟨d,q,hd,hdt⟩:=Jnm la t;have hN:(L.drop (k+1)).takeWhile QJ=c::r:=by
  rw [h3,hd];exact YK (fun x hx=>(JaI (hall x hx)).1) hdt
 have hd2:L.drop (k+1+(c::r).length)=J3 la++62::t:=by rw [←Q4,h3,List.drop_left]
 have hlen:=JpX la;have hat:=JeE L la [] (L.length+1) _ t hd2 (by simp only [List.length_cons,List.length_append] at h4;omega) ha;unfold Qa;rw [if_pos e1];unfold Jaq;rw [hN,hat];simp only [Jek hall,hn,if_true,List.nil_append];simp [XS,Jbz];omega
theorem Jlh {L:List UInt8} {k:Nat} {n t:List UInt8} (h:L.drop k=60::47::(n++62::t)) (hn:JB n=true) (raw:List UInt8) (out:List Tok):
  Qa L k raw out=some (k+(XS ⟨3,n,[],[]⟩).length,[],out++Xp raw++[⟨3,n,[],[]⟩]):=by
 obtain ⟨hall,c,r,rfl,hc⟩:=JcH hn;obtain ⟨h1,_,h3,h4⟩:=YC h;obtain ⟨g1,g2,g3,_⟩:=YC h3;obtain ⟨i1,i2,_,_⟩:=YC (show L.drop (k+1+1)=c::(r++62::t) from g3);have e1:XD L k [60]=false:=by
  unfold XD;have e:L.getD (k+([60]:List UInt8).length) 0=47:=g2;rw [e];simp;intro _ _;decide
 have e2:XD L k [60,47]=true:=by
  unfold XD stL;rw [h];have e:L.getD (k+([60,47]:List UInt8).length) 0=c:=i2;rw [e,JeP hc];simp [List.isPrefixOf];exact i1
 have hN:(L.drop (k+2)).takeWhile QJ=c::r:=by
  rw [show k+2=k+1+1 from rfl,g3];exact YK (fun x hx=>(JaI (hall x hx)).1) (by decide)
 have hd2:L.drop (k+2+(c::r).length)=62::t:=by rw [←Q4,show k+2=k+1+1 from rfl,g3,List.drop_left]
 have he:Xx [62] (62::t)=some 1:=Jd4 (by unfold Lib.hasPrefix;simp [List.isPrefixOf]);unfold Qa;rw [if_neg (by rw [e1];simp),if_pos e2];unfold Zc;rw [hN,hd2,he];simp only [Jek hall,hn,if_true];simp [XS];omega
theorem ZW (L:List UInt8): ∀ (rest:List Tok) (f k:Nat) (raw:List UInt8) (out:List Tok) (pk:Int),L.drop k=Qn rest→Qi pk rest=0→(pk≠1→raw=[])→(Qn rest).length<f→Xl L f k raw out=out++Xp raw++rest
 | [],f,k,raw,out,pk,h,_,_,hf=>by
   obtain ⟨g,rfl⟩: ∃ g,f=g+1:=⟨f - 1,by omega⟩;rw [Yn (List.drop_eq_nil_iff.1 h)];simp
 | t::r,f,k,raw,out,pk,h,hc,hraw,hf=>by
   obtain ⟨g,rfl⟩: ∃ g,f=g+1:=⟨f - 1,by omega⟩;obtain ⟨h1,h2,h3⟩:=JcZ hc;have e:Qn (t::r)=XS t++Qn r:=by simp [Qn]
   rw [e] at h hf;rw [List.length_append] at hf;rcases Jg8 h1 with ⟨x,hx,rfl⟩ | ⟨n,a,hn,ha,rfl⟩ | ⟨n,hn,rfl⟩
   ·have hr0:raw=[]:=hraw (fun e=>h2 ⟨rfl,e⟩);subst hr0;obtain ⟨b,y,hby⟩:=Jp9 hx;have et:XS ⟨1,[],[],x⟩=J0 x:=rfl;rw [et] at h hf;have hb:b≠60:=(Jes x b (by rw [hby];simp)).1;have hy: ∀ z∈y,z≠60:=fun z hz=>(Jes x z (by rw [hby];simp [hz])).1;have h':L.drop k=b::(y++Qn r):=by rw [h,hby];rfl
    obtain ⟨p1,_,_,_⟩:=YC h';have htw:(y++Qn r).takeWhile YE=y:=by
     rcases JnW h3 with e0 | ⟨z,e0⟩
     ·rw [e0,List.append_nil];exact JrF hy
     ·rw [e0];exact JpL hy
    have hp:=JnV h' hb [] out;rw [htw] at hp;have hlen:(J0 x).length=1+y.length:=by rw [hby];simp;omega
    have hd:L.drop (k+1+y.length)=Qn r:=by
     rw [show k+1+y.length=k+(J0 x).length from by omega, ←Q4,h,List.drop_left]
    rw [XI p1 hp,ZW L r g _ _ out 1 hd h3 (fun hq=>absurd rfl hq) (by omega)];have e1:([]:List UInt8)++[b]++y=J0 x:=by rw [hby];rfl
    have e2:Xp (J0 x)=[XG x]:=by
     unfold Xp;rw [if_neg (by rw [hby];simp),JeA]
    rw [e1,e2];simp [Xp,XG]
   ·have h':L.drop k=60::(n++(J3 a++62::Qn r)):=by rw [h];simp [XS,Jbz]
    obtain ⟨p1,_,_,_⟩:=YC h';have hd:L.drop (k+(XS ⟨2,n,a,[]⟩).length)=Qn r:=by rw [←Q4,h,List.drop_left]
    have hpos:1≤(XS ⟨2,n,a,[]⟩).length:=by simp [XS,Jbz]
    rw [XI p1 (Jnl h' hn ha raw out),ZW L r g _ _ _ 2 hd h3 (fun _=>rfl) (by omega)];simp [Xp]
   ·have h':L.drop k=60::47::(n++62::Qn r):=by rw [h];simp [XS]
    obtain ⟨p1,_,_,_⟩:=YC h';have hd:L.drop (k+(XS ⟨3,n,[],[]⟩).length)=Qn r:=by rw [←Q4,h,List.drop_left]
    have hpos:1≤(XS ⟨3,n,[],[]⟩).length:=by simp [XS]
    rw [XI p1 (Jlh h' hn raw out),ZW L r g _ _ _ 3 hd h3 (fun _=>rfl) (by omega)];simp [Xp]
theorem JfA (l:List Tok) (h:Ya l=0):JL (Qn l)=l:=by
 unfold Ya at h;split at h
 ·simp at h
 ·unfold JL;rw [ZW (Qn l) l _ 0 [] [] 0 rfl h (fun _=>rfl) (by omega)];simp [Xp]
theorem JiF (n:Nat):Lib.encodeRune n≠[]:=by
 unfold Lib.encodeRune Lib.encodeRuneZ;rw [Ne,List.map_eq_nil_iff]
 repeat' split
 all_goals simp
theorem JnU (l:List UInt8) (h:l≠[]):(JV l).1≠[]:=by
 unfold JV;split
 ·split
  ·exact JiF _
  ·exact JiF _
 ·cases l with
  | nil=>exact absurd rfl h
  | cons a l=>simp
theorem Jr8 {l:List UInt8} (h:l≠[]):(JR l).1≠[]:=by
 cases l with
 | nil=>exact absurd rfl h
 | cons c l=>
   by_cases hc:c=38
   ·rw [Jaf c l hc];intro e;exact JnU (c::l) (by simp) (List.append_eq_nil_iff.1 e).1
   ·rw [JaO c l hc];simp
def JfW:Int→List Tok→Int
 | p,[]=>p
 | _,t::r=>JfW t.kind r
theorem JpE (p:Int) (a b:List Tok):JfW p (a++b)=JfW (JfW p a) b:=by
 induction a generalizing p with
 | nil=>rfl
 | cons t a ih=>exact ih t.kind
theorem Jb4 {p:Int} {a b:List Tok} (ha:Qi p a=0) (hb:Qi (JfW p a) b=0):Qi p (a++b)=0:=by
 induction a generalizing p with
 | nil=>exact hb
 | cons t a ih=>
   obtain ⟨h1,h2,h3⟩:=JcZ ha;rw [List.cons_append];unfold Qi;rw [if_neg (by simpa using h1),if_neg h2];exact ih h3 hb
theorem Jf8 {p:Int} {t:Tok} (h1:Xi t=0) (h2: ¬ (t.kind=1∧p=1)):Qi p [t]=0:=by
 unfold Qi;rw [if_neg (by simpa using h1),if_neg h2];rfl
theorem Jff {p:Int} (hp:p≠1) (raw:List UInt8):Qi p (Xp raw)=0:=by
 unfold Xp;split
 ·rfl
 ·rename_i h;exact Jf8 (by simp [Xi,XG,Jr8 h]) (fun hq=>hp hq.2)
theorem Jq6 (a:List Jw) (met:List (List UInt8)) (p:Jw) (h:QR a met=0) (hn:JB p.1=true) (hm:p.1∉met) (ha:p.1∉a.map (·.1)):QR (a++[p]) met=0:=by
 induction a generalizing met with
 | nil=>simp [QR,hn,hm]
 | cons q a ih=>
   unfold QR at h;rw [List.cons_append];unfold QR;split at h
   ·simp at h
   ·rename_i h1;split at h
    ·simp at h
    ·rename_i h2;rw [if_neg h1,if_neg h2];simp only [List.map_cons,List.mem_cons,not_or] at ha;exact ih _ h (by simp [hm,ha.1]) ha.2
theorem Je1 (l:List UInt8): ∀ (f k:Nat) (acc a:List Jw) (k2:Nat),QR acc []=0→JM l f k acc=some (a,k2)→QR a []=0
 | 0,k,acc,a,k2,_,h=>by simp [JM] at h
 | f+1,k,acc,a,k2,hacc,h=>by
   have e:=(Y5 h _ rfl).symm;split at e
   ·simp at e
   ·split at e
    ·simp only [Option.some.injEq,Prod.mk.injEq] at e;rw [←e.1];exact hacc
    ·split at e
     ·simp at e
     ·rename_i p m _;refine Je1 l f _ _ _ _ ?_ e;split
      ·exact hacc
      ·rename_i hc;simp only [not_or] at hc;exact Jq6 acc [] p hacc (by simpa using hc.2) (by simp) hc.1
def Jdl (raw:List UInt8) (out:List Tok):Nat:=out.length+(Xp raw).length
theorem JoI (raw:List UInt8) (out:List Tok) (t:Tok):Jdl [] (out++Xp raw++[t])=Jdl raw out+1:=by
 simp [Jdl,Xp];omega
structure Jdw (k:Nat) (raw:List UInt8) (out:List Tok):Prop where
 right:Qi 0 out=0
 last:JfW 0 out≠1
 few:Jdl raw out≤k
theorem Jdw.tag {k k':Nat} {raw:List UInt8} {out:List Tok} (h:Jdw k raw out) (t:Tok) (ht:Xi t=0) (hk:t.kind≠1) (hkk:k<k'):Jdw k' [] (out++Xp raw++[t]):=by
 refine ⟨?_,?_,by rw [JoI];have:=h.few;omega⟩
 ·exact Jb4 (Jb4 h.right (Jff h.last raw)) (Jf8 ht (fun hq=>hk hq.1))
 ·rw [JpE];exact hk
theorem Jdw.on {k k':Nat} {raw raw':List UInt8} {out:List Tok} (h:Jdw k raw out) (hk:k<k'):Jdw k' raw' out:=by
 refine ⟨h.right,h.last,?_⟩;have h1:=h.few;have h2:=Jj7 raw';unfold Jdl at h1 ⊢;omega
theorem Jnr {l:List UInt8} {k:Nat} {raw:List UInt8} {out:List Tok} {k':Nat} {raw':List UInt8} {out':List Tok} (h:Qa l k raw out=some (k',raw',out')) (hk:k<l.length) (hg:Jdw k raw out):Jdw k' raw' out':=by
 have hb:=(Xr h hk).1;unfold Qa at h;split at h
 ·unfold Jaq at h;split at h
  ·simp at h
  ·rename_i a k2 ha;split at h
   ·rename_i hn;simp only [Option.some.injEq,Prod.mk.injEq] at h;obtain ⟨rfl,rfl,rfl⟩:=h;exact hg.tag _ (by simp [Xi,hn,Je1 _ _ _ _ _ _ rfl ha]) (show (2:Int)≠1 by decide) hb
   ·simp only [Option.some.injEq,Prod.mk.injEq] at h;obtain ⟨rfl,rfl,rfl⟩:=h;exact hg.on hb
 split at h
 ·unfold Zc at h;split at h
  ·simp at h
  ·split at h
   ·rename_i hn;simp only [Option.some.injEq,Prod.mk.injEq] at h;obtain ⟨rfl,rfl,rfl⟩:=h;exact hg.tag _ (by simp [Xi,hn]) (show (3:Int)≠1 by decide) hb
   ·simp only [Option.some.injEq,Prod.mk.injEq] at h;obtain ⟨rfl,rfl,rfl⟩:=h;exact hg.on hb
 split at h
 ·unfold Jd0 at h;split at h
  ·simp at h
  ·simp only [Option.some.injEq,Prod.mk.injEq] at h;obtain ⟨rfl,rfl,rfl⟩:=h;exact hg.on hb
 split at h
 ·unfold Jbl at h;split at h
  ·simp at h
  ·simp only [Option.some.injEq,Prod.mk.injEq] at h;obtain ⟨rfl,rfl,rfl⟩:=h;exact hg.on hb
 ·unfold Jaw at h;simp only [Option.some.injEq,Prod.mk.injEq] at h;obtain ⟨rfl,rfl,rfl⟩:=h;exact hg.on hb
theorem JdF (l:List UInt8): ∀ (f k:Nat) (raw:List UInt8) (out:List Tok),k≤l.length→Jdw k raw out→Qi 0 (Xl l f k raw out)=0∧(Xl l f k raw out).length≤l.length
 | 0,k,raw,out,hk,hg=>by
   refine ⟨Jb4 hg.right (Jff hg.last raw),?_⟩;have:=hg.few;unfold Jdl at this;simp only [Xl,List.length_append];omega
 | f+1,k,raw,out,hk,hg=>by
   by_cases he:l.length≤k
   ·rw [Yn he];refine ⟨Jb4 hg.right (Jff hg.last raw),?_⟩;have:=hg.few;unfold Jdl at this;rw [List.length_append];omega
   ·have hlt:k<l.length:=by omega
    cases hp:Qa l k raw out with
    | none=>
      rw [Y7 hlt hp];exact JdF l f _ _ _ (Nat.le_refl _) (hg.on hlt)
    | some q=>
      obtain ⟨k',raw',out'⟩:=q;rw [XI hlt hp];exact JdF l f _ _ _ (Xr hp hlt).2.1 (Jnr hp hlt hg)
theorem JnE (l:List UInt8) (h:l.length≤3000):Ya (JL l)=0:=by
 have hg:Jdw 0 [] []:=⟨rfl,by decide,by simp [Jdl,Xp]⟩;have:=JdF l (l.length+1) 0 [] [] (Nat.zero_le _) hg;unfold Ya JL;rw [if_neg (by omega)];exact this.1
end Go.Proofs.YtlcljanibjdejaaGreat
namespace Go.Proofs.YtlcljanibjdejaaGreat
open Go.RowKit Go.Maps Go.Deep
def JY (l:List Jw):Nat:=(l.map fun p=>p.1.length+p.2.length+2).sum
def Yc (t:Tok):Nat:=t.name.length+t.text.length+JY t.attrs+4
def Qh (l:List Tok):Nat:=(l.map Yc).sum
theorem JqE (s:ByteArray):(⟨s.data.toList.toArray⟩:ByteArray)=s:=WideShapes.bytes_inj (by simp)
theorem Jmr {w:World} {a:Addr} {u:Value} (h:w.cell? a=some u): ∃ g o,a=⟨g,o,none⟩:=by
 obtain ⟨g,o,f⟩:=a;cases f with
 | none=>exact ⟨g,o,rfl⟩
 | some x=>
   unfold World.cell? at h;simp only [Option.isSome_some,if_true] at h;split at h<;>simp at h
theorem Jmc {w:World} {a:Addr} {len cap z:Nat} (hz:0<z) (hl:len≤cap) (hc:cap≤maxLen) {xs:List Value} (hx:xs.length=len * z) (h: ∀ j u,xs[j]?=some u→w.cell? (a.add j)=some u):Jh w (.slice (some a) len cap) len z xs:=by
 refine ⟨hx,?_⟩;by_cases h0:len=0
 ·subst h0;exact .inr (.inr ⟨rfl,_,_,rfl,hc⟩)
 ·have hpos:0<xs.length:=by rw [hx];exact Nat.mul_pos (by omega) hz
  have h1:=h 0 _ (List.getElem?_eq_getElem hpos);have e0:a.add 0=a:=by simp [Addr.add]
  rw [e0] at h1;obtain ⟨g,o,rfl⟩:=Jmr h1;refine .inr (.inl ⟨g,o,cap,rfl,hl,hc,fun j u hj=>?_⟩);have h2:=h j u hj;have e1:(⟨g,o,none⟩:Addr).add j=⟨g,o+j,none⟩:=by by_cases hj0:j=0<;>simp [Addr.add,hj0]
  rw [e1] at h2;exact h2
section
variable {H:Type} {enc:TypeId × Value→H} {w:World} {base:Nat} {spare:Nat→Bool} {held:Bool}
end
end Go.Proofs.YtlcljanibjdejaaGreat
namespace Go.Proofs.YtlcljanibjdejaaGreat
open Go.RowKit Go.Maps
theorem Jdg (l:List Jw):l.length≤JY l∧ ∀ p∈l,p.1.length≤JY l:=by
 induction l with
 | nil=>simp [JY]
 | cons a l ih=>
   simp only [JY,List.map_cons,List.sum_cons] at ih ⊢;refine ⟨by simp;omega,fun p hp=>?_⟩;rcases List.mem_cons.1 hp with rfl | hp
   ·omega
   ·have:=ih.2 p hp;omega
theorem Jcd {t:Tok} {l:List Tok} (h:t∈l):Yc t≤Qh l:=by
 induction l with
 | nil=>simp at h
 | cons a l ih=>
   simp only [Qh,List.map_cons,List.sum_cons] at ih ⊢;rcases List.mem_cons.1 h with rfl | h
   ·omega
   ·have:=ih h;omega
theorem Jmz (l:List Tok):(l.flatMap Tok.text).length≤Qh l:=by
 induction l with
 | nil=>simp
 | cons a l ih=>
   simp only [Qh,List.map_cons,List.sum_cons,List.flatMap_cons,List.length_append,Yc] at ih ⊢;omega
theorem JiB {l:List Tok} (h:Qh l≤1100000): ∀ t∈l,JjK t∧t.attrs.length≤2000000:=by
 intro t ht;have h1:=Jcd ht;have h2:=Jdg t.attrs;unfold Yc at h1;refine ⟨⟨by unfold maxLen;omega,fun p hp=>by have:=h2.2 p hp;unfold maxLen;omega⟩,by omega⟩
end Go.Proofs.YtlcljanibjdejaaGreat
namespace Go.Proofs.YtlcljanibjdejaaGreat
theorem JfH: ∀ (f:Nat) (l:List UInt8),(ZC f l).1.length≤4 * l.length
 | 0,l=>by simp [ZC]
 | f+1,[]=>by simp [ZC]
 | f+1,c::l=>by
   unfold ZC;split
   ·have h1:=JcK (c::l) (by simp);have h2:=JfH f ((c::l).drop (JV (c::l)).2.1);rw [List.length_drop] at h2;simp only [List.length_append];omega
   ·have h2:=JfH f l;simp only [List.length_cons];omega
theorem Jjf (l:List UInt8):(JR l).1.length≤4 * l.length:=JfH _ _
theorem JqP {l v:List UInt8} {m:Nat} (h:XL l=some (v,m)):v.length≤m:=by
 unfold XL at h;split at h
 ·simp at h
 ·split at h
  ·split at h
   ·simp only [Option.some.injEq,Prod.mk.injEq] at h;rw [←h.1, ←h.2];omega
   ·simp at h
  ·simp only [Option.some.injEq,Prod.mk.injEq] at h;rw [←h.1, ←h.2];exact Nat.le_refl _
theorem Jmt {l:List UInt8} {p:Jw} {m:Nat} (h:Xm l=some (p,m)):p.1.length+p.2.length+2≤6 * m:=by
 unfold Xm at h;split at h
 ·simp at h
 ·split at h
  ·simp at h
  ·split at h
   ·split at h
    ·simp at h
    ·rename_i v m' hv;have h1:=JqP hv;have h2:=Jjf v;simp only [Option.some.injEq,Prod.mk.injEq] at h;rw [←h.1];simp only [Jx,List.length_map,List.length_cons];omega
   ·simp only [Option.some.injEq,Prod.mk.injEq] at h;rw [←h.1];simp only [Jx,List.length_map,List.length_cons,List.length_nil];omega
theorem Joo (a:List Jw) (p:Jw):JY (a++[p])=JY a+(p.1.length+p.2.length+2):=by simp [JY]
theorem JcV (l:List UInt8): ∀ (f k:Nat) (acc a:List Jw) (k2:Nat),JM l f k acc=some (a,k2)→JY a+6 * k≤JY acc+6 * k2
 | 0,k,acc,a,k2,h=>by simp [JM] at h
 | f+1,k,acc,a,k2,h=>by
   have e:=(Y5 h _ rfl).symm;split at e
   ·simp at e
   ·split at e
    ·simp only [Option.some.injEq,Prod.mk.injEq] at e;rw [←e.1];omega
    ·split at e
     ·simp at e
     ·rename_i p m hp;have h1:=JcV l f _ _ _ _ e;have h2:=Jmt hp;split at h1
      ·omega
      ·rw [Joo] at h1;omega
theorem YS (a b:List Tok):Qh (a++b)=Qh a+Qh b:=by simp [Qh]
theorem Jfe (raw:List UInt8):Qh (Xp raw)≤8 * raw.length:=by
 unfold Xp;split
 ·simp [Qh]
 ·rename_i h;have h1:=Jjf raw;have h2:1≤raw.length:=List.length_pos_iff.2 h;simp [Qh,Yc,XG,JY];omega
theorem Jnp {l:List UInt8} {k:Nat} {raw:List UInt8} {out:List Tok} {k':Nat} {raw':List UInt8} {out':List Tok} (h:Qa l k raw out=some (k',raw',out')) (hk:k<l.length) (hg:Qh out+8 * raw.length≤12 * k):Qh out'+8 * raw'.length≤12 * k':=by
 have hb:=(Xr h hk);have he:=Jfe raw;unfold Qa at h;split at h
 ·unfold Jaq at h;split at h
  ·simp at h
  ·rename_i a k2 ha;have h1:=JcV _ _ _ _ _ _ ha;have h2:=Jcp _ _ _ _ _ _ ha;split at h
   ·simp only [Option.some.injEq,Prod.mk.injEq] at h;obtain ⟨rfl,rfl,rfl⟩:=h;rw [YS,YS];simp [Qh,Yc,Jx,JY] at h1 he hg ⊢;omega
   ·simp only [Option.some.injEq,Prod.mk.injEq] at h;obtain ⟨rfl,rfl,rfl⟩:=h;omega
 split at h
 ·unfold Zc at h;split at h
  ·simp at h
  ·rename_i m hm;split at h
   ·simp only [Option.some.injEq,Prod.mk.injEq] at h;obtain ⟨rfl,rfl,rfl⟩:=h;rw [YS,YS];simp [Qh,Yc,Jx,JY] at he hg ⊢;omega
   ·simp only [Option.some.injEq,Prod.mk.injEq] at h;obtain ⟨rfl,rfl,rfl⟩:=h;omega
 split at h
 ·unfold Jd0 at h;split at h
  ·simp at h
  ·simp only [Option.some.injEq,Prod.mk.injEq] at h;obtain ⟨rfl,rfl,rfl⟩:=h;omega
 split at h
 ·unfold Jbl at h;split at h
  ·simp at h
  ·simp only [Option.some.injEq,Prod.mk.injEq] at h;obtain ⟨rfl,rfl,rfl⟩:=h;omega
 ·unfold Jaw at h;simp only [Option.some.injEq,Prod.mk.injEq] at h;obtain ⟨rfl,rfl,rfl⟩:=h;omega
theorem JdE (l:List UInt8): ∀ (f k:Nat) (raw:List UInt8) (out:List Tok),k≤l.length→Qh out+8 * raw.length≤12 * k→Qh (Xl l f k raw out)≤12 * l.length
 | 0,k,raw,out,hk,hg=>by
   have:=Jfe raw;simp only [Xl,YS];omega
 | f+1,k,raw,out,hk,hg=>by
   by_cases he:l.length≤k
   ·rw [Yn he,YS];have:=Jfe raw;omega
   ·have hlt:k<l.length:=by omega
    cases hp:Qa l k raw out with
    | none=>
      rw [Y7 hlt hp];exact JdE l f _ _ _ (Nat.le_refl _) (by rw [List.length_append,List.length_drop];omega)
    | some q=>
      obtain ⟨k',raw',out'⟩:=q;rw [XI hlt hp];exact JdE l f _ _ _ (Xr hp hlt).2.1 (Jnp hp hlt hg)
theorem JnD (l:List UInt8):Qh (JL l)≤12 * l.length:=JdE l _ 0 [] [] (Nat.zero_le _) (by simp [Qh])
end Go.Proofs.YtlcljanibjdejaaGreat
namespace Go.Proofs.YtlcljanibjdejaaGreat
open Go.RowKit Go.Maps
def J1:List Nd→Nat
 | []=>0
 | .mk n a t k::r=>n.length+t.length+JY a+J1 k+3+J1 r
theorem Jf5 (n:Nd) (r:List Nd):J1 (n::r)=n.name.length+n.text.length+JY n.attrs+J1 n.kids+3+J1 r:=by
 obtain ⟨n,a,t,k⟩:=n;rw [J1];rfl
theorem Jdx:(ns:List Nd)→JD ns≤J1 ns
 | []=>by simp [JD,J1]
 | .mk n a t k::r=>by
   have h1:=Jdx k;have h2:=Jdx r;rw [JD,J1];omega
theorem Jaz:(ns:List Nd)→J1 ns≤1100000→Qw ns∧Xb ns
 | [],_=>by simp [Qw,Xb]
 | .mk n a t k::r,h=>by
   rw [J1] at h;have h1:=Jaz k (by omega);have h2:=Jaz r (by omega);have h3:=Jdg a;rw [Qw,Xb];exact ⟨⟨⟨by unfold maxLen;omega,fun p hp=>by have:=h3.2 p hp;unfold maxLen;omega⟩,h1.1,h2.1⟩,by omega,h1.2,h2.2⟩
theorem ZG (a b:List Nd):J1 (a++b)=J1 a+J1 b:=by
 induction a with
 | nil=>simp [J1]
 | cons n a ih=>rw [List.cons_append,Jf5,Jf5,ih];omega
def Jc7 (o:Op):Nat:=o.name.length+JY o.attrs+J1 o.kids+3
def St.bulk (s:St):Nat:=(s.all.map Jc7).sum+if s.text=[] then 0 else s.text.length+3
theorem Ja3:JY []=0:=rfl
theorem JcX (s:St):s.endText.bulk=s.bulk:=by
 unfold St.endText;split
 ·rfl
 ·next h=>simp [St.bulk,St.all,Jc7,Op.put,ZG,Xn,J1,Ja3,h];omega
theorem Jq5 (s:St):s.pop.bulk=s.bulk:=by
 rw [←JcX s];unfold St.pop;split
 ·rfl
 ·next o up h=>
  have h1:=QG s;have h2:=QD s;rw [h] at h1;simp [St.bulk,St.all,Jc7,Op.put,ZG,h1,h2,Op.nd,J1];omega
theorem JcA (k:Nat) (s:St):(s.close k).bulk=s.bulk:=by
 induction k generalizing s with
 | zero=>rfl
 | succ k ih=>rw [St.close,ih,Jq5]
theorem Joq (s:St) (t:Tok):(s.step t).bulk≤s.bulk+Yc t:=by
 unfold St.step Yc;split
 ·simp only [St.bulk,St.all];split
  ·next h=>simp at h;simp [h]
  ·split
   ·next h h2=>simp [h2];omega
   ·simp;omega
 ·split
  ·unfold St.openTag St.closeFrom;split
   ·rw [JcA];omega
   ·rw [←JcA (s.up.length+1 - Jm s.names t.name) s];generalize s.close (s.up.length+1 - Jm s.names t.name)=u;rw [←JcX u];unfold St.openIn;split
    ·simp [St.bulk,St.all,Jc7,St.put,Op.put,ZG,J1,QD];omega
    ·simp [St.bulk,St.all,Jc7,QG,QD,J1];omega
  ·unfold St.closeTag St.closeFrom;rw [JcA];omega
theorem Jop (ts:List Tok) (s:St):(ts.foldl St.step s).bulk≤s.bulk+Qh ts:=by
 induction ts generalizing s with
 | nil=>simp [Qh]
 | cons t ts ih=>
   rw [List.foldl_cons,show Qh (t::ts)=Yc t+Qh ts from by simp [Qh]];have:=ih (s.step t);have:=Joq s t;omega
theorem JmB (ts:List Tok):J1 (JP ts)≤Qh ts:=by
 have h1:=Jop ts St.start;have h0:St.start.bulk=3:=by simp [St.bulk,St.all,St.start,Jc7,J1,Ja3]
 rw [h0] at h1;unfold JP St.closeFrom;rw [Nat.add_sub_cancel];have hu:=JdY (ts.foldl St.step St.start).up.length (ts.foldl St.step St.start);rw [List.drop_length] at hu;rw [←JcA (ts.foldl St.step St.start).up.length] at h1;generalize (ts.foldl St.step St.start).close (ts.foldl St.step St.start).up.length=u at *;rw [←JcX] at h1;have h2:=QG u;rw [hu] at h2;simp [St.bulk,St.all,Jc7,h2,QD] at h1;omega
end Go.Proofs.YtlcljanibjdejaaGreat
namespace Go.Proofs.YtlcljanibjdejaaGreat
structure QH where
 scheme:List UInt8
 authority:List UInt8
 path:List UInt8
 query:List UInt8
 fragment:List UInt8
 hs:Bool
 ha:Bool
 hq:Bool
 hf:Bool
deriving DecidableEq
def Yh (c:UInt8):Bool:=J2 c || Jc0 c || c==43 || c==45 || c==46
def JfS (c:UInt8):Bool:=c != 47&&c != 63&&c != 35
def Jb9 (c:UInt8):Bool:=c != 63&&c != 35
def JaK (c:UInt8):Bool:=c != 35
def J8 (l:List UInt8):Option (List UInt8):=
 if (l.takeWhile Yh)≠[]∧J2 ((l.takeWhile Yh).getD 0 0)=true∧(l.drop (l.takeWhile Yh).length).head?=some 58 then some (l.takeWhile Yh) else none
def k0L (l:List UInt8):Nat:=match J8 l with | some n=>n.length+1 | none=>0
def haL (l:List UInt8):Bool:=[47,47].isPrefixOf (l.drop (k0L l))
def auL (l:List UInt8):List UInt8:=if haL l=true then (l.drop (k0L l+2)).takeWhile JfS else []
def k1L (l:List UInt8):Nat:=if haL l=true then k0L l+2+(auL l).length else k0L l
def JhJ (l:List UInt8):List UInt8:=(l.drop (k1L l)).takeWhile Jb9
def k2L (l:List UInt8):Nat:=k1L l+(JhJ l).length
def hqL (l:List UInt8):Bool:=[63].isPrefixOf (l.drop (k2L l))
def quL (l:List UInt8):List UInt8:=if hqL l=true then (l.drop (k2L l+1)).takeWhile JaK else []
def k3L (l:List UInt8):Nat:=if hqL l=true then k2L l+1+(quL l).length else k2L l
def hfL (l:List UInt8):Bool:=[35].isPrefixOf (l.drop (k3L l))
def frL (l:List UInt8):List UInt8:=if hfL l=true then l.drop (k3L l+1) else []
def QX (l:List UInt8):QH:=⟨(J8 l).getD [],auL l,JhJ l,quL l,frL l,(J8 l).isSome,haL l,hqL l,hfL l⟩
def JhA (u:QH):List UInt8:=
 (if u.hs=true then u.scheme++[58] else [])++(if u.ha=true then [47,47]++u.authority else [])++u.path++(if u.hq=true then 63::u.query else [])++(if u.hf=true then 35::u.fragment else [])
theorem Jl4 (f:UInt8→Bool): ∀ l:List UInt8,l.drop (l.takeWhile f).length=l.dropWhile f
 | []=>rfl
 | c::l=>by
   cases h:f c
   ·simp [h]
   ·simpa [h] using Jl4 f l
theorem JdQ (f:UInt8→Bool) (l:List UInt8) (k:Nat):l.drop k=(l.drop k).takeWhile f++l.drop (k+((l.drop k).takeWhile f).length):=by
 rw [←List.drop_drop];have h:(l.drop k).takeWhile f++(l.drop k).dropWhile f=l.drop k:=List.takeWhile_append_dropWhile;rw [Jl4 f,h]
theorem Jiv (f:UInt8→Bool): ∀ (l:List UInt8),l.drop (l.takeWhile f).length=[]∨ ∃ c r,l.drop (l.takeWhile f).length=c::r∧f c=false
 | []=>.inl rfl
 | c::l=>by
   cases h:f c
   ·exact .inr ⟨c,l,by simp [h],h⟩
   ·simpa [h] using Jiv f l
theorem Jh3 (f:UInt8→Bool) (l:List UInt8) (k:Nat):l.drop (k+((l.drop k).takeWhile f).length)=[]∨ ∃ c r,l.drop (k+((l.drop k).takeWhile f).length)=c::r∧f c=false:=by
 rw [←List.drop_drop];exact Jiv f _
theorem Jfb {l:List UInt8} {k:Nat} {c:UInt8} {r:List UInt8} (h:l.drop k=c::r):l.drop (k+1)=r:=by
 rw [←List.drop_drop,h];rfl
theorem JmS {l:List UInt8} {k:Nat} {c d:UInt8} {r:List UInt8} (h:l.drop k=c::d::r):l.drop (k+2)=r:=by
 rw [←List.drop_drop,h];rfl
theorem Jpw (l:List UInt8):(if hfL l=true then 35::frL l else [])=l.drop (k3L l):=by
 have hstop:l.drop (k3L l)=[]∨ ∃ r,l.drop (k3L l)=35::r:=by
  unfold k3L;cases hq:hqL l
  ·simp only [Bool.false_eq_true,if_false];rcases Jh3 Jb9 l (k1L l) with h | ⟨c,r,h,hc⟩
   ·exact .inl h
   ·have h':l.drop (k2L l)=c::r:=h;by_cases h63:c=63
    ·subst h63;unfold hqL at hq;rw [h'] at hq;simp at hq
    ·right;have:c=35:=by simpa [Jb9,h63] using hc
     subst this;exact ⟨r,h'⟩
  ·simp only [if_true];unfold quL;rw [if_pos hq];rcases Jh3 JaK l (k2L l+1) with h | ⟨c,r,h,hc⟩
   ·exact .inl h
   ·have:c=35:=by simpa [JaK] using hc
    subst this;exact .inr ⟨r,h⟩
 unfold frL;rcases hstop with h | ⟨r,h⟩
 ·have:hfL l=false:=by unfold hfL;rw [h];rfl
  rw [this,h];simp
 ·have:hfL l=true:=by unfold hfL;rw [h];rfl
  rw [this,h,Jfb h];simp
theorem Jm2 (l:List UInt8):(if hqL l=true then 63::quL l else [])++l.drop (k3L l)=l.drop (k2L l):=by
 unfold k3L;cases hq:hqL l
 ·simp
 ·simp only [if_true];have hp:=hq;unfold hqL at hp;cases hd:l.drop (k2L l) with
  | nil=>rw [hd] at hp;simp at hp
  | cons c r=>
    rw [hd] at hp;have:c=63:=by simpa using (by simpa using hp:(63:UInt8)=c).symm
    subst this;unfold quL;rw [if_pos hq,List.cons_append, ←JdQ JaK l (k2L l+1),Jfb hd]
theorem Jpx (l:List UInt8):JhJ l++l.drop (k2L l)=l.drop (k1L l):=by
 unfold JhJ k2L;exact (JdQ Jb9 l (k1L l)).symm
theorem Jpv (l:List UInt8):(if haL l=true then [47,47]++auL l else [])++l.drop (k1L l)=l.drop (k0L l):=by
 unfold k1L;cases ha:haL l
 ·simp
 ·simp only [if_true];have hp:=ha;unfold haL at hp
  match hd:l.drop (k0L l) with
  | []=>rw [hd] at hp;simp at hp
  | [c]=>rw [hd] at hp;simp at hp
  | c::d::r=>
    rw [hd] at hp;have h1:(47:UInt8)=c∧(47:UInt8)=d:=by simpa using hp
    obtain ⟨rfl,rfl⟩:=h1;unfold auL;rw [if_pos ha,List.append_assoc, ←JdQ JfS l (k0L l+2),JmS hd];rfl
theorem Jly (l:List UInt8):(if (J8 l).isSome=true then (J8 l).getD []++[58] else [])++l.drop (k0L l)=l:=by
 unfold k0L;cases h:J8 l with
 | none=>simp
 | some n=>
   unfold J8 at h;split at h
   ·rename_i hc;simp only [Option.some.injEq] at h;subst h;obtain ⟨_,_,h3⟩:=hc;simp only [Option.isSome_some,if_true,Option.getD_some];have e:=JdQ Yh l 0;rw [List.drop_zero,Nat.zero_add] at e;cases hd:l.drop (l.takeWhile Yh).length with
    | nil=>rw [hd] at h3;simp at h3
    | cons c r=>
      rw [hd] at h3;simp at h3;subst h3;rw [Jfb hd]
      conv=>rhs;rw [e,hd]
      simp
   ·simp at h
theorem Jm3 (l:List UInt8):JhA (QX l)=l:=by
 unfold JhA QX;simp only;rw [Jpw,List.append_assoc,Jm2,List.append_assoc,Jpx,List.append_assoc,Jpv,Jly]
def JhB (u:QH):Option (List UInt8):=if (JhA u).length≤3000∧QX (JhA u)=u then some (JhA u) else none
theorem Jlz (l:List UInt8) (h:l.length≤3000):JhB (QX l)=some l:=by
 unfold JhB;rw [Jm3];simp [h]
def Zd (l:List UInt8):List UInt8:=((l.reverse.dropWhile (· != 47)).drop 1).reverse
def JgX (l:List UInt8):List UInt8:=(l.reverse.dropWhile (· != 47)).reverse
def Jct (c:UInt8):Bool:=c != 47
def YV (l:List UInt8):Nat:=1+((l.drop 1).takeWhile Jct).length
theorem JbP (f:UInt8→Bool): ∀ (y:List UInt8) (c:UInt8) (r:List UInt8),(∀ d∈y,f d=true)→f c=false→(y++c::r).dropWhile f=c::r
 | [],c,r,_,h=>by simp [h]
 | d::y,c,r,hy,h=>by
   rw [List.cons_append,List.dropWhile_cons,if_pos (hy d (by simp))];exact JbP f y c r (fun e he=>hy e (by simp [he])) h
theorem JbO (f:UInt8→Bool): ∀ (y:List UInt8),(∀ d∈y,f d=true)→y.dropWhile f=[]
 | [],_=>rfl
 | d::y,hy=>by
   rw [List.dropWhile_cons,if_pos (hy d (by simp))];exact JbO f y (fun e he=>hy e (by simp [he]))
theorem Jhh (x y:List UInt8) (hy: ∀ d∈y,d≠47):Zd (x++47::y)=x:=by
 unfold Zd;have e:(x++47::y).reverse=y.reverse++47::x.reverse:=by simp
 rw [e,JbP _ _ _ _ (fun d hd=>by simpa using hy d (by simpa using hd)) (by simp)];simp
theorem Je8 (x:List UInt8) (hx: ∀ d∈x,d≠47):Zd x=[]:=by
 unfold Zd;rw [JbO _ _ (fun d hd=>by simpa using hx d (by simpa using hd))];rfl
theorem Js9 (x y:List UInt8) (hy: ∀ d∈y,d≠47):JgX (x++47::y)=x++[47]:=by
 unfold JgX;have e:(x++47::y).reverse=y.reverse++47::x.reverse:=by simp
 rw [e,JbP _ _ _ _ (fun d hd=>by simpa using hy d (by simpa using hd)) (by simp)];simp
theorem JqO (x:List UInt8) (hx: ∀ d∈x,d≠47):JgX x=[]:=by
 unfold JgX;rw [JbO _ _ (fun d hd=>by simpa using hx d (by simpa using hd))];rfl
theorem JmK (x:List UInt8):(Zd x).length≤x.length:=by
 unfold Zd;have:(x.reverse.dropWhile (· != 47)).length≤x.reverse.length:=(List.dropWhile_sublist _).length_le;simp at this ⊢;omega
def X1 (i o:List UInt8):List UInt8 × List UInt8:=
 if [46,46,47].isPrefixOf i=true then (i.drop 3,o)
 else if [46,47].isPrefixOf i=true then (i.drop 2,o)
 else if [47,46,47].isPrefixOf i=true then (i.drop 2,o)
 else if [47,46,46,47].isPrefixOf i=true then (i.drop 3,Zd o)
 else if i=[47,46] then ([47],o)
 else if i=[47,46,46] then ([47],Zd o)
 else if i=[46]∨i=[46,46] then ([],o)
 else (i.drop (YV i),o++i.take (YV i))
def JcC:Nat→List UInt8→List UInt8→List UInt8
 | 0,_,o=>o
 | f+1,i,o=>if i=[] then o else JcC f (X1 i o).1 (X1 i o).2
def JcD (l:List UInt8):List UInt8:=JcC l.length l []
theorem JmU (l:List UInt8):1≤YV l:=by unfold YV;omega
theorem Jpg (l:List UInt8) (h:l≠[]):YV l≤l.length:=by
 unfold YV;have h1:((l.drop 1).takeWhile Jct).length≤(l.drop 1).length:=(List.takeWhile_sublist _).length_le;have h2:0<l.length:=List.length_pos_iff.2 h;rw [List.length_drop] at h1;omega
theorem JfZ {p l:List UInt8} (h:p.isPrefixOf l=true):p.length≤l.length:=by
 have:p<+:l:=by simpa using h
 exact this.length_le
theorem Jbm (i o:List UInt8) (h:i≠[]):(X1 i o).1.length<i.length∧(X1 i o).1.length+(X1 i o).2.length≤i.length+o.length:=by
 have hp:=List.length_pos_iff.2 h;have hc:=JmK o;unfold X1;split
 ·rename_i hx;have:=JfZ hx;simp at this ⊢;omega
 split
 ·rename_i hx;have:=JfZ hx;simp at this ⊢;omega
 split
 ·rename_i hx;have:=JfZ hx;simp at this ⊢;omega
 split
 ·rename_i hx;have:=JfZ hx;simp at this ⊢;omega
 split
 ·rename_i hx;subst hx;simp
 split
 ·rename_i hx;subst hx;simp;omega
 split
 ·simp;omega
 ·have h1:=JmU i;have h2:=Jpg i h;simp only [List.length_drop,List.length_append,List.length_take];omega
theorem Jhk: ∀ (f g:Nat) (i o:List UInt8),i.length≤f→i.length≤g→JcC f i o=JcC g i o
 | 0,0,_,_,_,_=>rfl
 | 0,g+1,i,o,h,_=>by
   have:i=[]:=List.eq_nil_of_length_eq_zero (by omega);subst this;simp [JcC]
 | f+1,0,i,o,_,h=>by
   have:i=[]:=List.eq_nil_of_length_eq_zero (by omega);subst this;simp [JcC]
 | f+1,g+1,i,o,h1,h2=>by
   unfold JcC;by_cases hi:i=[]
   ·simp [hi]
   ·rw [if_neg hi,if_neg hi];have:=(Jbm i o hi).1;exact Jhk f g _ _ (by omega) (by omega)
def Jdn (i o:List UInt8):List UInt8:=JcC i.length i o
theorem Jfa (o:List UInt8):Jdn [] o=o:=rfl
theorem JcE (i o:List UInt8) (h:i≠[]):Jdn i o=Jdn (X1 i o).1 (X1 i o).2:=by
 have hl:=(Jbm i o h).1;have hp:=List.length_pos_iff.2 h;unfold Jdn;obtain ⟨n,hn⟩: ∃ n,i.length=n+1:=⟨i.length - 1,by omega⟩;rw [hn]
 conv=>lhs;unfold JcC
 rw [if_neg h];exact Jhk _ _ _ _ (by omega) (by omega)
def JcT (x:List UInt8):Prop:=(∀ d∈x,d≠47)∧x≠[46]∧x≠[46,46]
inductive Jbc:List UInt8→Prop
 | nil:Jbc []
 | cons (x r:List UInt8):JcT x→Jbc r→Jbc (47::x++r)
def ZE (l:List UInt8):Prop:= ∃ x r,l=x++r∧JcT x∧Jbc r
theorem JkB:JcT []:=⟨by simp,by simp,by simp⟩
theorem Jbc.snoc {r:List UInt8} (h:Jbc r) (x:List UInt8) (hx:JcT x):Jbc (r++47::x):=by
 induction h with
 | nil=>simpa using Jbc.cons x [] hx .nil
 | cons y r hy _ ih=>
   have:47::y++r++47::x=47::y++(r++47::x):=by simp
   rw [this];exact .cons y _ hy ih
theorem ZE.snoc {l:List UInt8} (h:ZE l) (x:List UInt8) (hx:JcT x):ZE (l++47::x):=by
 obtain ⟨y,r,rfl,hy,hr⟩:=h;exact ⟨y,r++47::x,by simp,hy,hr.snoc x hx⟩
theorem Jbc.last {r:List UInt8} (h:Jbc r):r=[]∨ ∃ q x,r=q++47::x∧Jbc q∧JcT x:=by
 induction h with
 | nil=>exact .inl rfl
 | cons y r hy hr ih=>
   right;rcases ih with rfl | ⟨q,x,rfl,hq,hx⟩
   ·exact ⟨[],y,by simp,.nil,hy⟩
   ·exact ⟨47::y++q,x,by simp,.cons y q hy hq,hx⟩
theorem ZE.cut {l:List UInt8} (h:ZE l):ZE (Zd l):=by
 obtain ⟨y,r,rfl,hy,hr⟩:=h;rcases hr.last with rfl | ⟨q,x,rfl,hq,hx⟩
 ·rw [List.append_nil,Je8 y hy.1];exact ⟨[],[],rfl,JkB,.nil⟩
 ·rw [←List.append_assoc,Jhh _ _ hx.1];exact ⟨y,q,rfl,hy,hq⟩
theorem ZE.nil:ZE []:=⟨[],[],rfl,JkB,.nil⟩
def JjP (i o:List UInt8):Prop:=ZE o∧(o=[]∨i=[]∨ ∃ r,i=47::r)
theorem JaJ {p l:List UInt8} (h:p.isPrefixOf l=true): ∃ r,l=p++r:=by
 have:p<+:l:=by simpa using h
 obtain ⟨r,hr⟩:=this;exact ⟨r,hr.symm⟩
theorem Jfg (c:UInt8) (x r:List UInt8) (hx: ∀ d∈x,d≠47) (hr:r=[]∨ ∃ q,r=47::q):YV (c::(x++r))=1+x.length:=by
 unfold YV;simp only [List.drop_succ_cons,List.drop_zero]
 congr 1
 have:(x++r).takeWhile Jct=x:=by
  rw [List.takeWhile_append_of_pos (fun d hd=>by simpa [Jct] using hx d hd)];rcases hr with rfl | ⟨q,rfl⟩
  ·simp
  ·simp [Jct]
 rw [this]
theorem JlV (l:List UInt8): ∃ x r,l=x++r∧(∀ d∈x,d≠47)∧(r=[]∨ ∃ q,r=47::q):=by
 refine ⟨l.takeWhile Jct,l.drop (l.takeWhile Jct).length,?_,?_,?_⟩
 ·have:=JdQ Jct l 0;simpa using this
 ·intro d hd;have:=List.all_eq_true.1 (List.all_takeWhile (p:=Jct) (l:=l)) d hd;simpa [Jct] using this
 ·rcases Jiv Jct l with h | ⟨c,r,h,hc⟩
  ·exact .inl h
  ·have:c=47:=by simpa [Jct] using hc
   subst this;exact .inr ⟨r,h⟩
theorem Jlm (i o:List UInt8) (hi:i≠[]) (h:JjP i o):JjP (X1 i o).1 (X1 i o).2:=by
 obtain ⟨hc,hh⟩:=h;unfold X1;split
 ·rename_i hx;obtain ⟨r,rfl⟩:=JaJ hx;rcases hh with rfl | hh | ⟨q,hq⟩
  ·exact ⟨hc,.inl rfl⟩
  ·simp at hh
  ·simp at hq
 split
 ·rename_i hx;obtain ⟨r,rfl⟩:=JaJ hx;rcases hh with rfl | hh | ⟨q,hq⟩
  ·exact ⟨hc,.inl rfl⟩
  ·simp at hh
  ·simp at hq
 split
 ·rename_i hx;obtain ⟨r,rfl⟩:=JaJ hx;exact ⟨hc,.inr (.inr ⟨r,by simp⟩)⟩
 split
 ·rename_i hx;obtain ⟨r,rfl⟩:=JaJ hx;exact ⟨hc.cut,.inr (.inr ⟨r,by simp⟩)⟩
 split
 ·exact ⟨hc,.inr (.inr ⟨[],rfl⟩)⟩
 split
 ·exact ⟨hc.cut,.inr (.inr ⟨[],rfl⟩)⟩
 split
 ·exact ⟨hc,.inr (.inl rfl)⟩
 ·rename_i n1 n2 n3 n4 n5 n6 n7
  match i,hi with
  | c::l,_=>
    obtain ⟨x,r,rfl,hx,hr⟩:=JlV l;have hf:=Jfg c x r hx hr;have e1:(c::(x++r)).drop (YV (c::(x++r)))=r:=by
     rw [hf,Nat.add_comm 1];simp
    have e2:(c::(x++r)).take (YV (c::(x++r)))=c::x:=by
     rw [hf,Nat.add_comm 1];simp
    simp only [e1,e2];refine ⟨?_,.inr (by rcases hr with rfl | ⟨q,rfl⟩;exact .inl rfl;exact .inr ⟨q,rfl⟩)⟩;by_cases h47:c=47
    ·subst h47;refine hc.snoc x ⟨hx,?_,?_⟩
     ·rintro rfl;rcases hr with rfl | ⟨q,rfl⟩
      ·exact n5 rfl
      ·exact n3 (by simp [List.isPrefixOf])
     ·rintro rfl;rcases hr with rfl | ⟨q,rfl⟩
      ·exact n6 rfl
      ·exact n4 (by simp [List.isPrefixOf])
    ·have ho:o=[]:=by
      rcases hh with rfl | hh | ⟨q,hq⟩
      ·rfl
      ·simp at hh
      ·simp at hq;exact absurd hq.1 h47
     subst ho;refine ⟨c::x,[],by simp,⟨?_,?_,?_⟩,.nil⟩
     ·intro d hd;rcases List.mem_cons.1 hd with rfl | hd
      ·exact h47
      ·exact hx d hd
     ·intro e;simp at e;obtain ⟨rfl,rfl⟩:=e;rcases hr with rfl | ⟨q,rfl⟩
      ·exact n7 (.inl rfl)
      ·exact n2 (by simp [List.isPrefixOf])
     ·intro e;simp at e;obtain ⟨rfl,rfl⟩:=e;rcases hr with rfl | ⟨q,rfl⟩
      ·exact n7 (.inr rfl)
      ·exact n1 (by simp [List.isPrefixOf])
theorem Jgf: ∀ (n:Nat) (i o:List UInt8),i.length≤n→JjP i o→ZE (Jdn i o)
 | 0,i,o,h,hd=>by
   have:i=[]:=List.eq_nil_of_length_eq_zero (by omega);subst this;rw [Jfa];exact hd.1
 | n+1,i,o,h,hd=>by
   by_cases hi:i=[]
   ·subst hi;rw [Jfa];exact hd.1
   ·have hl:=(Jbm i o hi).1;rw [JcE i o hi];exact Jgf n _ _ (by omega) (Jlm i o hi hd)
theorem Jln (l:List UInt8):ZE (JcD l):=Jgf l.length l [] (Nat.le_refl _) ⟨.nil,.inl rfl⟩
theorem Jj6 (x r o:List UInt8) (hx:JcT x) (hr:r=[]∨ ∃ q,r=47::q):X1 (47::(x++r)) o=(r,o++47::x):=by
 have hf:=Jfg 47 x r hx.1 hr;have e1:(47::(x++r)).drop (YV (47::(x++r)))=r:=by rw [hf,Nat.add_comm 1];simp
 have e2:(47::(x++r)).take (YV (47::(x++r)))=47::x:=by rw [hf,Nat.add_comm 1];simp
 obtain ⟨h1,h2,h3⟩:=hx;have key: ∀ y:List UInt8,(∀ d∈y,d≠47)→ ∀ q',x++r=y++47::q'→x=y:=by
  intro y hy q' e;rcases List.append_eq_append_iff.1 e with ⟨a,ha1,ha2⟩ | ⟨a,ha1,ha2⟩
  ·cases a with
   | nil=>simpa using ha1.symm
   | cons d a=>
     exfalso;rcases hr with rfl | ⟨q,rfl⟩
     ·simp at ha2
     ·simp at ha2;exact hy d (by rw [ha1];simp) ha2.1.symm
  ·cases a with
   | nil=>simpa using ha1
   | cons d a=>
     exfalso;simp at ha2;exact h1 d (by rw [ha1];simp) ha2.1.symm
 have keyE: ∀ y:List UInt8,(∀ d∈y,d≠47)→x++r=y→x=y:=by
  intro y hy e;rcases hr with rfl | ⟨q,rfl⟩
  ·simpa using e
  ·exact absurd rfl (hy 47 (by rw [←e];simp))
 unfold X1;rw [e1,e2];rw [if_neg (by simp [List.isPrefixOf]),if_neg (by simp [List.isPrefixOf])];rw [if_neg (fun h=>by
  obtain ⟨q,hq⟩:=JaJ h;exact h2 (key [46] (by simp) q (by simpa using hq)))]
 rw [if_neg (fun h=>by
  obtain ⟨q,hq⟩:=JaJ h;exact h3 (key [46,46] (by simp) q (by simpa using hq)))]
 rw [if_neg (fun h=>h2 (keyE [46] (by simp) (by simpa using h)))];rw [if_neg (fun h=>h3 (keyE [46,46] (by simp) (by simpa using h)))];rw [if_neg (by simp)]
theorem Jbc.head {r:List UInt8} (h:Jbc r):r=[]∨ ∃ q,r=47::q:=by
 cases h with
 | nil=>exact .inl rfl
 | cons x r _ _=>exact .inr ⟨x++r,by simp⟩
theorem Jhl {r:List UInt8} (h:Jbc r): ∀ o,Jdn r o=o++r:=by
 induction h with
 | nil=>intro o;rw [Jfa,List.append_nil]
 | cons x r hx hr ih=>
   intro o;rw [List.cons_append,JcE _ _ (by simp),Jj6 x r o hx hr.head,ih];simp
theorem JmQ {l:List UInt8} (h:ZE l):JcD l=l:=by
 obtain ⟨x,r,rfl,hx,hr⟩:=h;cases x with
 | nil=>exact (Jhl hr []).trans (by simp)
 | cons c x=>
   obtain ⟨h1,h2,h3⟩:=hx;have h47:c≠47:=h1 c (by simp);have hf:=Jfg c x r (fun d hd=>h1 d (by simp [hd])) hr.head;have e1:(c::(x++r)).drop (YV (c::(x++r)))=r:=by rw [hf,Nat.add_comm 1];simp
   have e2:(c::(x++r)).take (YV (c::(x++r)))=c::x:=by rw [hf,Nat.add_comm 1];simp
   have key: ∀ y q':List UInt8,(∀ d∈y,d≠47)→c::(x++r)=y++47::q'→c::x=y:=by
    intro y q' hy e;rw [←List.cons_append] at e;rcases List.append_eq_append_iff.1 e with ⟨a,ha1,ha2⟩ | ⟨a,ha1,ha2⟩
    ·cases a with
     | nil=>simpa using ha1.symm
     | cons d a=>
       exfalso;rcases hr.head with rfl | ⟨q,rfl⟩
       ·simp at ha2
       ·simp at ha2;exact hy d (by rw [ha1];simp) ha2.1.symm
    ·cases a with
     | nil=>simpa using ha1
     | cons d a=>
       exfalso;simp at ha2;exact h1 d (by rw [ha1];simp) ha2.1.symm
   have keyE: ∀ y:List UInt8,(∀ d∈y,d≠47)→c::(x++r)=y→c::x=y:=by
    intro y hy e;rcases hr.head with rfl | ⟨q,rfl⟩
    ·simpa using e
    ·exact absurd rfl (hy 47 (by rw [←e];simp))
   have hstep:X1 (c::(x++r)) []=(r,c::x):=by
    unfold X1;rw [e1,e2];rw [if_neg (fun h=>by
     obtain ⟨q,hq⟩:=JaJ h;exact h3 (key [46,46] q (by simp) (by simpa using hq)))]
    rw [if_neg (fun h=>by
     obtain ⟨q,hq⟩:=JaJ h;exact h2 (key [46] q (by simp) (by simpa using hq)))]
    rw [if_neg (fun h=>by
     obtain ⟨q,hq⟩:=JaJ h;simp at hq;exact h47 hq.1)]
    rw [if_neg (fun h=>by
     obtain ⟨q,hq⟩:=JaJ h;simp at hq;exact h47 hq.1)]
    rw [if_neg (fun h=>by simp at h;exact h47 h.1)];rw [if_neg (fun h=>by simp at h;exact h47 h.1)];rw [if_neg (fun h=>by
     rcases h with h | h
     ·exact h2 (keyE [46] (by simp) h)
     ·exact h3 (keyE [46,46] (by simp) h))]
    simp
   show Jdn (c::x++r) []=_;rw [List.cons_append,JcE _ _ (by simp),hstep,Jhl hr];simp
theorem Jge (l:List UInt8):JcD (JcD l)=JcD l:=JmQ (Jln l)
def JsJ (b:QH) (p:List UInt8):List UInt8:=
 if p=[] then b.path else if p.head?=some 47 then p else if b.ha=true∧b.path=[] then 47::p else JgX b.path++p
def JfC (b u:QH):QH:=
 if u.hs=true then { u with path:=JcD u.path }
 else if u.ha=true then { u with scheme:=b.scheme,hs:=true,path:=JcD u.path }
 else { scheme:=b.scheme,hs:=true,authority:=b.authority,ha:=b.ha,path:=JcD (JsJ b u.path),
        query:=if u.path=[]∧u.hq=false then b.query else u.query,hq:=if u.path=[]∧u.hq=false then b.hq else u.hq,fragment:=u.fragment,hf:=u.hf }
theorem JsQ (b u:QH):(JfC b u).hs=true:=by
 unfold JfC;split
 ·assumption
 split<;>rfl
theorem Jqk (b u:QH):JcD (JfC b u).path=(JfC b u).path:=by
 unfold JfC;split
 ·exact Jge _
 split<;>exact Jge _
def JdN (base s:List UInt8):Option (List UInt8):=if (QX base).hs=true then JhB (JfC (QX base) (QX s)) else none
theorem Jql {base s r:List UInt8} (h:JdN base s=some r):(QX r).hs=true∧JdN base r=some r∧r.length≤3000:=by
 unfold JdN at h;split at h
 ·rename_i hb;unfold JhB at h;split at h
  ·rename_i hj;simp only [Option.some.injEq] at h;rw [h] at hj;have hhs:=JsQ (QX base) (QX s);rw [←hj.2] at hhs;refine ⟨hhs,?_,hj.1⟩;have e:JfC (QX base) (QX r)=QX r:=by
    conv=>lhs;unfold JfC
    rw [if_pos hhs];have hp:=Jqk (QX base) (QX s);rw [←hj.2] at hp;rw [hp]
   unfold JdN;rw [if_pos hb,e,Jlz r hj.1]
  ·simp at h
 ·simp at h
def Xj (l:List UInt8):List UInt8:=l.filter fun c=>decide (32<c.toNat)
def okS (l:List UInt8):Bool:=l==[104,116,116,112] || l==[104,116,116,112,115] || l==[109,97,105,108,116,111]
def Yd (l:List UInt8):Bool:=okS (Jx (QX (Xj l)).scheme)
theorem JeX {p:UInt8→Prop} [DecidablePred p] (h: ∀ n:Fin 256,p ⟨⟨n⟩⟩) (c:UInt8):p c:=by
 have:=h c.toBitVec.toFin;exact this
def JO (n:List UInt8):Bool:=(n==[97]) || ((n==[98]) || ((n==[105]) || ((n==[101,109]) || ((n==[115,116,114,111,110,103]) || ((n==[112]) || ((n==[98,114]) || ((n==[104,114]) || ((n==[117,108]) || ((n==[111,108]) || ((n==[108,105]) || ((n==[98,108,111,99,107,113,117,111,116,101]) || ((n==[99,111,100,101]) || (n==[105,109,103])))))))))))))
def Yv (el nm:List UInt8):Bool:=if (el==[97])=true then (nm==[104,114,101,102]) || (nm==[116,105,116,108,101]) else if (el==[105,109,103])=true then (nm==[115,114,99]) || (nm==[97,108,116]) else false
def Yl (nm:List UInt8):Bool:=(nm==[104,114,101,102]) || (nm==[115,114,99])
def Jkt (base s:List UInt8):List UInt8:=if 3000<s.length then s else (JdN base s).getD s
def YB (el:List UInt8) (a:Jw):Int:=if Yv el a.1=false then 7 else if Yl a.1=false then 0 else if 3000<a.2.length then 2 else if Yd a.2=false then 4 else 0
def ZF (el:List UInt8):List Jw→Int
 | []=>0
 | a::r=>if YB el a=0 then ZF el r else YB el a
def YW (l:List Jw):Bool:=l.any (fun a=>a.1==[115,114,99])
def QY (n:List UInt8) (l:List Jw):Int:=if n.isEmpty=true then 0 else if JO n=false then 7 else if ZF n l=0 then (if ((n==[105,109,103])&& !YW l)=true then 5 else 0) else ZF n l
def JaU (base:List UInt8) (a:Jw):Jw:=if Yl a.1=true then (a.1,Jkt base a.2) else a
def XW (base el:List UInt8) (l:List Jw):List Jw:=(l.map (JaU base)).filter (fun a=>YB el a==0)
end Go.Proofs.YtlcljanibjdejaaGreat
namespace Go.Proofs.YtlcljanibjdejaaGreat
open Go.RowKit
theorem JF {S T:List Nat} {a b c:World} (h:Jb T a b) (k:Jb S b c) (hS: ∀ g,g∈S→g<a.heap.size→g∈T):Jb T a c:=
 ⟨k.os.trans h.os,k.tape.trans h.tape,k.output.trans h.output,Nat.le_trans h.size k.size,fun i hi hT=>(k.block i (Nat.lt_of_lt_of_le hi h.size) (fun hm=>hT (hS i hm hi))).trans (h.block i hi hT)⟩
def X4 (e:Int):List PanicEntry:=[{ v:=.iface 168 (.agg #[.int .i64 e]),recovered:=false }]
theorem Ja1 (e:Int) (w:World):Calls Tryz.prog 141 #[.int .i64 e] w fun r w'=>r=.panicked (X4 e)∧w'=w:=by
 go_enter Tryz.func141,Tryz.ntmps141
 go_wp2
 exact ⟨rfl,rfl,rfl⟩
theorem Jmb (x n:Value):(#[x]++((Array.replicate 16 undef).setIfInBounds 3 n).setIfInBounds 0 n)=#[x,n,undef,undef,n,undef,undef,undef,undef,undef,undef,undef,undef,undef,undef,undef,undef]:=by kernel_rfl
theorem Jld (p:Addr) (w:World):
  CallsD Tryz.prog 140 #[.pointer (some p)] .returning w fun e u' w'=>e=.returned (.tuple #[])∧u'=.returning∧w'=w:=by
 refine callsD_of_wpS Tryz.func140 rfl fun c₀ cs hu=>?_;apply wpS_seq;apply wpS_region;simp [wpOpsS,go_sem,recoverD,hu,Tryz.ntmps140,Exit.thenS];rw [Jmb];refine wpS_of_wp ?_
 go_wp2
 cases c₀
 simp_all [bodyPostS,results,Tryz.results140]
theorem Jn6 (e:Int) (w:World):(Instr.typeAssert (.iface 168 (.agg #[.int .i64 e])) 20 168 true).run Tryz.prog w=.ok (.tuple #[.agg #[.int .i64 e],.bool true]) w:=by kernel_rfl
set_option maxRecDepth 100000 in
theorem JgC (x e:Int) (pe:Nat) (w:World) (hf:w.heap[pe]?=some (.cells #[.int .i64 x] 22 (0,0))):
  CallsD Tryz.prog 140 #[.pointer (some ⟨pe,0,none⟩)] (.panicking (X4 e)) w fun r u' w'=>
   r=.returned (.tuple #[])∧u'=.panicking [{ v:=.iface 168 (.agg #[.int .i64 e]),recovered:=true }]∧w'.cell? ⟨pe,0,none⟩=some (.int .i64 e)∧Jb [pe] w w':=by
 refine callsD_of_wpS Tryz.func140 rfl fun c₀ cs hu=>?_;unfold X4 at hu;have hlt:pe<w.heap.size:=lt_of_block hf;have blk: ∀ o,(w.alloc o).heap[pe]?=some (.cells #[.int .i64 x] 22 (0,0)):=fun o=>(Below.heap_alloc w o _ hlt).trans hf;have ce: ∀ o,(w.alloc o).cell? ⟨pe,0,none⟩=some (.int .i64 x):=fun o=>cell_of_one (blk o);have fe: ∀ o,(w.alloc o).frozen? ⟨pe,0,none⟩=false:=fun o=>by simp [World.frozen?,blk o]
 have hta:=Jn6 e;apply wpS_seq;apply wpS_region;simp [wpOpsS,go_sem,recoverD,hu,Tryz.ntmps140,Exit.thenS];rw [Jmb];clear hu;refine wpS_of_wp ?_
 go_wp2
 refine ⟨rfl,_,rfl,.tuple #[],by simp [results,Tryz.results140],rfl,rfl,?_,((Jb.refl [pe] w).setCell (p:=⟨pe,0,none⟩) (.inl (by simp)) _).alloc _⟩;refine (World.cell?_of_block (Below.heap_alloc _ _ _ (by simpa [World.setCell] using hlt))).trans ?_;simp [World.cell?,World.setCell,Array.getElem?_modify,hf]
set_option maxRecDepth 100000 in
theorem Jg6 (K:Nat) (caps:Array Value) (Yes:World→Prop) (No:Int→World→Prop) (S:List Nat) (w:World) (hK:Jy K) (hS: ∀ i,i∈S→i<w.heap.size)
  (hY: ∀ w2 w3,w2.heap[w.heap.size]?=some (.cells #[.int .i64 0] 22 (0,0))→Yes w2→Jb [w.heap.size] w2 w3→Yes w3) (hN: ∀ x w2 w3,w2.heap[w.heap.size]?=some (.cells #[.int .i64 0] 22 (0,0))→No x w2→Jb [w.heap.size] w2 w3→No x w3)
  (hdo: ∀ w1,Jb [] w w1→w.heap.size<w1.heap.size→Calls Tryz.prog K caps w1 fun e w2=>(e=.returned (.tuple #[])∧Yes w2∨ ∃ x,e=.panicked (X4 x)∧No x w2)∧Jb S w1 w2):
  Calls Tryz.prog 64 #[.func (.func K) #[] caps] w fun e w'=>
   (e=.returned (.int .i64 0)∧Yes w'∨ ∃ x,e=.returned (.int .i64 x)∧No x w')∧Jb S w w':=by
 have hmf: ∀ (fn:Fn) (first cap:Array Value) (w:World),(Instr.makeFunc fn first cap).run Tryz.prog w=.ok (.func fn first cap) w:=fun _ _ _ _=>rfl;have hK':=hK;unfold Jy at hK';have hka:Jb [] w (w.alloc (.cells #[.int .i64 0] 22)):=(Jb.refl [] w).alloc _;have hkS: ∀ w2,Jb S (w.alloc (.cells #[.int .i64 0] 22)) w2→Jb S w w2:=fun w2 h=>((Jb.refl S w).alloc _).trans h;have hnew:(w.alloc (.cells #[.int .i64 0] 22)).heap[w.heap.size]?=some (.cells #[.int .i64 0] 22 (0,0)):=heap_alloc_new w _;have hns:w.heap.size∉S:=fun h=>by have:=hS _ h;omega
 go_enter_defers Tryz.func64,Tryz.ntmps64
 go_wp2_with fail;refine (hdo _ hka (by simp)).mono ?_;rintro e w2 ⟨⟨rfl,hy⟩ | ⟨x,rfl,hno⟩,hk⟩
 ·have hb2:w2.heap[w.heap.size]?=some (.cells #[.int .i64 0] 22 (0,0)):=(hk.block _ (by simp) hns).trans hnew;have c2:w2.cell? ⟨w.heap.size,0,none⟩=some (.int .i64 0):=cell_of_one hb2;have f2:w2.frozen? ⟨w.heap.size,0,none⟩=false:=by simp [World.frozen?,hb2]
  go_wp2_with fail;refine leaves_cons (f:=140) (args:=#[.pointer (some ⟨w.heap.size,0,none⟩)]) (by simp) (by simp [go_sem]) ?_;refine (Jld _ _).mono ?_;rintro e u' w3 ⟨rfl,rfl,rfl⟩;have hks:Jb [w.heap.size] w2 (w2.setCell ⟨w.heap.size,0,none⟩ (.int .i64 0)):=(Jb.refl _ w2).setCell (.inl (by simp)) _;refine ⟨.int .i64 0,?_,.inl ⟨rfl,hY _ _ hb2 hy hks⟩,?_⟩
  ·simp [results,Tryz.results64,asAddr,loadVar,go_sem,World.cell?,World.setCell,Array.getElem?_modify,hb2]
  ·exact JF (hkS _ hk) hks (fun i hi hlt=>by simp at hi;omega)
 ·have hb2:w2.heap[w.heap.size]?=some (.cells #[.int .i64 0] 22 (0,0)):=(hk.block _ (by simp) hns).trans hnew;go_wp2_with fail;refine leaves_cons (f:=140) (args:=#[.pointer (some ⟨w.heap.size,0,none⟩)]) (by simp) (by simp [go_sem]) ?_;refine (JgC 0 x w.heap.size w2 hb2).mono ?_;rintro e u' w3 ⟨rfl,rfl,c3,hk3⟩;refine ⟨.int .i64 x,?_,.inr ⟨x,rfl,hN _ _ _ hb2 hno hk3⟩,?_⟩
  ·simp [results,Tryz.results64,asAddr,loadVar,go_sem,c3]
  ·exact JF (hkS _ hk) hk3 (fun i hi hlt=>by simp at hi;omega)
end Go.Proofs.YtlcljanibjdejaaGreat
namespace Go.Proofs.YtlcljanibjdejaaGreat
open Go.RowKit Go.Maps
set_option maxRecDepth 4000 in
theorem Jjz (n:List UInt8) (w:World):Calls Tryz.prog 172 #[.string ⟨n.toArray⟩] w fun e w'=>e=.returned (.bool (JO n))∧w'=w:=by
 by_cases h:JO n=true
 ·rw [h];simp only [JO,Bool.or_eq_true,beq_iff_eq] at h;rcases h with rfl | rfl | rfl | rfl | rfl | rfl | rfl | rfl | rfl | rfl | rfl | rfl | rfl | rfl
  all_goals
   go_enter Tryz.func172,Tryz.ntmps172;go_wp2_with fail;go_ret;exact ⟨rfl,rfl⟩
 ·have h2:JO n=false:=by simpa using h
  rw [h2];simp only [JO,Bool.or_eq_false_iff] at h2;obtain ⟨h1,h2,h3,h4,h5,h6,h7,h8,h9,h10,h11,h12,h13,h14⟩:=h2;have p1:=(Jp n _).trans h1;have p2:=(Jp n _).trans h2;have p3:=(Jp n _).trans h3;have p4:=(Jp n _).trans h4;have p5:=(Jp n _).trans h5;have p6:=(Jp n _).trans h6;have p7:=(Jp n _).trans h7;have p8:=(Jp n _).trans h8;have p9:=(Jp n _).trans h9;have p10:=(Jp n _).trans h10;have p11:=(Jp n _).trans h11;have p12:=(Jp n _).trans h12;have p13:=(Jp n _).trans h13;have p14:=(Jp n _).trans h14;clear h;go_enter Tryz.func172,Tryz.ntmps172;go_wp2_with fail;go_ret;exact ⟨rfl,rfl⟩
theorem Jm0 (n:List UInt8) (w:World):Calls Tryz.prog 243 #[.string ⟨n.toArray⟩] w fun e w'=>e=.returned (.bool (Yl n))∧w'=w:=by
 unfold Yl;cases h1:(n==[104,114,101,102])<;>cases h2:(n==[115,114,99])
 all_goals
  have p1:=(Jp n _).trans h1;have p2:=(Jp n _).trans h2;go_enter Tryz.func243,Tryz.ntmps243;go_wp2_with fail;go_ret;exact ⟨rfl,rfl⟩
theorem Jf2 (el n:List UInt8) (w:World):Calls Tryz.prog 242 #[.string ⟨el.toArray⟩,.string ⟨n.toArray⟩] w fun e w'=>e=.returned (.bool (Yv el n))∧w'=w:=by
 unfold Yv;cases e1:(el==[97])
 ·have q1:=(Jp el _).trans e1;cases e2:(el==[105,109,103])
  ·have q2:=(Jp el _).trans e2;go_enter Tryz.func242,Tryz.ntmps242;go_wp2_with fail;go_ret;exact ⟨rfl,rfl⟩
  ·have q2:=(Jp el _).trans e2;cases h1:(n==[115,114,99])<;>cases h2:(n==[97,108,116])
   all_goals
    have p1:=(Jp n _).trans h1;have p2:=(Jp n _).trans h2;go_enter Tryz.func242,Tryz.ntmps242;go_wp2_with fail;go_ret;exact ⟨rfl,rfl⟩
 ·have q1:=(Jp el _).trans e1;cases h1:(n==[104,114,101,102])<;>cases h2:(n==[116,105,116,108,101])
  all_goals
   have p1:=(Jp n _).trans h1;have p2:=(Jp n _).trans h2;go_enter Tryz.func242,Tryz.ntmps242;go_wp2_with fail;go_ret;exact ⟨rfl,rfl⟩
theorem JdC (b:Bool) (w:World):Calls Tryz.prog 244 #[.bool b,.int .i64 0] w fun e w'=>e=.returned (.bool b)∧w'=w:=by
 go_enter Tryz.func244,Tryz.ntmps244;go_wp2_with fail;go_ret;exact ⟨rfl,rfl⟩
theorem JlC (b:Bool) (x:Int) (hx:x≠0) (w:World):Calls Tryz.prog 244 #[.bool b,.int .i64 x] w fun e w'=>e=.panicked (X4 x)∧w'=w:=by
 have hd:(x != 0)=true:=by simpa using hx
 clear hx;go_enter Tryz.func244,Tryz.ntmps244;go_wp2_with fail;refine (Ja1 x _).mono ?_;rintro e w1 ⟨rfl,rfl⟩;exact ⟨rfl,rfl,rfl⟩
theorem Jpu (n v:List UInt8) (w:World):Calls Tryz.prog 175 #[.agg #[.string ⟨n.toArray⟩,.string ⟨v.toArray⟩]] w fun e w'=>e=.returned (.bool (n==[115,114,99]))∧Jb [] w w':=by
 have hk:Jb [] w (w.alloc (.cells #[.string ⟨n.toArray⟩,.string ⟨v.toArray⟩] 52)):=(Jb.refl [] w).alloc _;cases h1:(n==[115,114,99])
 all_goals
  have p1:=(Jp n _).trans h1;go_enter Tryz.func175,Tryz.ntmps175;go_wp2_with fail;go_ret;exact ⟨rfl,hk⟩
def Jao:List Jw→Nat→Int
 | [],_=> -1
 | p::r,k=>if (p.1==[115,114,99])=true then (k:Int) else Jao r (k+1)
theorem Jl8: ∀ (l:List Jw) (k:Nat),decide (0≤Jao l k)=YW l
 | [],k=>by simp [Jao,YW]
 | p::r,k=>by
   rw [Jao];have:=Jl8 r (k+1);unfold YW at this ⊢;rw [List.any_cons];cases h:(p.1==[115,114,99])
   ·simpa using this
   ·simp
theorem JiK:Jy 175:=JC Tryz.func175 (by kernel_rfl) (by kernel_rfl)
set_option maxRecDepth 4000 in
theorem Jkh (w:World) (v:Value) (l:List Jw) (hv:Jh w v l.length 2 (Jj l)):
  Calls Tryz.prog 245 #[v,.func (.func 175) #[] #[]] w fun e w'=>e=.returned (.int .i64 (Jao l 0))∧Jb [] w w':=by
 have hE:=JiK;unfold Jy at hE;obtain ⟨o,c,rfl,h1,h2⟩:=hv.form;obtain ⟨R,hR⟩: ∃ R,Jao l 0=R:=⟨_,rfl⟩;rw [hR];have HR:=Ja hR;clear hR;unfold maxLen at h2;go_enter Tryz.func245,Tryz.ntmps245;go_wp2_with fail;go_loopw [8] (fun i wr=> ∃ k:Nat,k≤l.length∧i=.int .i64 k∧Jb [] w wr∧Hid (Jao (l.drop k) k=R)) (fun i _=>l.length - (intOf i).toNat)
 case atStart=>exact ⟨0,Nat.zero_le _,rfl,Jb.refl _ _,HR⟩
 case round=>
  obtain ⟨k,hk,rfl,hkw,hC⟩:=hrel;clear HR;by_cases hlt:k<l.length
  ·obtain ⟨g,x,rfl,hc⟩:=(hv.keeps hkw).addr (by omega);have a0:=hc _ _ (Zw l k hlt);have a1:=hc _ _ (JaZ l k hlt);rw [←Nat.add_assoc] at a1;have hC1:=hC.out;rw [List.drop_eq_getElem_cons hlt,Jao] at hC1;have HC1:=Ja hC1;clear hC hC1 hc;generalize l[k]=p at *;obtain ⟨n,v⟩:=p;simp only at a0 a1;have hs:=Ja (Jpu n v wr);cases hb:(n==[115,114,99])
   ·rw [hb] at hs;go_wp2_with fail;refine hs.out.mono ?_;rintro e w1 ⟨rfl,hk1⟩;clear a0 a1;go_wp2_with fail;go_roundw
    case rel=>exact ⟨k+1,by omega,by go_num,hkw.trans hk1,by have h9:=HC1.out;simp only [hb] at h9;exact Ja (by simpa using h9)⟩
    case measure=>simp [intOf];omega
   ·rw [hb] at hs;go_wp2_with fail;refine hs.out.mono ?_;rintro e w1 ⟨rfl,hk1⟩;clear a0 a1;go_wp2_with fail;go_ret;refine ⟨?_,hkw.trans hk1⟩;have h9:=HC1.out;simp only [hb,if_true] at h9;rw [←h9];rfl
  ·have hRR:R= -1:=by
    rw [←hC.out,List.drop_eq_nil_of_le (by omega)];rfl
   subst hRR;go_wp2_with fail;go_ret;exact ⟨rfl,hkw⟩
theorem Jhd (w:World) (v:Value) (l:List Jw) (hv:Jh w v l.length 2 (Jj l)):
  Calls Tryz.prog 174 #[v,.func (.func 175) #[] #[]] w fun e w'=>e=.returned (.bool (YW l))∧Jb [] w w':=by
 have hs:=Ja (Jkh w v l hv);obtain ⟨o,c,rfl,h1,h2⟩:=hv.form;rw [←Jl8 l 0];generalize Jao l 0=R at *;clear hv;cases hd:decide (0≤R)
 all_goals
  go_enter Tryz.func174,Tryz.ntmps174;go_wp2_with fail;refine hs.out.mono ?_;rintro e w1 ⟨rfl,hk1⟩;go_wp2_with fail;go_ret;exact ⟨rfl,hk1⟩
end Go.Proofs.YtlcljanibjdejaaGreat
namespace Go.Proofs.YtlcljanibjdejaaGreat
open Go.RowKit
theorem Jo8:Jy 284:=JC Tryz.func284 (by kernel_rfl) (by kernel_rfl)
theorem Jo9:Jy 286:=JC Tryz.func286 (by kernel_rfl) (by kernel_rfl)
theorem JoY:Jy 215:=JC Tryz.func215 (by kernel_rfl) (by kernel_rfl)
theorem JrV (c:UInt8) (w:World):Calls Tryz.prog 284 #[.int .u8 c.toNat] w fun e w'=>e=.returned (.bool (Yh c))∧w'=w:=by
 have hl:=Ja (fun w=>Jap c w);have hd:=Ja (fun w=>JfU c w);have e1:(c==43)=((c.toNat:Int)==43):=Z0 rfl;have e2:(c==45)=((c.toNat:Int)==45):=Z0 rfl;have e3:(c==46)=((c.toNat:Int)==46):=Z0 rfl;unfold Yh;rw [e1,e2,e3];clear e1 e2 e3;generalize J2 c=a at *;generalize Jc0 c=b at *;generalize c.toNat=n at *;cases a<;>cases b<;>cases h1:((n:Int)==43)<;>cases h2:((n:Int)==45)<;>cases h3:((n:Int)==46)
 all_goals
  go_enter Tryz.func284,Tryz.ntmps284;go_wp2_with (first | (go_at_call 224;refine (hl.out _).mono ?_;rintro e w' ⟨rfl,rfl⟩) | (go_at_call 285;refine (hd.out _).mono ?_;rintro e w' ⟨rfl,rfl⟩));go_ret;exact ⟨rfl,rfl⟩
theorem JgS {l:List UInt8} (h:l.length≤(l.takeWhile Yh).length):J8 l=none:=by
 unfold J8;rw [if_neg];rintro ⟨_,_,h3⟩;rw [List.drop_eq_nil_of_le h] at h3;simp at h3
set_option maxRecDepth 4000 in
theorem JnH (b:Nat) (s:ByteArray) (w:World) (hs:s.size≤3000) (hT:Jf w b s 0):
  Calls Tryz.prog 216 #[.pointer (some ⟨b,0,none⟩)] w fun e w'=>
   ((∃ n,J8 s.data.toList=some n∧e=.returned (.string ⟨n.toArray⟩)∧Jf w' b s (n.length+1))∨(J8 s.data.toList=none∧e=.panicked Yp∧ ∃ j,Jf w' b s j))∧Jb [b] w w':=by
 have hp:=Ja (Zg 284 Yh Jo8 JrV b s 0 w hs hT (Nat.zero_le _));rw [List.drop_zero,Nat.zero_add] at hp;have hle:=Xa Yh s 0 (Nat.zero_le _);rw [List.drop_zero,Nat.zero_add] at hle;obtain ⟨n,hn⟩: ∃ n,s.data.toList.takeWhile Yh=n:=⟨_,rfl⟩;have hend:Hid (s.size≤n.length→J8 s.data.toList=none):=fun h=>JgS (by rw [hn,Js];exact h);have hget:Hid (∀ h:n.length<s.size,J8 s.data.toList=if n≠[]∧J2 (n.getD 0 0)=true∧Jr s n.length=58 then some n else none):=by
  intro h;unfold J8;rw [hn,List.head?_drop,List.getElem?_eq_getElem (by rw [Js];exact h),Q0 s _ h];have:s.data.toList[n.length]'(by rw [Js];exact h)=s[n.length]:=rfl;rw [this];simp
 rw [hn] at hp hle;clear hn;by_cases hlt:n.length<s.size
 ·have hg:=Ja (hget.out hlt);clear hend hget;have hl0:=Ja (fun w=>Jap (n.getD 0 0) w);have hbb:(Jr s n.length=58)↔(((Jr s n.length).toNat:Int) != 58)=false:=by
   rw [show ((58:Int))=(((58:UInt8).toNat:Nat):Int) from rfl,YM];simp
  cases hc:(((Jr s n.length).toNat:Int) != 58)
  ·cases n with
   | nil=>
     have hnone:Hid (J8 s.data.toList=none):=hg.out.trans (if_neg (by simp));clear hg hbb;have h1:=Ja (fun (w:World) hT=>Q2 b s 0 w hs hT hlt);simp only [List.length_nil] at hc;go_enter Tryz.func216,Tryz.ntmps216;go_wp2_with fail;refine hp.out.mono ?_;rintro e w1 ⟨rfl,hT1,hk1⟩;go_wp2_with fail;refine (h1.out _ hT1).mono ?_;rintro e w2 ⟨rfl,hT2,hk2⟩;go_wp2_with fail;refine (Zq _).mono ?_;rintro e w3 ⟨rfl,rfl⟩;go_wp2_with fail;exact ⟨rfl,.inr ⟨hnone.out,rfl,_,hT2⟩,hk1.trans hk2⟩
   | cons d m=>
     have e0:(d::m).getD 0 0=d:=rfl;rw [e0] at hl0 hg;have hsz:(⟨(d::m).toArray⟩:ByteArray).size=m.length+1:=rfl;have hix:(⟨(d::m).toArray⟩:ByteArray)[0]'(by rw [hsz];omega)=d:=rfl;have hem:((⟨(d::m).toArray⟩:ByteArray).toList.isEmpty)=false:=by rw [ByteArray.toList_eq];rfl
     have hlz:Hid (J2 d=false→J8 s.data.toList=none):=fun h=>hg.out.trans (if_neg (by simp [h]));have hly:Hid (J2 d=true→J8 s.data.toList=some (d::m)):=fun h=>hg.out.trans (if_pos ⟨by simp,h,hbb.2 hc⟩);clear hg hbb;have h1:=Ja (fun (w:World) hT=>Q2 b s (d::m).length w hs hT hlt);generalize J2 d=a at *;generalize hlen:(d::m).length=len at *;generalize hstr:(⟨(d::m).toArray⟩:ByteArray)=str at *;have HLEN:=Ja hlen;have HSTR:=Ja hstr;clear hlen hstr;cases a
     ·go_enter Tryz.func216,Tryz.ntmps216;go_wp2_with fail;refine hp.out.mono ?_;rintro e w1 ⟨rfl,hT1,hk1⟩;go_wp2_with fail;refine (h1.out _ hT1).mono ?_;rintro e w2 ⟨rfl,hT2,hk2⟩;go_wp2_with fail;refine (hl0.out _).mono ?_;rintro e w3 ⟨rfl,rfl⟩;go_wp2_with fail;refine (Zq _).mono ?_;rintro e w4 ⟨rfl,rfl⟩;go_wp2_with fail;exact ⟨rfl,.inr ⟨hlz.out trivial,rfl,_,hT2⟩,hk1.trans hk2⟩
     ·go_enter Tryz.func216,Tryz.ntmps216;go_wp2_with fail;refine hp.out.mono ?_;rintro e w1 ⟨rfl,hT1,hk1⟩;go_wp2_with fail;refine (h1.out _ hT1).mono ?_;rintro e w2 ⟨rfl,hT2,hk2⟩;go_wp2_with fail;refine (hl0.out _).mono ?_;rintro e w3 ⟨rfl,rfl⟩;go_wp2_with fail;go_ret;exact ⟨.inl ⟨_,hly.out trivial,by rw [←HSTR.out];simp,by rw [HLEN.out];exact hT2⟩,hk1.trans hk2⟩
  ·have hnone:Hid (J8 s.data.toList=none):=hg.out.trans (if_neg (fun h=>by rw [hbb.1 h.2.2] at hc;simp at hc));clear hg hbb;have h1:=Ja (fun (w:World) hT=>Q2 b s n.length w hs hT hlt);generalize n.length=len at *;go_enter Tryz.func216,Tryz.ntmps216;go_wp2_with fail;refine hp.out.mono ?_;rintro e w1 ⟨rfl,hT1,hk1⟩;go_wp2_with fail;refine (h1.out _ hT1).mono ?_;rintro e w2 ⟨rfl,hT2,hk2⟩;go_wp2_with fail;refine (Zq _).mono ?_;rintro e w3 ⟨rfl,rfl⟩;go_wp2_with fail;exact ⟨rfl,.inr ⟨hnone.out,rfl,_,hT2⟩,hk1.trans hk2⟩
 ·have hnone:=Ja (hend.out (by omega));clear hend hget;have h1:=Ja (fun (w:World) hT=>Jkx b s n.length w hT (by omega));generalize n.length=len at *;go_enter Tryz.func216,Tryz.ntmps216;go_wp2_with fail;refine hp.out.mono ?_;rintro e w1 ⟨rfl,hT1,hk1⟩;go_wp2_with fail;refine (h1.out _ hT1).mono ?_;rintro e w2 ⟨rfl,m,rfl⟩;go_wp2_with fail;exact ⟨rfl,.inr ⟨hnone.out,rfl,_,hT1⟩,hk1.drewN _⟩
def YA (w:World) (p:Nat) (x:ByteArray):Prop:=w.heap[p]?=some (.cells #[.string x] 9 (0,0))
theorem YA.lt {w:World} {p:Nat} {x:ByteArray} (h:YA w p x):p<w.heap.size:=lt_of_block h
theorem YA.keeps {S:List Nat} {w w':World} {p:Nat} {x:ByteArray} (h:YA w p x) (hk:Jb S w w') (hp:p∉S):YA w' p x:=by
 rw [YA,hk.block p h.lt hp];exact h
theorem YA.cell {w:World} {p:Nat} {x:ByteArray} (h:YA w p x):w.cell? ⟨p,0,none⟩=some (.string x):=cell_of_one h
theorem Jor (c:UInt8):((c.toNat:Int).toNat.toUInt8)=c:=by simp
theorem JmW (p:Nat) (ends:ByteArray) (c:UInt8) (w:World) (h:YA w p ends):
  Calls Tryz.prog 286 #[.int .u8 c.toNat,.pointer (some ⟨p,0,none⟩)] w fun e w'=>e=.returned (.bool (decide (Lib.indexByte ends.data.toList c<0)))∧w'=w:=by
 have c0:=h.cell;have hi:=Ja (fun w=>Tryz.strings_IndexByte ends (c.toNat:Int) w);rw [Jor] at hi;generalize Lib.indexByte ends.data.toList c=r at *;go_enter Tryz.func286,Tryz.ntmps286;go_wp2_with (go_at_call 287;refine (hi.out _).mono ?_;rintro e w' ⟨rfl,rfl⟩);go_ret;exact ⟨by simp,rfl⟩
theorem JkC (b:Nat) (s:ByteArray) (k:Nat) (ends:ByteArray) (f:UInt8→Bool) (hf: ∀ c,decide (Lib.indexByte ends.data.toList c<0)=f c) (w:World) (hs:s.size≤3000) (hT:Jf w b s k) (hk:k≤s.size):
  Calls Tryz.prog 217 #[.pointer (some ⟨b,0,none⟩),.string ends] w fun e w'=>
   e=.returned (.string ⟨((s.data.toList.drop k).takeWhile f).toArray⟩)∧Jf w' b s (k+((s.data.toList.drop k).takeWhile f).length)∧Jb [b] w w':=by
 have hka:Jb [] w (w.alloc (.cells #[.string ends] 9)):=(Jb.refl [] w).alloc _;have hS:YA (w.alloc (.cells #[.string ends] 9)) w.heap.size ends:=heap_alloc_new _ _;have hmf: ∀ (fn:Fn) (first cap:Array Value) (w:World),(Instr.makeFunc fn first cap).run Tryz.prog w=.ok (.func fn first cap) w:=fun _ _ _ _=>rfl;have hp:=Ja (JbW 286 #[.pointer (some ⟨w.heap.size,0,none⟩)] f b s k (w.alloc (.cells #[.string ends] 9)) hs (hT.keeps hka (by simp)) hk Jo9 fun c w1 hk1=>
  (JmW w.heap.size ends c w1 (hS.keeps hk1 (by have:=hT.lt;simp;omega))).mono fun e w' ⟨he,hw⟩=>⟨by rw [he,hf],0,hw⟩)
 rw [Jeo] at hp;clear hS hf;go_enter Tryz.func217,Tryz.ntmps217;go_wp2_with fail;refine hp.out.mono ?_;rintro e w1 ⟨rfl,hT1,hk1⟩;go_wp2_with fail;go_ret;exact ⟨rfl,hT1,(hka.mono (T:=[b]) (by simp)).trans hk1⟩
theorem JtK: ∀ c:UInt8,decide (Lib.indexByte (⟨#[47,63,35]⟩:ByteArray).data.toList c<0)=JfS c:=JeX (by decide+kernel)
theorem Jsr: ∀ c:UInt8,decide (Lib.indexByte (⟨#[63,35]⟩:ByteArray).data.toList c<0)=Jb9 c:=JeX (by decide+kernel)
theorem Jss: ∀ c:UInt8,decide (Lib.indexByte (⟨#[35]⟩:ByteArray).data.toList c<0)=JaK c:=JeX (by decide+kernel)
def JbZ (u:QH):Array Value:=#[.string ⟨u.scheme.toArray⟩,.string ⟨u.authority.toArray⟩,.string ⟨u.path.toArray⟩,.string ⟨u.query.toArray⟩,.string ⟨u.fragment.toArray⟩,.bool u.hs,.bool u.ha,.bool u.hq,.bool u.hf]
def Jsh (u:QH):Value:=.agg (JbZ u)
def JN (w:World) (q:Nat) (u:QH):Prop:=w.heap[q]?=some (.cells #[.string ⟨u.scheme.toArray⟩,.string ⟨u.authority.toArray⟩,.string ⟨u.path.toArray⟩,.string ⟨u.query.toArray⟩,.string ⟨u.fragment.toArray⟩,.bool u.hs,.bool u.ha,.bool u.hq,.bool u.hf] 99 (0,0))
theorem JN.lt {w:World} {q:Nat} {u:QH} (h:JN w q u):q<w.heap.size:=lt_of_block h
theorem JN.keeps {S:List Nat} {w w':World} {q:Nat} {u:QH} (h:JN w q u) (hk:Jb S w w') (hq:q∉S):JN w' q u:=by
 rw [JN,hk.block q h.lt hq];exact h
theorem JN.free {w:World} {q:Nat} {u:QH} (h:JN w q u) (j:Nat):w.frozen? ⟨q,j,none⟩=false:=by
 simp [World.frozen?,JN] at h ⊢;simp [h]
theorem JN.cell {w:World} {q:Nat} {u:QH} (h:JN w q u) (j:Nat):w.cell? ⟨q,j,none⟩=(JbZ u)[j]?:=by
 simp [World.cell?,JN,JbZ] at h ⊢;simp [h]
theorem JN.set0 {w:World} {q:Nat} {u:QH} (h:JN w q u) (x:List UInt8):JN (w.setCell ⟨q,0,none⟩ (.string ⟨x.toArray⟩)) q { u with scheme:=x }:=by
 simp [World.setCell,JN,Array.getElem?_modify] at h ⊢;simp [h]
theorem JN.set1 {w:World} {q:Nat} {u:QH} (h:JN w q u) (x:List UInt8):JN (w.setCell ⟨q,1,none⟩ (.string ⟨x.toArray⟩)) q { u with authority:=x }:=by
 simp [World.setCell,JN,Array.getElem?_modify] at h ⊢;simp [h]
theorem JN.set2 {w:World} {q:Nat} {u:QH} (h:JN w q u) (x:List UInt8):JN (w.setCell ⟨q,2,none⟩ (.string ⟨x.toArray⟩)) q { u with path:=x }:=by
 simp [World.setCell,JN,Array.getElem?_modify] at h ⊢;simp [h]
theorem JN.set3 {w:World} {q:Nat} {u:QH} (h:JN w q u) (x:List UInt8):JN (w.setCell ⟨q,3,none⟩ (.string ⟨x.toArray⟩)) q { u with query:=x }:=by
 simp [World.setCell,JN,Array.getElem?_modify] at h ⊢;simp [h]
theorem JN.set4 {w:World} {q:Nat} {u:QH} (h:JN w q u) (x:List UInt8):JN (w.setCell ⟨q,4,none⟩ (.string ⟨x.toArray⟩)) q { u with fragment:=x }:=by
 simp [World.setCell,JN,Array.getElem?_modify] at h ⊢;simp [h]
theorem JN.set5 {w:World} {q:Nat} {u:QH} (h:JN w q u) (x:Bool):JN (w.setCell ⟨q,5,none⟩ (.bool x)) q { u with hs:=x }:=by
 simp [World.setCell,JN,Array.getElem?_modify] at h ⊢;simp [h]
theorem JN.set6 {w:World} {q:Nat} {u:QH} (h:JN w q u) (x:Bool):JN (w.setCell ⟨q,6,none⟩ (.bool x)) q { u with ha:=x }:=by
 simp [World.setCell,JN,Array.getElem?_modify] at h ⊢;simp [h]
theorem JN.set7 {w:World} {q:Nat} {u:QH} (h:JN w q u) (x:Bool):JN (w.setCell ⟨q,7,none⟩ (.bool x)) q { u with hq:=x }:=by
 simp [World.setCell,JN,Array.getElem?_modify] at h ⊢;simp [h]
theorem JN.set8 {w:World} {q:Nat} {u:QH} (h:JN w q u) (x:Bool):JN (w.setCell ⟨q,8,none⟩ (.bool x)) q { u with hf:=x }:=by
 simp [World.setCell,JN,Array.getElem?_modify] at h ⊢;simp [h]
def JaP (w:World) (p b:Nat):Prop:=w.heap[p]?=some (.cells #[.pointer (some ⟨b,0,none⟩)] 105 (0,0))
theorem JaP.lt {w:World} {p b:Nat} (h:JaP w p b):p<w.heap.size:=lt_of_block h
theorem JaP.keeps {S:List Nat} {w w':World} {p b:Nat} (h:JaP w p b) (hk:Jb S w w') (hp:p∉S):JaP w' p b:=by
 rw [JaP,hk.block p h.lt hp];exact h
theorem JaP.cell {w:World} {p b:Nat} (h:JaP w p b):w.cell? ⟨p,0,none⟩=some (.pointer (some ⟨b,0,none⟩)):=cell_of_one h
theorem JjI (p q b:Nat) (u:QH) (s:ByteArray) (w:World) (hs:s.size≤3000) (hP:JaP w p b) (hU:JN w q u) (hT:Jf w b s 0) (hqb:q≠b):
  Calls Tryz.prog 215 #[.pointer (some ⟨p,0,none⟩),.pointer (some ⟨q,0,none⟩)] w fun e w'=>
   (e=.returned (.tuple #[])∧(∃ n,J8 s.data.toList=some n∧Jf w' b s (n.length+1)∧JN w' q { u with scheme:=n })∨
     e=.panicked Yp∧(J8 s.data.toList=none∧JN w' q u)∧ ∃ j,Jf w' b s j)∧Jb [b,q] w w':=by
 have c0:=hP.cell;have hsc:=Ja (fun (w:World) hT=>JnH b s w hs hT);go_enter Tryz.func215,Tryz.ntmps215;go_wp2_with fail;refine (hsc.out _ hT).mono ?_;rintro e w1 ⟨⟨n,hn,rfl,hT1⟩ | ⟨hn,rfl,j,hT1⟩,hk1⟩
 ·have hU1:=hU.keeps hk1 (by simpa using hqb);have f0:=hU1.free 0;have d0:w1.cell? ⟨q,0,none⟩=some (.string ⟨u.scheme.toArray⟩):=hU1.cell 0;go_wp2_with fail
  go_end0
  refine ⟨.inl ⟨rfl,n,hn,?_,hU1.set0 n⟩,?_⟩
  ·exact hT1.keeps (((Jb.refl [q] w1).setCell (p:=⟨q,0,none⟩) (by simp) _)) (by simpa using hqb.symm)
  ·exact (hk1.mono (T:=[b,q]) (by simp)).setCell (by simp) _
 ·have hU1:=hU.keeps hk1 (by simpa using hqb);go_wp2_with fail;exact ⟨rfl,.inr ⟨rfl,⟨hn,hU1⟩,j,hT1⟩,hk1.mono (by simp)⟩
end Go.Proofs.YtlcljanibjdejaaGreat
