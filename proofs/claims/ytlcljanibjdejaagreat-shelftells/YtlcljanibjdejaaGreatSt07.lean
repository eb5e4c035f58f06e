/- ShelfTells holds: the law returns true for every input, and each argument reads behind the call as it read before; no condition. A part of its proof. -/
import Derived.Test.YtlcljanibjdejaaGreatSt06
import Derived.Deep.SlicePairs
import Derived.Laws.ResultCell
set_option maxHeartbeats 64000000
namespace Go.Proofs.YtlcljanibjdejaaGreat
theorem YA {l:List UInt8} {k:Nat} {a:UInt8} {r:List UInt8} (h:l.drop k=a::r):k<l.length∧l.getD k 0=a∧l.drop (k+1)=r∧l.length=k+1+r.length:=by
 have hk:k<l.length:=by
  rcases Nat.lt_or_ge k l.length with h' | h'
  ·exact h'
  ·rw [List.drop_eq_nil_of_le h'] at h;simp at h
 have e:=List.drop_eq_getElem_cons hk;rw [h] at e;simp only [List.cons.injEq] at e;refine ⟨hk,?_,e.2.symm,?_⟩
 ·rw [List.getD_eq_getElem?_getD,List.getElem?_eq_getElem hk];exact e.1.symm
 ·have:=congrArg List.length h;rw [List.length_drop] at this;simp at this;omega
theorem JdL {l:List UInt8} {k:Nat} {a:UInt8} {r:List UInt8} (h:l.drop k=a::r) (ha:a≠60) (p:List UInt8):stL l k (60::p)=false:=by
 unfold stL;rw [h];have:((60:UInt8)==a)=false:=by simpa using Ne.symm ha
 simp [List.isPrefixOf,this]
theorem Jny {l:List UInt8} {k:Nat} {a:UInt8} {r:List UInt8} (h:l.drop k=a::r) (ha:a≠60) (raw:List UInt8) (out:List Tok):
  Qa l k raw out=some (k+1+(r.takeWhile YD).length,raw++[a]++r.takeWhile YD,out):=by
 obtain ⟨h1,h2,h3,_⟩:=YA h;have e1:=JdL h ha [];have e2:=JdL h ha [47];have e3:=JdL h ha [33,45,45];have e4:=JdL h ha [33];have e5:=JdL h ha [63];unfold Qa Xz;rw [e1,e2,e3,e4,e5];simp only [Bool.false_and,Bool.false_or,Bool.false_eq_true,if_false];unfold Jai;rw [h2,h3]
theorem Jrz {s:List UInt8} (h: ∀ c∈s,c≠60):s.takeWhile YD=s:=by
 induction s with
 | nil=>rfl
 | cons a s ih=>
   have:YD a=true:=by simp [YD,h a (by simp)]
   rw [List.takeWhile_cons,this];simp [ih (fun c hc=>h c (by simp [hc]))]
theorem JoN {s t:List UInt8} (h: ∀ c∈s,c≠60):(s++60::t).takeWhile YD=s:=by
 induction s with
 | nil=>rfl
 | cons a s ih=>
   have:YD a=true:=by simp [YD,h a (by simp)]
   rw [List.cons_append,List.takeWhile_cons,this];simp [ih (fun c hc=>h c (by simp [hc]))]
theorem YJ {f:UInt8→Bool} {sk:List UInt8} {d:UInt8} {q:List UInt8} (h: ∀ x∈sk,f x=true) (hd:f d=false):(sk++d::q).takeWhile f=sk:=by
 induction sk with
 | nil=>simp [hd]
 | cons a sk ih=>
   rw [List.cons_append,List.takeWhile_cons,h a (by simp)];simp [ih (fun x hx=>h x (by simp [hx]))]
theorem JmM {qu:UInt8} (hq:qu=34∨qu=39) (V t:List UInt8) (hV: ∀ x∈V,x≠qu):XK (qu::(V++qu::t))=some (V,V.length+2):=by
 have h:=YJ (f:=(· != qu)) (sk:=V) (d:=qu) (q:=t) (fun x hx=>by simpa using hV x hx) (by simp);unfold XK;simp only [if_pos hq];rw [h,if_pos (by simp)]
theorem JqP {l:List UInt8} {f k:Nat} {acc:List Jw} {sk q:List UInt8} (h:l.drop k=sk++62::q) (hsk: ∀ x∈sk,XB x=true):JM l (f+1) k acc=some (acc,k+sk.length):=by
 have e1:(l.drop k).takeWhile XB=sk:=by rw [h];exact YJ hsk (by decide)
 have e2:l.drop (k+sk.length)=62::q:=by rw [←Q5,h,List.drop_left]
 rw [JM,e1,e2];simp
theorem Jpt {l:List UInt8} {f k:Nat} {acc:List Jw} {sk q:List UInt8} {d:UInt8} {p:Jw} {m:Nat} (h:l.drop k=sk++d::q) (hsk: ∀ x∈sk,XB x=true) (hd:XB d=false) (h62:d≠62) (ha:Xm (d::q)=some (p,m))
  (hnew:p.1∉acc.map (·.1)) (hn:JB p.1=true):JM l (f+1) k acc=JM l f (k+sk.length+m) (acc++[p]):=by
 have e1:(l.drop k).takeWhile XB=sk:=by rw [h];exact YJ hsk hd
 have e2:l.drop (k+sk.length)=d::q:=by rw [←Q5,h,List.drop_left]
 rw [JM,e1,e2];simp only [if_neg h62,ha];rw [if_neg (by simp only [hn];simpa using hnew)]
theorem JmO (c d:UInt8) (h:d∈Yy c):d≠60∧d≠62∧d≠34:=by
 unfold Yy at h;split at h
 ·simp at h;rcases h with h | h | h | h | h<;>subst h<;>decide
 ·split at h
  ·simp at h;rcases h with h | h | h | h<;>subst h<;>decide
  ·split at h
   ·simp at h;rcases h with h | h | h | h<;>subst h<;>decide
   ·split at h
    ·simp at h;rcases h with h | h | h | h | h | h<;>subst h<;>decide
    ·rename_i h1 h2 h3 h4;simp at h;subst h;exact ⟨h2,h3,h4⟩
theorem Jek (l:List UInt8) (d:UInt8) (h:d∈J0 l):d≠60∧d≠62∧d≠34:=by
 simp only [J0,List.mem_flatMap] at h;obtain ⟨c,_,hc⟩:=h;exact JmO c d hc
theorem JaH {c:UInt8} (h:Yk c=true):QJ c=true∧Qj c=true∧Jaa c=c∧XB c=false∧c≠62:=by
 have h256: ∀ i:Fin 256,Yk (UInt8.ofNat i.val)=true→QJ (UInt8.ofNat i.val)=true∧Qj (UInt8.ofNat i.val)=true∧Jaa (UInt8.ofNat i.val)=UInt8.ofNat i.val∧XB (UInt8.ofNat i.val)=false∧UInt8.ofNat i.val≠62:=by decide+kernel
 have:=h256 ⟨c.toNat,UInt8.toNat_lt c⟩;simp only [UInt8.ofNat_toNat] at this;exact this h
theorem JeO {c:UInt8} (h:Xp c=true):J2 c=true:=by simp [J2,h]
theorem JcB {n:List UInt8} (h:JB n=true):(∀ c∈n,Yk c=true)∧ ∃ c r,n=c::r∧Xp c=true:=by
 unfold JB at h;simp only [Bool.and_eq_true,decide_eq_true_eq,List.all_eq_true] at h;obtain ⟨⟨⟨h1,_⟩,h3⟩,h4⟩:=h;refine ⟨h4,?_⟩;cases n with
 | nil=>simp at h1
 | cons c r=>exact ⟨c,r,rfl,by simpa using h3⟩
theorem Jet {n:List UInt8} (h: ∀ c∈n,Yk c=true):Jx n=n:=by
 unfold Jx
 induction n with
 | nil=>rfl
 | cons a n ih=>
   rw [List.map_cons,(JaH (h a (by simp))).2.2.1,ih (fun c hc=>h c (by simp [hc]))]
theorem Jjq {n v t:List UInt8} (hn:JB n=true):Xm (n++[61,34]++J0 v++[34]++t)=some ((n,v),n.length+2+(J0 v).length+1):=by
 obtain ⟨hall,c,r,rfl,hc⟩:=JcB hn;have hr: ∀ x∈r,Qj x=true:=fun x hx=>(JaH (hall x (by simp [hx]))).2.1;have e0:c::r++[61,34]++J0 v++[34]++t=c::(r++61::(34::(J0 v++34::t))):=by simp
 rw [e0];have hL:(r++61::(34::(J0 v++34::t))).takeWhile Qj=r:=YJ hr (by decide);have hd:(c::(r++61::(34::(J0 v++34::t)))).drop (1+r.length)=61::(34::(J0 v++34::t)):=by
  rw [show c::(r++61::(34::(J0 v++34::t)))=(c::r)++61::(34::(J0 v++34::t)) from rfl,show 1+r.length=(c::r).length from by simp;omega,List.drop_left]
 have hW:((c::(r++61::(34::(J0 v++34::t)))).drop (1+r.length)).takeWhile JA=[]:=by rw [hd];rfl
 rw [JdU _ _ r [] hL hW];have hv:=JmM (.inl rfl) (J0 v) t (fun x hx=>(Jek v x hx).2.2);have hw:(34::(J0 v++34::t)).takeWhile JA=[]:=rfl;simp only [List.length_nil,Nat.add_zero,hd,if_true,hw,List.drop_zero,hv];rw [Jet hall,JdR];simp;omega
theorem JeD (L:List UInt8): ∀ (la acc:List Jw) (f k:Nat) (t:List UInt8),L.drop k=J3 la++62::t→la.length<f→QR la (acc.map (·.1))=0→JM L f k acc=some (acc++la,k+(J3 la).length)
 | [],acc,f,k,t,h,hf,_=>by
   obtain ⟨g,rfl⟩: ∃ g,f=g+1:=⟨f - 1,by simp at hf;omega⟩;rw [JqP (sk:=[]) (by simpa [J3] using h) (by simp)];simp [J3]
 | p::la,acc,f,k,t,h,hf,hc=>by
   obtain ⟨g,rfl⟩: ∃ g,f=g+1:=⟨f - 1,by simp at hf;omega⟩;unfold QR at hc;have hn:JB p.1=true:=by
    cases hq:JB p.1
    ·simp [hq] at hc
    ·rfl
   have hm:p.1∉acc.map (·.1):=by
    intro hm;simp [hn,hm] at hc
   have hc':QR la ((acc++[p]).map (·.1))=0:=by
    rw [List.map_append];simpa [hn,hm] using hc
   have ha:=Jjq (v:=p.2) (t:=J3 la++62::t) hn;obtain ⟨hall,c,r,hcr,_⟩:=JcB hn;have e1:L.drop k=[32]++c::(r++[61,34]++J0 p.2++[34]++(J3 la++62::t)):=by
    rw [h];simp [J3,Yu,hcr]
   have ha':Xm (c::(r++[61,34]++J0 p.2++[34]++(J3 la++62::t)))=some (p,p.1.length+2+(J0 p.2).length+1):=by
    rw [←ha,hcr];simp
   have hcf:=JaH (hall c (by rw [hcr];simp));rw [Jpt e1 (by decide) hcf.2.2.2.1 hcf.2.2.2.2 ha' hm hn];have hlen:(Yu p).length=1+(p.1.length+2+(J0 p.2).length+1):=by simp [Yu];omega
   have e2:L.drop (k+([32]:List UInt8).length+(p.1.length+2+(J0 p.2).length+1))=J3 la++62::t:=by
    rw [show k+([32]:List UInt8).length+(p.1.length+2+(J0 p.2).length+1)=k+(Yu p).length from by rw [hlen];simp;omega, ←Q5,h,show J3 (p::la)=Yu p++J3 la from by simp [J3],List.append_assoc,List.drop_left]
   rw [JeD L la (acc++[p]) g _ t e2 (by simp at hf;omega) hc'];have e3:J3 (p::la)=Yu p++J3 la:=by simp [J3]
   rw [e3,List.length_append,hlen];simp;omega
theorem JhW {t:Tok} (h:Xh t=0):
  (∃ x,x≠[]∧t=⟨1,[],[],x⟩)∨(∃ n a,JB n=true∧QR a []=0∧t=⟨2,n,a,[]⟩)∨(∃ n,JB n=true∧t=⟨3,n,[],[]⟩):=by
 obtain ⟨kd,nm,la,tx⟩:=t;unfold Xh at h;simp only at h;by_cases k1:kd=1
 ·subst k1;rw [if_pos rfl] at h;split at h
  ·simp at h
  ·rename_i hc;simp only [not_or,Classical.not_not,ne_eq] at hc;obtain ⟨rfl,rfl,h3⟩:=hc;exact .inl ⟨tx,h3,rfl⟩
 ·rw [if_neg k1] at h;by_cases k2:kd=2
  ·subst k2;rw [if_pos rfl] at h;split at h
   ·simp at h
   ·rename_i hc;simp only [not_or,Classical.not_not,ne_eq] at hc;obtain ⟨rfl,h3⟩:=hc;exact .inr (.inl ⟨nm,la,by simpa using h3,h,rfl⟩)
  ·rw [if_neg k2] at h;by_cases k3:kd=3
   ·subst k3;rw [if_pos rfl] at h;split at h
    ·simp at h
    ·rename_i hc;simp only [not_or,Classical.not_not,ne_eq] at hc;obtain ⟨rfl,rfl,h3⟩:=hc;exact .inr (.inr ⟨nm,by simpa using h3,rfl⟩)
   ·rw [if_neg k3] at h;simp at h
theorem Jc9 {p:Int} {t:Tok} {r:List Tok} (h:Qh p (t::r)=0):Xh t=0∧¬ (t.kind=1∧p=1)∧Qh t.kind r=0:=by
 unfold Qh at h;split at h
 ·rename_i hc;exact absurd h hc
 ·rename_i hc;split at h
  ·simp at h
  ·rename_i h2;exact ⟨by simpa using hc,h2,h⟩
theorem JsB (c:UInt8):Yy c≠[]:=by
 unfold Yy
 repeat (first | (split) | simp)
theorem Jo5 {x:List UInt8} (h:x≠[]): ∃ a r,J0 x=a::r:=by
 cases x with
 | nil=>exact absurd rfl h
 | cons c x=>
   cases hp:J0 (c::x) with
   | nil=>
     have e:J0 (c::x)=Yy c++J0 x:=by simp [J0]
     rw [e] at hp;exact absurd (List.append_eq_nil_iff.1 hp).1 (JsB c)
   | cons a r=>exact ⟨a,r,rfl⟩
theorem JmG {r:List Tok} (h:Qh 1 r=0):Qn r=[]∨ ∃ z,Qn r=60::z:=by
 cases r with
 | nil=>exact .inl rfl
 | cons t r=>
   obtain ⟨h1,h2,_⟩:=Jc9 h;have e:Qn (t::r)=XS t++Qn r:=by simp [Qn]
   rcases JhW h1 with ⟨x,_,rfl⟩ | ⟨n,a,_,_,rfl⟩ | ⟨n,_,rfl⟩
   ·exact absurd ⟨rfl,rfl⟩ h2
   ·exact .inr ⟨_,by rw [e];simp [XS,Jbn];rfl⟩
   ·exact .inr ⟨_,by rw [e];simp [XS];rfl⟩
theorem Jnh (la:List Jw) (t:List UInt8): ∃ d q,J3 la++62::t=d::q∧QJ d=false:=by
 cases la with
 | nil=>exact ⟨62,t,rfl,by decide⟩
 | cons p la=>exact ⟨32,_,by simp [J3,Yu];rfl,by decide⟩
theorem Jqt (la:List Jw):la.length≤(J3 la).length:=by
 induction la with
 | nil=>simp
 | cons p la ih=>
   have e:J3 (p::la)=Yu p++J3 la:=by simp [J3]
   rw [e,List.length_append];have:1≤(Yu p).length:=by simp [Yu]
   simp only [List.length_cons];omega
theorem JnI {L:List UInt8} {k:Nat} {n t:List UInt8} {la:List Jw} (h:L.drop k=60::(n++(J3 la++62::t))) (hn:JB n=true) (ha:QR la []=0) (raw:List UInt8) (out:List Tok):
  Qa L k raw out=some (k+(XS ⟨2,n,la,[]⟩).length,[],out++Xq raw++[⟨2,n,la,[]⟩]):=by
 obtain ⟨hall,c,r,rfl,hc⟩:=JcB hn;obtain ⟨h1,_,h3,h4⟩:=YA h;obtain ⟨g1,g2,_,_⟩:=YA (show L.drop (k+1)=c::(r++(J3 la++62::t)) from h3);have e1:Xz L k [60]=true:=by
  unfold Xz stL;rw [h];have e:L.getD (k+([60]:List UInt8).length) 0=c:=g2;rw [e,JeO hc];simp [List.isPrefixOf];exact g1
 obtain ⟨d,q,hd,hdt⟩:=Jnh la t;have hN:(L.drop (k+1)).takeWhile QJ=c::r:=by
  rw [h3,hd];exact YJ (fun x hx=>(JaH (hall x hx)).1) hdt
 have hd2:L.drop (k+1+(c::r).length)=J3 la++62::t:=by rw [←Q5,h3,List.drop_left]
 have hlen:=Jqt la;have hat:=JeD L la [] (L.length+1) _ t hd2 (by simp only [List.length_cons,List.length_append] at h4;omega) ha;unfold Qa;rw [if_pos e1];unfold Jal;rw [hN,hat];simp only [Jet hall,hn,if_true,List.nil_append];simp [XS,Jbn];omega
theorem JlK {L:List UInt8} {k:Nat} {n t:List UInt8} (h:L.drop k=60::47::(n++62::t)) (hn:JB n=true) (raw:List UInt8) (out:List Tok):
  Qa L k raw out=some (k+(XS ⟨3,n,[],[]⟩).length,[],out++Xq raw++[⟨3,n,[],[]⟩]):=by
 obtain ⟨hall,c,r,rfl,hc⟩:=JcB hn;obtain ⟨h1,_,h3,h4⟩:=YA h;obtain ⟨g1,g2,g3,_⟩:=YA h3;obtain ⟨i1,i2,_,_⟩:=YA (show L.drop (k+1+1)=c::(r++62::t) from g3);have e1:Xz L k [60]=false:=by
  unfold Xz;have e:L.getD (k+([60]:List UInt8).length) 0=47:=g2;rw [e];simp;intro _ _;decide
 have e2:Xz L k [60,47]=true:=by
  unfold Xz stL;rw [h];have e:L.getD (k+([60,47]:List UInt8).length) 0=c:=i2;rw [e,JeO hc];simp [List.isPrefixOf];exact i1
 have hN:(L.drop (k+2)).takeWhile QJ=c::r:=by
  rw [show k+2=k+1+1 from rfl,g3];exact YJ (fun x hx=>(JaH (hall x hx)).1) (by decide)
 have hd2:L.drop (k+2+(c::r).length)=62::t:=by rw [←Q5,show k+2=k+1+1 from rfl,g3,List.drop_left]
 have he:Xy [62] (62::t)=some 1:=Jd7 (by unfold Lib.hasPrefix;simp [List.isPrefixOf]);unfold Qa;rw [if_neg (by rw [e1];simp),if_pos e2];unfold Zf;rw [hN,hd2,he];simp only [Jet hall,hn,if_true];simp [XS];omega
theorem ZS (L:List UInt8): ∀ (rest:List Tok) (f k:Nat) (raw:List UInt8) (out:List Tok) (pk:Int),L.drop k=Qn rest→Qh pk rest=0→(pk≠1→raw=[])→(Qn rest).length<f→Xk L f k raw out=out++Xq raw++rest
 | [],f,k,raw,out,pk,h,_,_,hf=>by
   obtain ⟨g,rfl⟩: ∃ g,f=g+1:=⟨f - 1,by omega⟩;rw [Yn (List.drop_eq_nil_iff.1 h)];simp
 | t::r,f,k,raw,out,pk,h,hc,hraw,hf=>by
   obtain ⟨g,rfl⟩: ∃ g,f=g+1:=⟨f - 1,by omega⟩;obtain ⟨h1,h2,h3⟩:=Jc9 hc;have e:Qn (t::r)=XS t++Qn r:=by simp [Qn]
   rw [e] at h hf;rw [List.length_append] at hf;rcases JhW h1 with ⟨x,hx,rfl⟩ | ⟨n,a,hn,ha,rfl⟩ | ⟨n,hn,rfl⟩
   ·have hr0:raw=[]:=hraw (fun e=>h2 ⟨rfl,e⟩);subst hr0;obtain ⟨b,y,hby⟩:=Jo5 hx;have et:XS ⟨1,[],[],x⟩=J0 x:=rfl;rw [et] at h hf;have hb:b≠60:=(Jek x b (by rw [hby];simp)).1;have hy: ∀ z∈y,z≠60:=fun z hz=>(Jek x z (by rw [hby];simp [hz])).1;have h':L.drop k=b::(y++Qn r):=by rw [h,hby];rfl
    obtain ⟨p1,_,_,_⟩:=YA h';have htw:(y++Qn r).takeWhile YD=y:=by
     rcases JmG h3 with e0 | ⟨z,e0⟩
     ·rw [e0,List.append_nil];exact Jrz hy
     ·rw [e0];exact JoN hy
    have hp:=Jny h' hb [] out;rw [htw] at hp;have hlen:(J0 x).length=1+y.length:=by rw [hby];simp;omega
    have hd:L.drop (k+1+y.length)=Qn r:=by
     rw [show k+1+y.length=k+(J0 x).length from by omega, ←Q5,h,List.drop_left]
    rw [XI p1 hp,ZS L r g _ _ out 1 hd h3 (fun hq=>absurd rfl hq) (by omega)];have e1:([]:List UInt8)++[b]++y=J0 x:=by rw [hby];rfl
    have e2:Xq (J0 x)=[XG x]:=by
     unfold Xq;rw [if_neg (by rw [hby];simp),JdR]
    rw [e1,e2];simp [Xq,XG]
   ·have h':L.drop k=60::(n++(J3 a++62::Qn r)):=by rw [h];simp [XS,Jbn]
    obtain ⟨p1,_,_,_⟩:=YA h';have hd:L.drop (k+(XS ⟨2,n,a,[]⟩).length)=Qn r:=by rw [←Q5,h,List.drop_left]
    have hpos:1≤(XS ⟨2,n,a,[]⟩).length:=by simp [XS,Jbn]
    rw [XI p1 (JnI h' hn ha raw out),ZS L r g _ _ _ 2 hd h3 (fun _=>rfl) (by omega)];simp [Xq]
   ·have h':L.drop k=60::47::(n++62::Qn r):=by rw [h];simp [XS]
    obtain ⟨p1,_,_,_⟩:=YA h';have hd:L.drop (k+(XS ⟨3,n,[],[]⟩).length)=Qn r:=by rw [←Q5,h,List.drop_left]
    have hpos:1≤(XS ⟨3,n,[],[]⟩).length:=by simp [XS]
    rw [XI p1 (JlK h' hn raw out),ZS L r g _ _ _ 3 hd h3 (fun _=>rfl) (by omega)];simp [Xq]
theorem Jfk (l:List Tok) (h:Ya l=0):JL (Qn l)=l:=by
 unfold Ya at h;split at h
 ·simp at h
 ·unfold JL;rw [ZS (Qn l) l _ 0 [] [] 0 rfl h (fun _=>rfl) (by omega)];simp [Xq]
theorem Ji0 (n:Nat):Lib.encodeRune n≠[]:=by
 unfold Lib.encodeRune Lib.encodeRuneZ;rw [Ne,List.map_eq_nil_iff]
 repeat' split
 all_goals simp
theorem Jm6 (l:List UInt8) (h:l≠[]):(JV l).1≠[]:=by
 unfold JV;split
 ·split
  ·exact Ji0 _
  ·exact Ji0 _
 ·cases l with
  | nil=>exact absurd rfl h
  | cons a l=>simp
theorem Jq9 {l:List UInt8} (h:l≠[]):(JQ l).1≠[]:=by
 cases l with
 | nil=>exact absurd rfl h
 | cons c l=>
   by_cases hc:c=38
   ·rw [Jac c l hc];intro e;exact Jm6 (c::l) (by simp) (List.append_eq_nil_iff.1 e).1
   ·rw [JaB c l hc];simp
def JfP:Int→List Tok→Int
 | p,[]=>p
 | _,t::r=>JfP t.kind r
theorem JqI (p:Int) (a b:List Tok):JfP p (a++b)=JfP (JfP p a) b:=by
 induction a generalizing p with
 | nil=>rfl
 | cons t a ih=>exact ih t.kind
theorem Jb5 {p:Int} {a b:List Tok} (ha:Qh p a=0) (hb:Qh (JfP p a) b=0):Qh p (a++b)=0:=by
 induction a generalizing p with
 | nil=>exact hb
 | cons t a ih=>
   obtain ⟨h1,h2,h3⟩:=Jc9 ha;rw [List.cons_append];unfold Qh;rw [if_neg (by simpa using h1),if_neg h2];exact ih h3 hb
theorem Jge {p:Int} {t:Tok} (h1:Xh t=0) (h2: ¬ (t.kind=1∧p=1)):Qh p [t]=0:=by
 unfold Qh;rw [if_neg (by simpa using h1),if_neg h2];rfl
theorem JfH {p:Int} (hp:p≠1) (raw:List UInt8):Qh p (Xq raw)=0:=by
 unfold Xq;split
 ·rfl
 ·rename_i h;exact Jge (by simp [Xh,XG,Jq9 h]) (fun hq=>hp hq.2)
theorem Jrl (a:List Jw) (met:List (List UInt8)) (p:Jw) (h:QR a met=0) (hn:JB p.1=true) (hm:p.1∉met) (ha:p.1∉a.map (·.1)):QR (a++[p]) met=0:=by
 induction a generalizing met with
 | nil=>simp [QR,hn,hm]
 | cons q a ih=>
   unfold QR at h;rw [List.cons_append];unfold QR;split at h
   ·simp at h
   ·rename_i h1;split at h
    ·simp at h
    ·rename_i h2;rw [if_neg h1,if_neg h2];simp only [List.map_cons,List.mem_cons,not_or] at ha;exact ih _ h (by simp [hm,ha.1]) ha.2
theorem JeY (l:List UInt8): ∀ (f k:Nat) (acc a:List Jw) (k2:Nat),QR acc []=0→JM l f k acc=some (a,k2)→QR a []=0
 | 0,k,acc,a,k2,_,h=>by simp [JM] at h
 | f+1,k,acc,a,k2,hacc,h=>by
   have e:=(Y7 h _ rfl).symm;split at e
   ·simp at e
   ·split at e
    ·simp only [Option.some.injEq,Prod.mk.injEq] at e;rw [←e.1];exact hacc
    ·split at e
     ·simp at e
     ·rename_i p m _;refine JeY l f _ _ _ _ ?_ e;split
      ·exact hacc
      ·rename_i hc;simp only [not_or] at hc;exact Jrl acc [] p hacc (by simpa using hc.2) (by simp) hc.1
def Jdn (raw:List UInt8) (out:List Tok):Nat:=out.length+(Xq raw).length
theorem JpI (raw:List UInt8) (out:List Tok) (t:Tok):Jdn [] (out++Xq raw++[t])=Jdn raw out+1:=by
 simp [Jdn,Xq];omega
structure JdG (k:Nat) (raw:List UInt8) (out:List Tok):Prop where
 right:Qh 0 out=0
 last:JfP 0 out≠1
 few:Jdn raw out≤k
theorem JdG.tag {k k':Nat} {raw:List UInt8} {out:List Tok} (h:JdG k raw out) (t:Tok) (ht:Xh t=0) (hk:t.kind≠1) (hkk:k<k'):JdG k' [] (out++Xq raw++[t]):=by
 refine ⟨?_,?_,by rw [JpI];have:=h.few;omega⟩
 ·exact Jb5 (Jb5 h.right (JfH h.last raw)) (Jge ht (fun hq=>hk hq.1))
 ·rw [JqI];exact hk
theorem JdG.on {k k':Nat} {raw raw':List UInt8} {out:List Tok} (h:JdG k raw out) (hk:k<k'):JdG k' raw' out:=by
 refine ⟨h.right,h.last,?_⟩;have h1:=h.few;have h2:=JjR raw';unfold Jdn at h1 ⊢;omega
theorem Jnb {l:List UInt8} {k:Nat} {raw:List UInt8} {out:List Tok} {k':Nat} {raw':List UInt8} {out':List Tok} (h:Qa l k raw out=some (k',raw',out')) (hk:k<l.length) (hg:JdG k raw out):JdG k' raw' out':=by
 have hb:=(Xr h hk).1;unfold Qa at h;split at h
 ·unfold Jal at h;split at h
  ·simp at h
  ·rename_i a k2 ha;split at h
   ·rename_i hn;simp only [Option.some.injEq,Prod.mk.injEq] at h;obtain ⟨rfl,rfl,rfl⟩:=h;exact hg.tag _ (by simp [Xh,hn,JeY _ _ _ _ _ _ rfl ha]) (show (2:Int)≠1 by decide) hb
   ·simp only [Option.some.injEq,Prod.mk.injEq] at h;obtain ⟨rfl,rfl,rfl⟩:=h;exact hg.on hb
 split at h
 ·unfold Zf at h;split at h
  ·simp at h
  ·split at h
   ·rename_i hn;simp only [Option.some.injEq,Prod.mk.injEq] at h;obtain ⟨rfl,rfl,rfl⟩:=h;exact hg.tag _ (by simp [Xh,hn]) (show (3:Int)≠1 by decide) hb
   ·simp only [Option.some.injEq,Prod.mk.injEq] at h;obtain ⟨rfl,rfl,rfl⟩:=h;exact hg.on hb
 split at h
 ·unfold JeC at h;split at h
  ·simp at h
  ·simp only [Option.some.injEq,Prod.mk.injEq] at h;obtain ⟨rfl,rfl,rfl⟩:=h;exact hg.on hb
 split at h
 ·unfold Jbj at h;split at h
  ·simp at h
  ·simp only [Option.some.injEq,Prod.mk.injEq] at h;obtain ⟨rfl,rfl,rfl⟩:=h;exact hg.on hb
 ·unfold Jai at h;simp only [Option.some.injEq,Prod.mk.injEq] at h;obtain ⟨rfl,rfl,rfl⟩:=h;exact hg.on hb
theorem JdF (l:List UInt8): ∀ (f k:Nat) (raw:List UInt8) (out:List Tok),k≤l.length→JdG k raw out→Qh 0 (Xk l f k raw out)=0∧(Xk l f k raw out).length≤l.length
 | 0,k,raw,out,hk,hg=>by
   refine ⟨Jb5 hg.right (JfH hg.last raw),?_⟩;have:=hg.few;unfold Jdn at this;simp only [Xk,List.length_append];omega
 | f+1,k,raw,out,hk,hg=>by
   by_cases he:l.length≤k
   ·rw [Yn he];refine ⟨Jb5 hg.right (JfH hg.last raw),?_⟩;have:=hg.few;unfold Jdn at this;rw [List.length_append];omega
   ·have hlt:k<l.length:=by omega
    cases hp:Qa l k raw out with
    | none=>
      rw [Y5 hlt hp];exact JdF l f _ _ _ (Nat.le_refl _) (hg.on hlt)
    | some q=>
      obtain ⟨k',raw',out'⟩:=q;rw [XI hlt hp];exact JdF l f _ _ _ (Xr hp hlt).2.1 (Jnb hp hlt hg)
theorem Jne (l:List UInt8) (h:l.length≤3000):Ya (JL l)=0:=by
 have hg:JdG 0 [] []:=⟨rfl,by decide,by simp [Jdn,Xq]⟩;have:=JdF l (l.length+1) 0 [] [] (Nat.zero_le _) hg;unfold Ya JL;rw [if_neg (by omega)];exact this.1
end Go.Proofs.YtlcljanibjdejaaGreat
namespace Go.Proofs.YtlcljanibjdejaaGreat
open Go.RowKit Go.Maps Go.Deep
def JZ (l:List Jw):Nat:=(l.map fun p=>p.1.length+p.2.length+2).sum
def Yc (t:Tok):Nat:=t.name.length+t.text.length+JZ t.attrs+4
def Qi (l:List Tok):Nat:=(l.map Yc).sum
theorem JpO (s:ByteArray):(⟨s.data.toList.toArray⟩:ByteArray)=s:=WideShapes.bytes_inj (by simp)
theorem Jnk {w:World} {a:Addr} {u:Value} (h:w.cell? a=some u): ∃ g o,a=⟨g,o,none⟩:=by
 obtain ⟨g,o,f⟩:=a;cases f with
 | none=>exact ⟨g,o,rfl⟩
 | some x=>
   unfold World.cell? at h;simp only [Option.isSome_some,if_true] at h;split at h<;>simp at h
theorem Jmd {w:World} {a:Addr} {len cap z:Nat} (hz:0<z) (hl:len≤cap) (hc:cap≤maxLen) {xs:List Value} (hx:xs.length=len * z) (h: ∀ j u,xs[j]?=some u→w.cell? (a.add j)=some u):Jh w (.slice (some a) len cap) len z xs:=by
 refine ⟨hx,?_⟩;by_cases h0:len=0
 ·subst h0;exact .inr (.inr ⟨rfl,_,_,rfl,hc⟩)
 ·have hpos:0<xs.length:=by rw [hx];exact Nat.mul_pos (by omega) hz
  have h1:=h 0 _ (List.getElem?_eq_getElem hpos);have e0:a.add 0=a:=by simp [Addr.add]
  rw [e0] at h1;obtain ⟨g,o,rfl⟩:=Jnk h1;refine .inr (.inl ⟨g,o,cap,rfl,hl,hc,fun j u hj=>?_⟩);have h2:=h j u hj;have e1:(⟨g,o,none⟩:Addr).add j=⟨g,o+j,none⟩:=by by_cases hj0:j=0<;>simp [Addr.add,hj0]
  rw [e1] at h2;exact h2
section
variable {H:Type} {enc:TypeId × Value→H} {w:World} {base:Nat} {spare:Nat→Bool} {held:Bool}
end
end Go.Proofs.YtlcljanibjdejaaGreat
namespace Go.Proofs.YtlcljanibjdejaaGreat
open Go.RowKit Go.Maps
theorem Jdr (l:List Jw):l.length≤JZ l∧ ∀ p∈l,p.1.length≤JZ l:=by
 induction l with
 | nil=>simp [JZ]
 | cons a l ih=>
   simp only [JZ,List.map_cons,List.sum_cons] at ih ⊢;refine ⟨by simp;omega,fun p hp=>?_⟩;rcases List.mem_cons.1 hp with rfl | hp
   ·omega
   ·have:=ih.2 p hp;omega
theorem Jcf {t:Tok} {l:List Tok} (h:t∈l):Yc t≤Qi l:=by
 induction l with
 | nil=>simp at h
 | cons a l ih=>
   simp only [Qi,List.map_cons,List.sum_cons] at ih ⊢;rcases List.mem_cons.1 h with rfl | h
   ·omega
   ·have:=ih h;omega
theorem Jnt (l:List Tok):(l.flatMap Tok.text).length≤Qi l:=by
 induction l with
 | nil=>simp
 | cons a l ih=>
   simp only [Qi,List.map_cons,List.sum_cons,List.flatMap_cons,List.length_append,Yc] at ih ⊢;omega
theorem JiO {l:List Tok} (h:Qi l≤1100000): ∀ t∈l,JjL t∧t.attrs.length≤2000000:=by
 intro t ht;have h1:=Jcf ht;have h2:=Jdr t.attrs;unfold Yc at h1;refine ⟨⟨by unfold maxLen;omega,fun p hp=>by have:=h2.2 p hp;unfold maxLen;omega⟩,by omega⟩
end Go.Proofs.YtlcljanibjdejaaGreat
namespace Go.Proofs.YtlcljanibjdejaaGreat
theorem Jfr: ∀ (f:Nat) (l:List UInt8),(Zv f l).1.length≤4 * l.length
 | 0,l=>by simp [Zv]
 | f+1,[]=>by simp [Zv]
 | f+1,c::l=>by
   unfold Zv;split
   ·have h1:=Jcz (c::l) (by simp);have h2:=Jfr f ((c::l).drop (JV (c::l)).2.1);rw [List.length_drop] at h2;simp only [List.length_append];omega
   ·have h2:=Jfr f l;simp only [List.length_cons];omega
theorem Ji1 (l:List UInt8):(JQ l).1.length≤4 * l.length:=Jfr _ _
theorem Jo4 {l v:List UInt8} {m:Nat} (h:XK l=some (v,m)):v.length≤m:=by
 unfold XK at h;split at h
 ·simp at h
 ·split at h
  ·split at h
   ·simp only [Option.some.injEq,Prod.mk.injEq] at h;rw [←h.1, ←h.2];omega
   ·simp at h
  ·simp only [Option.some.injEq,Prod.mk.injEq] at h;rw [←h.1, ←h.2];exact Nat.le_refl _
theorem Jni {l:List UInt8} {p:Jw} {m:Nat} (h:Xm l=some (p,m)):p.1.length+p.2.length+2≤6 * m:=by
 unfold Xm at h;split at h
 ·simp at h
 ·split at h
  ·simp at h
  ·split at h
   ·split at h
    ·simp at h
    ·rename_i v m' hv;have h1:=Jo4 hv;have h2:=Ji1 v;simp only [Option.some.injEq,Prod.mk.injEq] at h;rw [←h.1];simp only [Jx,List.length_map,List.length_cons];omega
   ·simp only [Option.some.injEq,Prod.mk.injEq] at h;rw [←h.1];simp only [Jx,List.length_map,List.length_cons,List.length_nil];omega
theorem Jp5 (a:List Jw) (p:Jw):JZ (a++[p])=JZ a+(p.1.length+p.2.length+2):=by simp [JZ]
theorem Jdf (l:List UInt8): ∀ (f k:Nat) (acc a:List Jw) (k2:Nat),JM l f k acc=some (a,k2)→JZ a+6 * k≤JZ acc+6 * k2
 | 0,k,acc,a,k2,h=>by simp [JM] at h
 | f+1,k,acc,a,k2,h=>by
   have e:=(Y7 h _ rfl).symm;split at e
   ·simp at e
   ·split at e
    ·simp only [Option.some.injEq,Prod.mk.injEq] at e;rw [←e.1];omega
    ·split at e
     ·simp at e
     ·rename_i p m hp;have h1:=Jdf l f _ _ _ _ e;have h2:=Jni hp;split at h1
      ·omega
      ·rw [Jp5] at h1;omega
theorem Y0 (a b:List Tok):Qi (a++b)=Qi a+Qi b:=by simp [Qi]
theorem JfA (raw:List UInt8):Qi (Xq raw)≤8 * raw.length:=by
 unfold Xq;split
 ·simp [Qi]
 ·rename_i h;have h1:=Ji1 raw;have h2:1≤raw.length:=List.length_pos_iff.2 h;simp [Qi,Yc,XG,JZ];omega
theorem JmT {l:List UInt8} {k:Nat} {raw:List UInt8} {out:List Tok} {k':Nat} {raw':List UInt8} {out':List Tok} (h:Qa l k raw out=some (k',raw',out')) (hk:k<l.length) (hg:Qi out+8 * raw.length≤12 * k):Qi out'+8 * raw'.length≤12 * k':=by
 have hb:=(Xr h hk);have he:=JfA raw;unfold Qa at h;split at h
 ·unfold Jal at h;split at h
  ·simp at h
  ·rename_i a k2 ha;have h1:=Jdf _ _ _ _ _ _ ha;have h2:=Jcx _ _ _ _ _ _ ha;split at h
   ·simp only [Option.some.injEq,Prod.mk.injEq] at h;obtain ⟨rfl,rfl,rfl⟩:=h;rw [Y0,Y0];simp [Qi,Yc,Jx,JZ] at h1 he hg ⊢;omega
   ·simp only [Option.some.injEq,Prod.mk.injEq] at h;obtain ⟨rfl,rfl,rfl⟩:=h;omega
 split at h
 ·unfold Zf at h;split at h
  ·simp at h
  ·rename_i m hm;split at h
   ·simp only [Option.some.injEq,Prod.mk.injEq] at h;obtain ⟨rfl,rfl,rfl⟩:=h;rw [Y0,Y0];simp [Qi,Yc,Jx,JZ] at he hg ⊢;omega
   ·simp only [Option.some.injEq,Prod.mk.injEq] at h;obtain ⟨rfl,rfl,rfl⟩:=h;omega
 split at h
 ·unfold JeC at h;split at h
  ·simp at h
  ·simp only [Option.some.injEq,Prod.mk.injEq] at h;obtain ⟨rfl,rfl,rfl⟩:=h;omega
 split at h
 ·unfold Jbj at h;split at h
  ·simp at h
  ·simp only [Option.some.injEq,Prod.mk.injEq] at h;obtain ⟨rfl,rfl,rfl⟩:=h;omega
 ·unfold Jai at h;simp only [Option.some.injEq,Prod.mk.injEq] at h;obtain ⟨rfl,rfl,rfl⟩:=h;omega
theorem JdD (l:List UInt8): ∀ (f k:Nat) (raw:List UInt8) (out:List Tok),k≤l.length→Qi out+8 * raw.length≤12 * k→Qi (Xk l f k raw out)≤12 * l.length
 | 0,k,raw,out,hk,hg=>by
   have:=JfA raw;simp only [Xk,Y0];omega
 | f+1,k,raw,out,hk,hg=>by
   by_cases he:l.length≤k
   ·rw [Yn he,Y0];have:=JfA raw;omega
   ·have hlt:k<l.length:=by omega
    cases hp:Qa l k raw out with
    | none=>
      rw [Y5 hlt hp];exact JdD l f _ _ _ (Nat.le_refl _) (by rw [List.length_append,List.length_drop];omega)
    | some q=>
      obtain ⟨k',raw',out'⟩:=q;rw [XI hlt hp];exact JdD l f _ _ _ (Xr hp hlt).2.1 (JmT hp hlt hg)
theorem Jmz (l:List UInt8):Qi (JL l)≤12 * l.length:=JdD l _ 0 [] [] (Nat.zero_le _) (by simp [Qi])
end Go.Proofs.YtlcljanibjdejaaGreat
namespace Go.Proofs.YtlcljanibjdejaaGreat
open Go.RowKit Go.Maps
def J1:List Nd→Nat
 | []=>0
 | .mk n a t k::r=>n.length+t.length+JZ a+J1 k+3+J1 r
theorem Jgf (n:Nd) (r:List Nd):J1 (n::r)=n.name.length+n.text.length+JZ n.attrs+J1 n.kids+3+J1 r:=by
 obtain ⟨n,a,t,k⟩:=n;rw [J1];rfl
theorem Jdw:(ns:List Nd)→JD ns≤J1 ns
 | []=>by simp [JD,J1]
 | .mk n a t k::r=>by
   have h1:=Jdw k;have h2:=Jdw r;rw [JD,J1];omega
theorem JaF:(ns:List Nd)→J1 ns≤1100000→Qw ns∧Xb ns
 | [],_=>by simp [Qw,Xb]
 | .mk n a t k::r,h=>by
   rw [J1] at h;have h1:=JaF k (by omega);have h2:=JaF r (by omega);have h3:=Jdr a;rw [Qw,Xb];exact ⟨⟨⟨by unfold maxLen;omega,fun p hp=>by have:=h3.2 p hp;unfold maxLen;omega⟩,h1.1,h2.1⟩,by omega,h1.2,h2.2⟩
theorem ZI (a b:List Nd):J1 (a++b)=J1 a+J1 b:=by
 induction a with
 | nil=>simp [J1]
 | cons n a ih=>rw [List.cons_append,Jgf,Jgf,ih];omega
def JcW (o:Op):Nat:=o.name.length+JZ o.attrs+J1 o.kids+3
def St.bulk (s:St):Nat:=(s.all.map JcW).sum+if s.text=[] then 0 else s.text.length+3
theorem Ja6:JZ []=0:=rfl
theorem Jc0 (s:St):s.endText.bulk=s.bulk:=by
 unfold St.endText;split
 ·rfl
 ·next h=>simp [St.bulk,St.all,JcW,Op.put,ZI,Xn,J1,Ja6,h];omega
theorem JrW (s:St):s.pop.bulk=s.bulk:=by
 rw [←Jc0 s];unfold St.pop;split
 ·rfl
 ·next o up h=>
  have h1:=QG s;have h2:=QD s;rw [h] at h1;simp [St.bulk,St.all,JcW,Op.put,ZI,h1,h2,Op.nd,J1];omega
theorem JcJ (k:Nat) (s:St):(s.close k).bulk=s.bulk:=by
 induction k generalizing s with
 | zero=>rfl
 | succ k ih=>rw [St.close,ih,JrW]
theorem JpX (s:St) (t:Tok):(s.step t).bulk≤s.bulk+Yc t:=by
 unfold St.step Yc;split
 ·simp only [St.bulk,St.all];split
  ·next h=>simp at h;simp [h]
  ·split
   ·next h h2=>simp [h2];omega
   ·simp;omega
 ·split
  ·unfold St.openTag St.closeFrom;split
   ·rw [JcJ];omega
   ·rw [←JcJ (s.up.length+1 - Jm s.names t.name) s];generalize s.close (s.up.length+1 - Jm s.names t.name)=u;rw [←Jc0 u];unfold St.openIn;split
    ·simp [St.bulk,St.all,JcW,St.put,Op.put,ZI,J1,QD];omega
    ·simp [St.bulk,St.all,JcW,QG,QD,J1];omega
  ·unfold St.closeTag St.closeFrom;rw [JcJ];omega
theorem JpA (ts:List Tok) (s:St):(ts.foldl St.step s).bulk≤s.bulk+Qi ts:=by
 induction ts generalizing s with
 | nil=>simp [Qi]
 | cons t ts ih=>
   rw [List.foldl_cons,show Qi (t::ts)=Yc t+Qi ts from by simp [Qi]];have:=ih (s.step t);have:=JpX s t;omega
theorem JmQ (ts:List Tok):J1 (JP ts)≤Qi ts:=by
 have h1:=JpA ts St.start;have h0:St.start.bulk=3:=by simp [St.bulk,St.all,St.start,JcW,J1,Ja6]
 rw [h0] at h1;unfold JP St.closeFrom;rw [Nat.add_sub_cancel];have hu:=JeA (ts.foldl St.step St.start).up.length (ts.foldl St.step St.start);rw [List.drop_length] at hu;rw [←JcJ (ts.foldl St.step St.start).up.length] at h1;generalize (ts.foldl St.step St.start).close (ts.foldl St.step St.start).up.length=u at *;rw [←Jc0] at h1;have h2:=QG u;rw [hu] at h2;simp [St.bulk,St.all,JcW,h2,QD] at h1;omega
end Go.Proofs.YtlcljanibjdejaaGreat
namespace Go.Proofs.YtlcljanibjdejaaGreat
structure QH where
 scheme:List UInt8
 authority:List UInt8
 path:List UInt8
 query:List UInt8
 fragment:List UInt8
 hs:Bool
 ha:Bool
 hq:Bool
 hf:Bool
deriving DecidableEq
def Yg (c:UInt8):Bool:=J2 c || Jc3 c || c==43 || c==45 || c==46
def JfO (c:UInt8):Bool:=c != 47&&c != 63&&c != 35
def Jb7 (c:UInt8):Bool:=c != 63&&c != 35
def JaN (c:UInt8):Bool:=c != 35
def J7 (l:List UInt8):Option (List UInt8):=
 if (l.takeWhile Yg)≠[]∧J2 ((l.takeWhile Yg).getD 0 0)=true∧(l.drop (l.takeWhile Yg).length).head?=some 58 then some (l.takeWhile Yg) else none
def k0L (l:List UInt8):Nat:=match J7 l with | some n=>n.length+1 | none=>0
def haL (l:List UInt8):Bool:=[47,47].isPrefixOf (l.drop (k0L l))
def auL (l:List UInt8):List UInt8:=if haL l=true then (l.drop (k0L l+2)).takeWhile JfO else []
def k1L (l:List UInt8):Nat:=if haL l=true then k0L l+2+(auL l).length else k0L l
def JhF (l:List UInt8):List UInt8:=(l.drop (k1L l)).takeWhile Jb7
def k2L (l:List UInt8):Nat:=k1L l+(JhF l).length
def hqL (l:List UInt8):Bool:=[63].isPrefixOf (l.drop (k2L l))
def quL (l:List UInt8):List UInt8:=if hqL l=true then (l.drop (k2L l+1)).takeWhile JaN else []
def k3L (l:List UInt8):Nat:=if hqL l=true then k2L l+1+(quL l).length else k2L l
def hfL (l:List UInt8):Bool:=[35].isPrefixOf (l.drop (k3L l))
def frL (l:List UInt8):List UInt8:=if hfL l=true then l.drop (k3L l+1) else []
def QY (l:List UInt8):QH:=⟨(J7 l).getD [],auL l,JhF l,quL l,frL l,(J7 l).isSome,haL l,hqL l,hfL l⟩
def Jh2 (u:QH):List UInt8:=
 (if u.hs=true then u.scheme++[58] else [])++(if u.ha=true then [47,47]++u.authority else [])++u.path++(if u.hq=true then 63::u.query else [])++(if u.hf=true then 35::u.fragment else [])
theorem Jma (f:UInt8→Bool): ∀ l:List UInt8,l.drop (l.takeWhile f).length=l.dropWhile f
 | []=>rfl
 | c::l=>by
   cases h:f c
   ·simp [h]
   ·simpa [h] using Jma f l
theorem JdJ (f:UInt8→Bool) (l:List UInt8) (k:Nat):l.drop k=(l.drop k).takeWhile f++l.drop (k+((l.drop k).takeWhile f).length):=by
 rw [←List.drop_drop];have h:(l.drop k).takeWhile f++(l.drop k).dropWhile f=l.drop k:=List.takeWhile_append_dropWhile;rw [Jma f,h]
theorem Jiv (f:UInt8→Bool): ∀ (l:List UInt8),l.drop (l.takeWhile f).length=[]∨ ∃ c r,l.drop (l.takeWhile f).length=c::r∧f c=false
 | []=>.inl rfl
 | c::l=>by
   cases h:f c
   ·exact .inr ⟨c,l,by simp [h],h⟩
   ·simpa [h] using Jiv f l
theorem Jh0 (f:UInt8→Bool) (l:List UInt8) (k:Nat):l.drop (k+((l.drop k).takeWhile f).length)=[]∨ ∃ c r,l.drop (k+((l.drop k).takeWhile f).length)=c::r∧f c=false:=by
 rw [←List.drop_drop];exact Jiv f _
theorem Je3 {l:List UInt8} {k:Nat} {c:UInt8} {r:List UInt8} (h:l.drop k=c::r):l.drop (k+1)=r:=by
 rw [←List.drop_drop,h];rfl
theorem Jm3 {l:List UInt8} {k:Nat} {c d:UInt8} {r:List UInt8} (h:l.drop k=c::d::r):l.drop (k+2)=r:=by
 rw [←List.drop_drop,h];rfl
theorem JpZ (l:List UInt8):(if hfL l=true then 35::frL l else [])=l.drop (k3L l):=by
 have hstop:l.drop (k3L l)=[]∨ ∃ r,l.drop (k3L l)=35::r:=by
  unfold k3L;cases hq:hqL l
  ·simp only [Bool.false_eq_true,if_false];rcases Jh0 Jb7 l (k1L l) with h | ⟨c,r,h,hc⟩
   ·exact .inl h
   ·have h':l.drop (k2L l)=c::r:=h;by_cases h63:c=63
    ·subst h63;unfold hqL at hq;rw [h'] at hq;simp at hq
    ·right;have:c=35:=by simpa [Jb7,h63] using hc
     subst this;exact ⟨r,h'⟩
  ·simp only [if_true];unfold quL;rw [if_pos hq];rcases Jh0 JaN l (k2L l+1) with h | ⟨c,r,h,hc⟩
   ·exact .inl h
   ·have:c=35:=by simpa [JaN] using hc
    subst this;exact .inr ⟨r,h⟩
 unfold frL;rcases hstop with h | ⟨r,h⟩
 ·have:hfL l=false:=by unfold hfL;rw [h];rfl
  rw [this,h];simp
 ·have:hfL l=true:=by unfold hfL;rw [h];rfl
  rw [this,h,Je3 h];simp
theorem JmN (l:List UInt8):(if hqL l=true then 63::quL l else [])++l.drop (k3L l)=l.drop (k2L l):=by
 unfold k3L;cases hq:hqL l
 ·simp
 ·simp only [if_true];have hp:=hq;unfold hqL at hp;cases hd:l.drop (k2L l) with
  | nil=>rw [hd] at hp;simp at hp
  | cons c r=>
    rw [hd] at hp;have:c=63:=by simpa using (by simpa using hp:(63:UInt8)=c).symm
    subst this;unfold quL;rw [if_pos hq,List.cons_append, ←JdJ JaN l (k2L l+1),Je3 hd]
theorem Jox (l:List UInt8):JhF l++l.drop (k2L l)=l.drop (k1L l):=by
 unfold JhF k2L;exact (JdJ Jb7 l (k1L l)).symm
theorem JqS (l:List UInt8):(if haL l=true then [47,47]++auL l else [])++l.drop (k1L l)=l.drop (k0L l):=by
 unfold k1L;cases ha:haL l
 ·simp
 ·simp only [if_true];have hp:=ha;unfold haL at hp
  match hd:l.drop (k0L l) with
  | []=>rw [hd] at hp;simp at hp
  | [c]=>rw [hd] at hp;simp at hp
  | c::d::r=>
    rw [hd] at hp;have h1:(47:UInt8)=c∧(47:UInt8)=d:=by simpa using hp
    obtain ⟨rfl,rfl⟩:=h1;unfold auL;rw [if_pos ha,List.append_assoc, ←JdJ JfO l (k0L l+2),Jm3 hd];rfl
theorem JlU (l:List UInt8):(if (J7 l).isSome=true then (J7 l).getD []++[58] else [])++l.drop (k0L l)=l:=by
 unfold k0L;cases h:J7 l with
 | none=>simp
 | some n=>
   unfold J7 at h;split at h
   ·rename_i hc;simp only [Option.some.injEq] at h;subst h;obtain ⟨_,_,h3⟩:=hc;simp only [Option.isSome_some,if_true,Option.getD_some];have e:=JdJ Yg l 0;rw [List.drop_zero,Nat.zero_add] at e;cases hd:l.drop (l.takeWhile Yg).length with
    | nil=>rw [hd] at h3;simp at h3
    | cons c r=>
      rw [hd] at h3;simp at h3;subst h3;rw [Je3 hd]
      conv=>rhs;rw [e,hd]
      simp
   ·simp at h
theorem Jnj (l:List UInt8):Jh2 (QY l)=l:=by
 unfold Jh2 QY;simp only;rw [JpZ,List.append_assoc,JmN,List.append_assoc,Jox,List.append_assoc,JqS,JlU]
def Jg8 (u:QH):Option (List UInt8):=if (Jh2 u).length≤3000∧QY (Jh2 u)=u then some (Jh2 u) else none
theorem Jlv (l:List UInt8) (h:l.length≤3000):Jg8 (QY l)=some l:=by
 unfold Jg8;rw [Jnj];simp [h]
def Ze (l:List UInt8):List UInt8:=((l.reverse.dropWhile (· != 47)).drop 1).reverse
def JgD (l:List UInt8):List UInt8:=(l.reverse.dropWhile (· != 47)).reverse
def Jct (c:UInt8):Bool:=c != 47
def YZ (l:List UInt8):Nat:=1+((l.drop 1).takeWhile Jct).length
theorem JbS (f:UInt8→Bool): ∀ (y:List UInt8) (c:UInt8) (r:List UInt8),(∀ d∈y,f d=true)→f c=false→(y++c::r).dropWhile f=c::r
 | [],c,r,_,h=>by simp [h]
 | d::y,c,r,hy,h=>by
   rw [List.cons_append,List.dropWhile_cons,if_pos (hy d (by simp))];exact JbS f y c r (fun e he=>hy e (by simp [he])) h
theorem JbJ (f:UInt8→Bool): ∀ (y:List UInt8),(∀ d∈y,f d=true)→y.dropWhile f=[]
 | [],_=>rfl
 | d::y,hy=>by
   rw [List.dropWhile_cons,if_pos (hy d (by simp))];exact JbJ f y (fun e he=>hy e (by simp [he]))
theorem JhC (x y:List UInt8) (hy: ∀ d∈y,d≠47):Ze (x++47::y)=x:=by
 unfold Ze;have e:(x++47::y).reverse=y.reverse++47::x.reverse:=by simp
 rw [e,JbS _ _ _ _ (fun d hd=>by simpa using hy d (by simpa using hd)) (by simp)];simp
theorem Je7 (x:List UInt8) (hx: ∀ d∈x,d≠47):Ze x=[]:=by
 unfold Ze;rw [JbJ _ _ (fun d hd=>by simpa using hx d (by simpa using hd))];rfl
theorem JsG (x y:List UInt8) (hy: ∀ d∈y,d≠47):JgD (x++47::y)=x++[47]:=by
 unfold JgD;have e:(x++47::y).reverse=y.reverse++47::x.reverse:=by simp
 rw [e,JbS _ _ _ _ (fun d hd=>by simpa using hy d (by simpa using hd)) (by simp)];simp
theorem Jn7 (x:List UInt8) (hx: ∀ d∈x,d≠47):JgD x=[]:=by
 unfold JgD;rw [JbJ _ _ (fun d hd=>by simpa using hx d (by simpa using hd))];rfl
theorem Jnu (x:List UInt8):(Ze x).length≤x.length:=by
 unfold Ze;have:(x.reverse.dropWhile (· != 47)).length≤x.reverse.length:=(List.dropWhile_sublist _).length_le;simp at this ⊢;omega
def X1 (i o:List UInt8):List UInt8 × List UInt8:=
 if [46,46,47].isPrefixOf i=true then (i.drop 3,o)
 else if [46,47].isPrefixOf i=true then (i.drop 2,o)
 else if [47,46,47].isPrefixOf i=true then (i.drop 2,o)
 else if [47,46,46,47].isPrefixOf i=true then (i.drop 3,Ze o)
 else if i=[47,46] then ([47],o)
 else if i=[47,46,46] then ([47],Ze o)
 else if i=[46]∨i=[46,46] then ([],o)
 else (i.drop (YZ i),o++i.take (YZ i))
def JcF:Nat→List UInt8→List UInt8→List UInt8
 | 0,_,o=>o
 | f+1,i,o=>if i=[] then o else JcF f (X1 i o).1 (X1 i o).2
def JcI (l:List UInt8):List UInt8:=JcF l.length l []
theorem JnN (l:List UInt8):1≤YZ l:=by unfold YZ;omega
theorem Jo0 (l:List UInt8) (h:l≠[]):YZ l≤l.length:=by
 unfold YZ;have h1:((l.drop 1).takeWhile Jct).length≤(l.drop 1).length:=(List.takeWhile_sublist _).length_le;have h2:0<l.length:=List.length_pos_iff.2 h;rw [List.length_drop] at h1;omega
theorem JfZ {p l:List UInt8} (h:p.isPrefixOf l=true):p.length≤l.length:=by
 have:p<+:l:=by simpa using h
 exact this.length_le
theorem JbD (i o:List UInt8) (h:i≠[]):(X1 i o).1.length<i.length∧(X1 i o).1.length+(X1 i o).2.length≤i.length+o.length:=by
 have hp:=List.length_pos_iff.2 h;have hc:=Jnu o;unfold X1;split
 ·rename_i hx;have:=JfZ hx;simp at this ⊢;omega
 split
 ·rename_i hx;have:=JfZ hx;simp at this ⊢;omega
 split
 ·rename_i hx;have:=JfZ hx;simp at this ⊢;omega
 split
 ·rename_i hx;have:=JfZ hx;simp at this ⊢;omega
 split
 ·rename_i hx;subst hx;simp
 split
 ·rename_i hx;subst hx;simp;omega
 split
 ·simp;omega
 ·have h1:=JnN i;have h2:=Jo0 i h;simp only [List.length_drop,List.length_append,List.length_take];omega
theorem Jhc: ∀ (f g:Nat) (i o:List UInt8),i.length≤f→i.length≤g→JcF f i o=JcF g i o
 | 0,0,_,_,_,_=>rfl
 | 0,g+1,i,o,h,_=>by
   have:i=[]:=List.eq_nil_of_length_eq_zero (by omega);subst this;simp [JcF]
 | f+1,0,i,o,_,h=>by
   have:i=[]:=List.eq_nil_of_length_eq_zero (by omega);subst this;simp [JcF]
 | f+1,g+1,i,o,h1,h2=>by
   unfold JcF;by_cases hi:i=[]
   ·simp [hi]
   ·rw [if_neg hi,if_neg hi];have:=(JbD i o hi).1;exact Jhc f g _ _ (by omega) (by omega)
def Jdi (i o:List UInt8):List UInt8:=JcF i.length i o
theorem JfK (o:List UInt8):Jdi [] o=o:=rfl
theorem JcH (i o:List UInt8) (h:i≠[]):Jdi i o=Jdi (X1 i o).1 (X1 i o).2:=by
 have hl:=(JbD i o h).1;have hp:=List.length_pos_iff.2 h;unfold Jdi;obtain ⟨n,hn⟩: ∃ n,i.length=n+1:=⟨i.length - 1,by omega⟩;rw [hn]
 conv=>lhs;unfold JcF
 rw [if_neg h];exact Jhc _ _ _ _ (by omega) (by omega)
def JcX (x:List UInt8):Prop:=(∀ d∈x,d≠47)∧x≠[46]∧x≠[46,46]
inductive Jbl:List UInt8→Prop
 | nil:Jbl []
 | cons (x r:List UInt8):JcX x→Jbl r→Jbl (47::x++r)
def ZF (l:List UInt8):Prop:= ∃ x r,l=x++r∧JcX x∧Jbl r
theorem Jkv:JcX []:=⟨by simp,by simp,by simp⟩
theorem Jbl.snoc {r:List UInt8} (h:Jbl r) (x:List UInt8) (hx:JcX x):Jbl (r++47::x):=by
 induction h with
 | nil=>simpa using Jbl.cons x [] hx .nil
 | cons y r hy _ ih=>
   have:47::y++r++47::x=47::y++(r++47::x):=by simp
   rw [this];exact .cons y _ hy ih
theorem ZF.snoc {l:List UInt8} (h:ZF l) (x:List UInt8) (hx:JcX x):ZF (l++47::x):=by
 obtain ⟨y,r,rfl,hy,hr⟩:=h;exact ⟨y,r++47::x,by simp,hy,hr.snoc x hx⟩
theorem Jbl.last {r:List UInt8} (h:Jbl r):r=[]∨ ∃ q x,r=q++47::x∧Jbl q∧JcX x:=by
 induction h with
 | nil=>exact .inl rfl
 | cons y r hy hr ih=>
   right;rcases ih with rfl | ⟨q,x,rfl,hq,hx⟩
   ·exact ⟨[],y,by simp,.nil,hy⟩
   ·exact ⟨47::y++q,x,by simp,.cons y q hy hq,hx⟩
theorem ZF.cut {l:List UInt8} (h:ZF l):ZF (Ze l):=by
 obtain ⟨y,r,rfl,hy,hr⟩:=h;rcases hr.last with rfl | ⟨q,x,rfl,hq,hx⟩
 ·rw [List.append_nil,Je7 y hy.1];exact ⟨[],[],rfl,Jkv,.nil⟩
 ·rw [←List.append_assoc,JhC _ _ hx.1];exact ⟨y,q,rfl,hy,hq⟩
theorem ZF.nil:ZF []:=⟨[],[],rfl,Jkv,.nil⟩
def Jk2 (i o:List UInt8):Prop:=ZF o∧(o=[]∨i=[]∨ ∃ r,i=47::r)
theorem JaD {p l:List UInt8} (h:p.isPrefixOf l=true): ∃ r,l=p++r:=by
 have:p<+:l:=by simpa using h
 obtain ⟨r,hr⟩:=this;exact ⟨r,hr.symm⟩
theorem JeX (c:UInt8) (x r:List UInt8) (hx: ∀ d∈x,d≠47) (hr:r=[]∨ ∃ q,r=47::q):YZ (c::(x++r))=1+x.length:=by
 unfold YZ;simp only [List.drop_succ_cons,List.drop_zero]
 congr 1
 have:(x++r).takeWhile Jct=x:=by
  rw [List.takeWhile_append_of_pos (fun d hd=>by simpa [Jct] using hx d hd)];rcases hr with rfl | ⟨q,rfl⟩
  ·simp
  ·simp [Jct]
 rw [this]
theorem JlV (l:List UInt8): ∃ x r,l=x++r∧(∀ d∈x,d≠47)∧(r=[]∨ ∃ q,r=47::q):=by
 refine ⟨l.takeWhile Jct,l.drop (l.takeWhile Jct).length,?_,?_,?_⟩
 ·have:=JdJ Jct l 0;simpa using this
 ·intro d hd;have:=List.all_eq_true.1 (List.all_takeWhile (p:=Jct) (l:=l)) d hd;simpa [Jct] using this
 ·rcases Jiv Jct l with h | ⟨c,r,h,hc⟩
  ·exact .inl h
  ·have:c=47:=by simpa [Jct] using hc
   subst this;exact .inr ⟨r,h⟩
theorem Jld (i o:List UInt8) (hi:i≠[]) (h:Jk2 i o):Jk2 (X1 i o).1 (X1 i o).2:=by
 obtain ⟨hc,hh⟩:=h;unfold X1;split
 ·rename_i hx;obtain ⟨r,rfl⟩:=JaD hx;rcases hh with rfl | hh | ⟨q,hq⟩
  ·exact ⟨hc,.inl rfl⟩
  ·simp at hh
  ·simp at hq
 split
 ·rename_i hx;obtain ⟨r,rfl⟩:=JaD hx;rcases hh with rfl | hh | ⟨q,hq⟩
  ·exact ⟨hc,.inl rfl⟩
  ·simp at hh
  ·simp at hq
 split
 ·rename_i hx;obtain ⟨r,rfl⟩:=JaD hx;exact ⟨hc,.inr (.inr ⟨r,by simp⟩)⟩
 split
 ·rename_i hx;obtain ⟨r,rfl⟩:=JaD hx;exact ⟨hc.cut,.inr (.inr ⟨r,by simp⟩)⟩
 split
 ·exact ⟨hc,.inr (.inr ⟨[],rfl⟩)⟩
 split
 ·exact ⟨hc.cut,.inr (.inr ⟨[],rfl⟩)⟩
 split
 ·exact ⟨hc,.inr (.inl rfl)⟩
 ·rename_i n1 n2 n3 n4 n5 n6 n7
  match i,hi with
  | c::l,_=>
    obtain ⟨x,r,rfl,hx,hr⟩:=JlV l;have hf:=JeX c x r hx hr;have e1:(c::(x++r)).drop (YZ (c::(x++r)))=r:=by
     rw [hf,Nat.add_comm 1];simp
    have e2:(c::(x++r)).take (YZ (c::(x++r)))=c::x:=by
     rw [hf,Nat.add_comm 1];simp
    simp only [e1,e2];refine ⟨?_,.inr (by rcases hr with rfl | ⟨q,rfl⟩;exact .inl rfl;exact .inr ⟨q,rfl⟩)⟩;by_cases h47:c=47
    ·subst h47;refine hc.snoc x ⟨hx,?_,?_⟩
     ·rintro rfl;rcases hr with rfl | ⟨q,rfl⟩
      ·exact n5 rfl
      ·exact n3 (by simp [List.isPrefixOf])
     ·rintro rfl;rcases hr with rfl | ⟨q,rfl⟩
      ·exact n6 rfl
      ·exact n4 (by simp [List.isPrefixOf])
    ·have ho:o=[]:=by
      rcases hh with rfl | hh | ⟨q,hq⟩
      ·rfl
      ·simp at hh
      ·simp at hq;exact absurd hq.1 h47
     subst ho;refine ⟨c::x,[],by simp,⟨?_,?_,?_⟩,.nil⟩
     ·intro d hd;rcases List.mem_cons.1 hd with rfl | hd
      ·exact h47
      ·exact hx d hd
     ·intro e;simp at e;obtain ⟨rfl,rfl⟩:=e;rcases hr with rfl | ⟨q,rfl⟩
      ·exact n7 (.inl rfl)
      ·exact n2 (by simp [List.isPrefixOf])
     ·intro e;simp at e;obtain ⟨rfl,rfl⟩:=e;rcases hr with rfl | ⟨q,rfl⟩
      ·exact n7 (.inr rfl)
      ·exact n1 (by simp [List.isPrefixOf])
theorem Jf5: ∀ (n:Nat) (i o:List UInt8),i.length≤n→Jk2 i o→ZF (Jdi i o)
 | 0,i,o,h,hd=>by
   have:i=[]:=List.eq_nil_of_length_eq_zero (by omega);subst this;rw [JfK];exact hd.1
 | n+1,i,o,h,hd=>by
   by_cases hi:i=[]
   ·subst hi;rw [JfK];exact hd.1
   ·have hl:=(JbD i o hi).1;rw [JcH i o hi];exact Jf5 n _ _ (by omega) (Jld i o hi hd)
theorem Jlq (l:List UInt8):ZF (JcI l):=Jf5 l.length l [] (Nat.le_refl _) ⟨.nil,.inl rfl⟩
theorem JjP (x r o:List UInt8) (hx:JcX x) (hr:r=[]∨ ∃ q,r=47::q):X1 (47::(x++r)) o=(r,o++47::x):=by
 have hf:=JeX 47 x r hx.1 hr;have e1:(47::(x++r)).drop (YZ (47::(x++r)))=r:=by rw [hf,Nat.add_comm 1];simp
 have e2:(47::(x++r)).take (YZ (47::(x++r)))=47::x:=by rw [hf,Nat.add_comm 1];simp
 obtain ⟨h1,h2,h3⟩:=hx;have key: ∀ y:List UInt8,(∀ d∈y,d≠47)→ ∀ q',x++r=y++47::q'→x=y:=by
  intro y hy q' e;rcases List.append_eq_append_iff.1 e with ⟨a,ha1,ha2⟩ | ⟨a,ha1,ha2⟩
  ·cases a with
   | nil=>simpa using ha1.symm
   | cons d a=>
     exfalso;rcases hr with rfl | ⟨q,rfl⟩
     ·simp at ha2
     ·simp at ha2;exact hy d (by rw [ha1];simp) ha2.1.symm
  ·cases a with
   | nil=>simpa using ha1
   | cons d a=>
     exfalso;simp at ha2;exact h1 d (by rw [ha1];simp) ha2.1.symm
 have keyE: ∀ y:List UInt8,(∀ d∈y,d≠47)→x++r=y→x=y:=by
  intro y hy e;rcases hr with rfl | ⟨q,rfl⟩
  ·simpa using e
  ·exact absurd rfl (hy 47 (by rw [←e];simp))
 unfold X1;rw [e1,e2];rw [if_neg (by simp [List.isPrefixOf]),if_neg (by simp [List.isPrefixOf])];rw [if_neg (fun h=>by
  obtain ⟨q,hq⟩:=JaD h;exact h2 (key [46] (by simp) q (by simpa using hq)))]
 rw [if_neg (fun h=>by
  obtain ⟨q,hq⟩:=JaD h;exact h3 (key [46,46] (by simp) q (by simpa using hq)))]
 rw [if_neg (fun h=>h2 (keyE [46] (by simp) (by simpa using h)))];rw [if_neg (fun h=>h3 (keyE [46,46] (by simp) (by simpa using h)))];rw [if_neg (by simp)]
theorem Jbl.head {r:List UInt8} (h:Jbl r):r=[]∨ ∃ q,r=47::q:=by
 cases h with
 | nil=>exact .inl rfl
 | cons x r _ _=>exact .inr ⟨x++r,by simp⟩
theorem JhZ {r:List UInt8} (h:Jbl r): ∀ o,Jdi r o=o++r:=by
 induction h with
 | nil=>intro o;rw [JfK,List.append_nil]
 | cons x r hx hr ih=>
   intro o;rw [List.cons_append,JcH _ _ (by simp),JjP x r o hx hr.head,ih];simp
theorem Jms {l:List UInt8} (h:ZF l):JcI l=l:=by
 obtain ⟨x,r,rfl,hx,hr⟩:=h;cases x with
 | nil=>exact (JhZ hr []).trans (by simp)
 | cons c x=>
   obtain ⟨h1,h2,h3⟩:=hx;have h47:c≠47:=h1 c (by simp);have hf:=JeX c x r (fun d hd=>h1 d (by simp [hd])) hr.head;have e1:(c::(x++r)).drop (YZ (c::(x++r)))=r:=by rw [hf,Nat.add_comm 1];simp
   have e2:(c::(x++r)).take (YZ (c::(x++r)))=c::x:=by rw [hf,Nat.add_comm 1];simp
   have key: ∀ y q':List UInt8,(∀ d∈y,d≠47)→c::(x++r)=y++47::q'→c::x=y:=by
    intro y q' hy e;rw [←List.cons_append] at e;rcases List.append_eq_append_iff.1 e with ⟨a,ha1,ha2⟩ | ⟨a,ha1,ha2⟩
    ·cases a with
     | nil=>simpa using ha1.symm
     | cons d a=>
       exfalso;rcases hr.head with rfl | ⟨q,rfl⟩
       ·simp at ha2
       ·simp at ha2;exact hy d (by rw [ha1];simp) ha2.1.symm
    ·cases a with
     | nil=>simpa using ha1
     | cons d a=>
       exfalso;simp at ha2;exact h1 d (by rw [ha1];simp) ha2.1.symm
   have keyE: ∀ y:List UInt8,(∀ d∈y,d≠47)→c::(x++r)=y→c::x=y:=by
    intro y hy e;rcases hr.head with rfl | ⟨q,rfl⟩
    ·simpa using e
    ·exact absurd rfl (hy 47 (by rw [←e];simp))
   have hstep:X1 (c::(x++r)) []=(r,c::x):=by
    unfold X1;rw [e1,e2];rw [if_neg (fun h=>by
     obtain ⟨q,hq⟩:=JaD h;exact h3 (key [46,46] q (by simp) (by simpa using hq)))]
    rw [if_neg (fun h=>by
     obtain ⟨q,hq⟩:=JaD h;exact h2 (key [46] q (by simp) (by simpa using hq)))]
    rw [if_neg (fun h=>by
     obtain ⟨q,hq⟩:=JaD h;simp at hq;exact h47 hq.1)]
    rw [if_neg (fun h=>by
     obtain ⟨q,hq⟩:=JaD h;simp at hq;exact h47 hq.1)]
    rw [if_neg (fun h=>by simp at h;exact h47 h.1)];rw [if_neg (fun h=>by simp at h;exact h47 h.1)];rw [if_neg (fun h=>by
     rcases h with h | h
     ·exact h2 (keyE [46] (by simp) h)
     ·exact h3 (keyE [46,46] (by simp) h))]
    simp
   show Jdi (c::x++r) []=_;rw [List.cons_append,JcH _ _ (by simp),hstep,JhZ hr];simp
theorem Jgg (l:List UInt8):JcI (JcI l)=JcI l:=Jms (Jlq l)
def JsS (b:QH) (p:List UInt8):List UInt8:=
 if p=[] then b.path else if p.head?=some 47 then p else if b.ha=true∧b.path=[] then 47::p else JgD b.path++p
def Jfd (b u:QH):QH:=
 if u.hs=true then { u with path:=JcI u.path }
 else if u.ha=true then { u with scheme:=b.scheme,hs:=true,path:=JcI u.path }
 else { scheme:=b.scheme,hs:=true,authority:=b.authority,ha:=b.ha,path:=JcI (JsS b u.path),
        query:=if u.path=[]∧u.hq=false then b.query else u.query,hq:=if u.path=[]∧u.hq=false then b.hq else u.hq,fragment:=u.fragment,hf:=u.hf }
theorem JsO (b u:QH):(Jfd b u).hs=true:=by
 unfold Jfd;split
 ·assumption
 split<;>rfl
theorem Jo6 (b u:QH):JcI (Jfd b u).path=(Jfd b u).path:=by
 unfold Jfd;split
 ·exact Jgg _
 split<;>exact Jgg _
def JdP (base s:List UInt8):Option (List UInt8):=if (QY base).hs=true then Jg8 (Jfd (QY base) (QY s)) else none
theorem Jpc {base s r:List UInt8} (h:JdP base s=some r):(QY r).hs=true∧JdP base r=some r∧r.length≤3000:=by
 unfold JdP at h;split at h
 ·rename_i hb;unfold Jg8 at h;split at h
  ·rename_i hj;simp only [Option.some.injEq] at h;rw [h] at hj;have hhs:=JsO (QY base) (QY s);rw [←hj.2] at hhs;refine ⟨hhs,?_,hj.1⟩;have e:Jfd (QY base) (QY r)=QY r:=by
    conv=>lhs;unfold Jfd
    rw [if_pos hhs];have hp:=Jo6 (QY base) (QY s);rw [←hj.2] at hp;rw [hp]
   unfold JdP;rw [if_pos hb,e,Jlv r hj.1]
  ·simp at h
 ·simp at h
def Xj (l:List UInt8):List UInt8:=l.filter fun c=>decide (32<c.toNat)
def okS (l:List UInt8):Bool:=l==[104,116,116,112] || l==[104,116,116,112,115] || l==[109,97,105,108,116,111]
def Yb (l:List UInt8):Bool:=okS (Jx (QY (Xj l)).scheme)
theorem Jfj {p:UInt8→Prop} [DecidablePred p] (h: ∀ n:Fin 256,p ⟨⟨n⟩⟩) (c:UInt8):p c:=by
 have:=h c.toBitVec.toFin;exact this
def JO (n:List UInt8):Bool:=(n==[97]) || ((n==[98]) || ((n==[105]) || ((n==[101,109]) || ((n==[115,116,114,111,110,103]) || ((n==[112]) || ((n==[98,114]) || ((n==[104,114]) || ((n==[117,108]) || ((n==[111,108]) || ((n==[108,105]) || ((n==[98,108,111,99,107,113,117,111,116,101]) || ((n==[99,111,100,101]) || (n==[105,109,103])))))))))))))
def Yw (el nm:List UInt8):Bool:=if (el==[97])=true then (nm==[104,114,101,102]) || (nm==[116,105,116,108,101]) else if (el==[105,109,103])=true then (nm==[115,114,99]) || (nm==[97,108,116]) else false
def Ym (nm:List UInt8):Bool:=(nm==[104,114,101,102]) || (nm==[115,114,99])
def Jkz (base s:List UInt8):List UInt8:=if 3000<s.length then s else (JdP base s).getD s
def YE (el:List UInt8) (a:Jw):Int:=if Yw el a.1=false then 7 else if Ym a.1=false then 0 else if 3000<a.2.length then 2 else if Yb a.2=false then 4 else 0
def ZK (el:List UInt8):List Jw→Int
 | []=>0
 | a::r=>if YE el a=0 then ZK el r else YE el a
def YW (l:List Jw):Bool:=l.any (fun a=>a.1==[115,114,99])
def QW (n:List UInt8) (l:List Jw):Int:=if n.isEmpty=true then 0 else if JO n=false then 7 else if ZK n l=0 then (if ((n==[105,109,103])&& !YW l)=true then 5 else 0) else ZK n l
def JaS (base:List UInt8) (a:Jw):Jw:=if Ym a.1=true then (a.1,Jkz base a.2) else a
def XY (base el:List UInt8) (l:List Jw):List Jw:=(l.map (JaS base)).filter (fun a=>YE el a==0)
end Go.Proofs.YtlcljanibjdejaaGreat
namespace Go.Proofs.YtlcljanibjdejaaGreat
open Go.RowKit
theorem JF {S T:List Nat} {a b c:World} (h:Jb T a b) (k:Jb S b c) (hS: ∀ g,g∈S→g<a.heap.size→g∈T):Jb T a c:=
 ⟨k.os.trans h.os,k.tape.trans h.tape,k.output.trans h.output,Nat.le_trans h.size k.size,fun i hi hT=>(k.block i (Nat.lt_of_lt_of_le hi h.size) (fun hm=>hT (hS i hm hi))).trans (h.block i hi hT)⟩
def X3 (e:Int):List PanicEntry:=[{ v:=.iface 168 (.agg #[.int .i64 e]),recovered:=false }]
theorem JaW (e:Int) (w:World):Calls Tryz.prog 141 #[.int .i64 e] w fun r w'=>r=.panicked (X3 e)∧w'=w:=by
 go_enter Tryz.func141,Tryz.ntmps141
 go_wp2
 exact ⟨rfl,rfl,rfl⟩
theorem Jme (x n:Value):(#[x]++((Array.replicate 16 undef).setIfInBounds 3 n).setIfInBounds 0 n)=#[x,n,undef,undef,n,undef,undef,undef,undef,undef,undef,undef,undef,undef,undef,undef,undef]:=by kernel_rfl
theorem Jla (p:Addr) (w:World):
  CallsD Tryz.prog 140 #[.pointer (some p)] .returning w fun e u' w'=>e=.returned (.tuple #[])∧u'=.returning∧w'=w:=by
 refine callsD_of_wpS Tryz.func140 rfl fun c₀ cs hu=>?_;apply wpS_seq;apply wpS_region;simp [wpOpsS,go_sem,recoverD,hu,Tryz.ntmps140,Exit.thenS];rw [Jme];refine wpS_of_wp ?_
 go_wp2
 cases c₀
 simp_all [bodyPostS,results,Tryz.results140]
theorem JpQ (e:Int) (w:World):(Instr.typeAssert (.iface 168 (.agg #[.int .i64 e])) 20 168 true).run Tryz.prog w=.ok (.tuple #[.agg #[.int .i64 e],.bool true]) w:=by kernel_rfl
set_option maxRecDepth 100000 in
theorem JgC (x e:Int) (pe:Nat) (w:World) (hf:w.heap[pe]?=some (.cells #[.int .i64 x] 22 (0,0))):
  CallsD Tryz.prog 140 #[.pointer (some ⟨pe,0,none⟩)] (.panicking (X3 e)) w fun r u' w'=>
   r=.returned (.tuple #[])∧u'=.panicking [{ v:=.iface 168 (.agg #[.int .i64 e]),recovered:=true }]∧w'.cell? ⟨pe,0,none⟩=some (.int .i64 e)∧Jb [pe] w w':=by
 refine callsD_of_wpS Tryz.func140 rfl fun c₀ cs hu=>?_;unfold X3 at hu;have hlt:pe<w.heap.size:=lt_of_block hf;have blk: ∀ o,(w.alloc o).heap[pe]?=some (.cells #[.int .i64 x] 22 (0,0)):=fun o=>(Below.heap_alloc w o _ hlt).trans hf;have ce: ∀ o,(w.alloc o).cell? ⟨pe,0,none⟩=some (.int .i64 x):=fun o=>cell_of_one (blk o);have fe: ∀ o,(w.alloc o).frozen? ⟨pe,0,none⟩=false:=fun o=>by simp [World.frozen?,blk o]
 have hta:=JpQ e;apply wpS_seq;apply wpS_region;simp [wpOpsS,go_sem,recoverD,hu,Tryz.ntmps140,Exit.thenS];rw [Jme];clear hu;refine wpS_of_wp ?_
 go_wp2
 refine ⟨rfl,_,rfl,.tuple #[],by simp [results,Tryz.results140],rfl,rfl,?_,((Jb.refl [pe] w).setCell (p:=⟨pe,0,none⟩) (.inl (by simp)) _).alloc _⟩;refine (World.cell?_of_block (Below.heap_alloc _ _ _ (by simpa [World.setCell] using hlt))).trans ?_;simp [World.cell?,World.setCell,Array.getElem?_modify,hf]
set_option maxRecDepth 100000 in
theorem JhR (K:Nat) (caps:Array Value) (Yes:World→Prop) (No:Int→World→Prop) (S:List Nat) (w:World) (hK:Jz K) (hS: ∀ i,i∈S→i<w.heap.size)
  (hY: ∀ w2 w3,w2.heap[w.heap.size]?=some (.cells #[.int .i64 0] 22 (0,0))→Yes w2→Jb [w.heap.size] w2 w3→Yes w3) (hN: ∀ x w2 w3,w2.heap[w.heap.size]?=some (.cells #[.int .i64 0] 22 (0,0))→No x w2→Jb [w.heap.size] w2 w3→No x w3)
  (hdo: ∀ w1,Jb [] w w1→w.heap.size<w1.heap.size→Calls Tryz.prog K caps w1 fun e w2=>(e=.returned (.tuple #[])∧Yes w2∨ ∃ x,e=.panicked (X3 x)∧No x w2)∧Jb S w1 w2):
  Calls Tryz.prog 64 #[.func (.func K) #[] caps] w fun e w'=>
   (e=.returned (.int .i64 0)∧Yes w'∨ ∃ x,e=.returned (.int .i64 x)∧No x w')∧Jb S w w':=by
 have hmf: ∀ (fn:Fn) (first cap:Array Value) (w:World),(Instr.makeFunc fn first cap).run Tryz.prog w=.ok (.func fn first cap) w:=fun _ _ _ _=>rfl;have hK':=hK;unfold Jz at hK';have hka:Jb [] w (w.alloc (.cells #[.int .i64 0] 22)):=(Jb.refl [] w).alloc _;have hkS: ∀ w2,Jb S (w.alloc (.cells #[.int .i64 0] 22)) w2→Jb S w w2:=fun w2 h=>((Jb.refl S w).alloc _).trans h;have hnew:(w.alloc (.cells #[.int .i64 0] 22)).heap[w.heap.size]?=some (.cells #[.int .i64 0] 22 (0,0)):=heap_alloc_new w _;have hns:w.heap.size∉S:=fun h=>by have:=hS _ h;omega
 go_enter_defers Tryz.func64,Tryz.ntmps64
 go_wp2_with fail;refine (hdo _ hka (by simp)).mono ?_;rintro e w2 ⟨⟨rfl,hy⟩ | ⟨x,rfl,hno⟩,hk⟩
 ·have hb2:w2.heap[w.heap.size]?=some (.cells #[.int .i64 0] 22 (0,0)):=(hk.block _ (by simp) hns).trans hnew;have c2:w2.cell? ⟨w.heap.size,0,none⟩=some (.int .i64 0):=cell_of_one hb2;have f2:w2.frozen? ⟨w.heap.size,0,none⟩=false:=by simp [World.frozen?,hb2]
  go_wp2_with fail;refine leaves_cons (f:=140) (args:=#[.pointer (some ⟨w.heap.size,0,none⟩)]) (by simp) (by simp [go_sem]) ?_;refine (Jla _ _).mono ?_;rintro e u' w3 ⟨rfl,rfl,rfl⟩;have hks:Jb [w.heap.size] w2 (w2.setCell ⟨w.heap.size,0,none⟩ (.int .i64 0)):=(Jb.refl _ w2).setCell (.inl (by simp)) _;refine ⟨.int .i64 0,?_,.inl ⟨rfl,hY _ _ hb2 hy hks⟩,?_⟩
  ·simp [results,Tryz.results64,asAddr,loadVar,go_sem,World.cell?,World.setCell,Array.getElem?_modify,hb2]
  ·exact JF (hkS _ hk) hks (fun i hi hlt=>by simp at hi;omega)
 ·have hb2:w2.heap[w.heap.size]?=some (.cells #[.int .i64 0] 22 (0,0)):=(hk.block _ (by simp) hns).trans hnew;go_wp2_with fail;refine leaves_cons (f:=140) (args:=#[.pointer (some ⟨w.heap.size,0,none⟩)]) (by simp) (by simp [go_sem]) ?_;refine (JgC 0 x w.heap.size w2 hb2).mono ?_;rintro e u' w3 ⟨rfl,rfl,c3,hk3⟩;refine ⟨.int .i64 x,?_,.inr ⟨x,rfl,hN _ _ _ hb2 hno hk3⟩,?_⟩
  ·simp [results,Tryz.results64,asAddr,loadVar,go_sem,c3]
  ·exact JF (hkS _ hk) hk3 (fun i hi hlt=>by simp at hi;omega)
end Go.Proofs.YtlcljanibjdejaaGreat
namespace Go.Proofs.YtlcljanibjdejaaGreat
open Go.RowKit Go.Maps
set_option maxRecDepth 4000 in
theorem JjB (n:List UInt8) (w:World):Calls Tryz.prog 172 #[.string ⟨n.toArray⟩] w fun e w'=>e=.returned (.bool (JO n))∧w'=w:=by
 by_cases h:JO n=true
 ·rw [h];simp only [JO,Bool.or_eq_true,beq_iff_eq] at h;rcases h with rfl | rfl | rfl | rfl | rfl | rfl | rfl | rfl | rfl | rfl | rfl | rfl | rfl | rfl
  all_goals
   go_enter Tryz.func172,Tryz.ntmps172;go_wp2_with fail;go_ret;exact ⟨rfl,rfl⟩
 ·have h2:JO n=false:=by simpa using h
  rw [h2];simp only [JO,Bool.or_eq_false_iff] at h2;obtain ⟨h1,h2,h3,h4,h5,h6,h7,h8,h9,h10,h11,h12,h13,h14⟩:=h2;have p1:=(Jp n _).trans h1;have p2:=(Jp n _).trans h2;have p3:=(Jp n _).trans h3;have p4:=(Jp n _).trans h4;have p5:=(Jp n _).trans h5;have p6:=(Jp n _).trans h6;have p7:=(Jp n _).trans h7;have p8:=(Jp n _).trans h8;have p9:=(Jp n _).trans h9;have p10:=(Jp n _).trans h10;have p11:=(Jp n _).trans h11;have p12:=(Jp n _).trans h12;have p13:=(Jp n _).trans h13;have p14:=(Jp n _).trans h14;clear h;go_enter Tryz.func172,Tryz.ntmps172;go_wp2_with fail;go_ret;exact ⟨rfl,rfl⟩
theorem JmD (n:List UInt8) (w:World):Calls Tryz.prog 243 #[.string ⟨n.toArray⟩] w fun e w'=>e=.returned (.bool (Ym n))∧w'=w:=by
 unfold Ym;cases h1:(n==[104,114,101,102])<;>cases h2:(n==[115,114,99])
 all_goals
  have p1:=(Jp n _).trans h1;have p2:=(Jp n _).trans h2;go_enter Tryz.func243,Tryz.ntmps243;go_wp2_with fail;go_ret;exact ⟨rfl,rfl⟩
theorem Jf4 (el n:List UInt8) (w:World):Calls Tryz.prog 242 #[.string ⟨el.toArray⟩,.string ⟨n.toArray⟩] w fun e w'=>e=.returned (.bool (Yw el n))∧w'=w:=by
 unfold Yw;cases e1:(el==[97])
 ·have q1:=(Jp el _).trans e1;cases e2:(el==[105,109,103])
  ·have q2:=(Jp el _).trans e2;go_enter Tryz.func242,Tryz.ntmps242;go_wp2_with fail;go_ret;exact ⟨rfl,rfl⟩
  ·have q2:=(Jp el _).trans e2;cases h1:(n==[115,114,99])<;>cases h2:(n==[97,108,116])
   all_goals
    have p1:=(Jp n _).trans h1;have p2:=(Jp n _).trans h2;go_enter Tryz.func242,Tryz.ntmps242;go_wp2_with fail;go_ret;exact ⟨rfl,rfl⟩
 ·have q1:=(Jp el _).trans e1;cases h1:(n==[104,114,101,102])<;>cases h2:(n==[116,105,116,108,101])
  all_goals
   have p1:=(Jp n _).trans h1;have p2:=(Jp n _).trans h2;go_enter Tryz.func242,Tryz.ntmps242;go_wp2_with fail;go_ret;exact ⟨rfl,rfl⟩
theorem Jdx (b:Bool) (w:World):Calls Tryz.prog 244 #[.bool b,.int .i64 0] w fun e w'=>e=.returned (.bool b)∧w'=w:=by
 go_enter Tryz.func244,Tryz.ntmps244;go_wp2_with fail;go_ret;exact ⟨rfl,rfl⟩
theorem JlR (b:Bool) (x:Int) (hx:x≠0) (w:World):Calls Tryz.prog 244 #[.bool b,.int .i64 x] w fun e w'=>e=.panicked (X3 x)∧w'=w:=by
 have hd:(x != 0)=true:=by simpa using hx
 clear hx;go_enter Tryz.func244,Tryz.ntmps244;go_wp2_with fail;refine (JaW x _).mono ?_;rintro e w1 ⟨rfl,rfl⟩;exact ⟨rfl,rfl,rfl⟩
theorem Joj (n v:List UInt8) (w:World):Calls Tryz.prog 175 #[.agg #[.string ⟨n.toArray⟩,.string ⟨v.toArray⟩]] w fun e w'=>e=.returned (.bool (n==[115,114,99]))∧Jb [] w w':=by
 have hk:Jb [] w (w.alloc (.cells #[.string ⟨n.toArray⟩,.string ⟨v.toArray⟩] 52)):=(Jb.refl [] w).alloc _;cases h1:(n==[115,114,99])
 all_goals
  have p1:=(Jp n _).trans h1;go_enter Tryz.func175,Tryz.ntmps175;go_wp2_with fail;go_ret;exact ⟨rfl,hk⟩
def Jaj:List Jw→Nat→Int
 | [],_=> -1
 | p::r,k=>if (p.1==[115,114,99])=true then (k:Int) else Jaj r (k+1)
theorem Jmk: ∀ (l:List Jw) (k:Nat),decide (0≤Jaj l k)=YW l
 | [],k=>by simp [Jaj,YW]
 | p::r,k=>by
   rw [Jaj];have:=Jmk r (k+1);unfold YW at this ⊢;rw [List.any_cons];cases h:(p.1==[115,114,99])
   ·simpa using this
   ·simp
theorem Ji3:Jz 175:=JC Tryz.func175 (by kernel_rfl) (by kernel_rfl)
set_option maxRecDepth 4000 in
theorem Jj9 (w:World) (v:Value) (l:List Jw) (hv:Jh w v l.length 2 (Jj l)):
  Calls Tryz.prog 245 #[v,.func (.func 175) #[] #[]] w fun e w'=>e=.returned (.int .i64 (Jaj l 0))∧Jb [] w w':=by
 have hE:=Ji3;unfold Jz at hE;obtain ⟨o,c,rfl,h1,h2⟩:=hv.form;obtain ⟨R,hR⟩: ∃ R,Jaj l 0=R:=⟨_,rfl⟩;rw [hR];have HR:=Ja hR;clear hR;unfold maxLen at h2;go_enter Tryz.func245,Tryz.ntmps245;go_wp2_with fail;go_loopw [8] (fun i wr=> ∃ k:Nat,k≤l.length∧i=.int .i64 k∧Jb [] w wr∧Hid (Jaj (l.drop k) k=R)) (fun i _=>l.length - (intOf i).toNat)
 case atStart=>exact ⟨0,Nat.zero_le _,rfl,Jb.refl _ _,HR⟩
 case round=>
  obtain ⟨k,hk,rfl,hkw,hC⟩:=hrel;clear HR;by_cases hlt:k<l.length
  ·obtain ⟨g,x,rfl,hc⟩:=(hv.keeps hkw).addr (by omega);have a0:=hc _ _ (Zx l k hlt);have a1:=hc _ _ (JaV l k hlt);rw [←Nat.add_assoc] at a1;have hC1:=hC.out;rw [List.drop_eq_getElem_cons hlt,Jaj] at hC1;have HC1:=Ja hC1;clear hC hC1 hc;generalize l[k]=p at *;obtain ⟨n,v⟩:=p;simp only at a0 a1;have hs:=Ja (Joj n v wr);cases hb:(n==[115,114,99])
   ·rw [hb] at hs;go_wp2_with fail;refine hs.out.mono ?_;rintro e w1 ⟨rfl,hk1⟩;clear a0 a1;go_wp2_with fail;go_roundw
    case rel=>exact ⟨k+1,by omega,by go_num,hkw.trans hk1,by have h9:=HC1.out;simp only [hb] at h9;exact Ja (by simpa using h9)⟩
    case measure=>simp [intOf];omega
   ·rw [hb] at hs;go_wp2_with fail;refine hs.out.mono ?_;rintro e w1 ⟨rfl,hk1⟩;clear a0 a1;go_wp2_with fail;go_ret;refine ⟨?_,hkw.trans hk1⟩;have h9:=HC1.out;simp only [hb,if_true] at h9;rw [←h9];rfl
  ·have hRR:R= -1:=by
    rw [←hC.out,List.drop_eq_nil_of_le (by omega)];rfl
   subst hRR;go_wp2_with fail;go_ret;exact ⟨rfl,hkw⟩
theorem Jg2 (w:World) (v:Value) (l:List Jw) (hv:Jh w v l.length 2 (Jj l)):
  Calls Tryz.prog 174 #[v,.func (.func 175) #[] #[]] w fun e w'=>e=.returned (.bool (YW l))∧Jb [] w w':=by
 have hs:=Ja (Jj9 w v l hv);obtain ⟨o,c,rfl,h1,h2⟩:=hv.form;rw [←Jmk l 0];generalize Jaj l 0=R at *;clear hv;cases hd:decide (0≤R)
 all_goals
  go_enter Tryz.func174,Tryz.ntmps174;go_wp2_with fail;refine hs.out.mono ?_;rintro e w1 ⟨rfl,hk1⟩;go_wp2_with fail;go_ret;exact ⟨rfl,hk1⟩
end Go.Proofs.YtlcljanibjdejaaGreat
namespace Go.Proofs.YtlcljanibjdejaaGreat
open Go.RowKit
theorem Joq:Jz 284:=JC Tryz.func284 (by kernel_rfl) (by kernel_rfl)
theorem Jp8:Jz 286:=JC Tryz.func286 (by kernel_rfl) (by kernel_rfl)
theorem Jpn:Jz 215:=JC Tryz.func215 (by kernel_rfl) (by kernel_rfl)
theorem Jsd (c:UInt8) (w:World):Calls Tryz.prog 284 #[.int .u8 c.toNat] w fun e w'=>e=.returned (.bool (Yg c))∧w'=w:=by
 have hl:=Ja (fun w=>Jau c w);have hd:=Ja (fun w=>JfU c w);have e1:(c==43)=((c.toNat:Int)==43):=Jae rfl;have e2:(c==45)=((c.toNat:Int)==45):=Jae rfl;have e3:(c==46)=((c.toNat:Int)==46):=Jae rfl;unfold Yg;rw [e1,e2,e3];clear e1 e2 e3;generalize J2 c=a at *;generalize Jc3 c=b at *;generalize c.toNat=n at *;cases a<;>cases b<;>cases h1:((n:Int)==43)<;>cases h2:((n:Int)==45)<;>cases h3:((n:Int)==46)
 all_goals
  go_enter Tryz.func284,Tryz.ntmps284;go_wp2_with (first | (go_at_call 224;refine (hl.out _).mono ?_;rintro e w' ⟨rfl,rfl⟩) | (go_at_call 285;refine (hd.out _).mono ?_;rintro e w' ⟨rfl,rfl⟩));go_ret;exact ⟨rfl,rfl⟩
theorem JgL {l:List UInt8} (h:l.length≤(l.takeWhile Yg).length):J7 l=none:=by
 unfold J7;rw [if_neg];rintro ⟨_,_,h3⟩;rw [List.drop_eq_nil_of_le h] at h3;simp at h3
set_option maxRecDepth 4000 in
theorem JnJ (b:Nat) (s:ByteArray) (w:World) (hs:s.size≤3000) (hT:Jf w b s 0):
  Calls Tryz.prog 216 #[.pointer (some ⟨b,0,none⟩)] w fun e w'=>
   ((∃ n,J7 s.data.toList=some n∧e=.returned (.string ⟨n.toArray⟩)∧Jf w' b s (n.length+1))∨(J7 s.data.toList=none∧e=.panicked Yq∧ ∃ j,Jf w' b s j))∧Jb [b] w w':=by
 have hp:=Ja (Zg 284 Yg Joq Jsd b s 0 w hs hT (Nat.zero_le _));rw [List.drop_zero,Nat.zero_add] at hp;have hle:=Q9 Yg s 0 (Nat.zero_le _);rw [List.drop_zero,Nat.zero_add] at hle;obtain ⟨n,hn⟩: ∃ n,s.data.toList.takeWhile Yg=n:=⟨_,rfl⟩;have hend:Hid (s.size≤n.length→J7 s.data.toList=none):=fun h=>JgL (by rw [hn,Js];exact h);have hget:Hid (∀ h:n.length<s.size,J7 s.data.toList=if n≠[]∧J2 (n.getD 0 0)=true∧Jr s n.length=58 then some n else none):=by
  intro h;unfold J7;rw [hn,List.head?_drop,List.getElem?_eq_getElem (by rw [Js];exact h),Q1 s _ h];have:s.data.toList[n.length]'(by rw [Js];exact h)=s[n.length]:=rfl;rw [this];simp
 rw [hn] at hp hle;clear hn;by_cases hlt:n.length<s.size
 ·have hg:=Ja (hget.out hlt);clear hend hget;have hl0:=Ja (fun w=>Jau (n.getD 0 0) w);have hbb:(Jr s n.length=58)↔(((Jr s n.length).toNat:Int) != 58)=false:=by
   rw [show ((58:Int))=(((58:UInt8).toNat:Nat):Int) from rfl,YM];simp
  cases hc:(((Jr s n.length).toNat:Int) != 58)
  ·cases n with
   | nil=>
     have hnone:Hid (J7 s.data.toList=none):=hg.out.trans (if_neg (by simp));clear hg hbb;have h1:=Ja (fun (w:World) hT=>Q3 b s 0 w hs hT hlt);simp only [List.length_nil] at hc;go_enter Tryz.func216,Tryz.ntmps216;go_wp2_with fail;refine hp.out.mono ?_;rintro e w1 ⟨rfl,hT1,hk1⟩;go_wp2_with fail;refine (h1.out _ hT1).mono ?_;rintro e w2 ⟨rfl,hT2,hk2⟩;go_wp2_with fail;refine (Zp _).mono ?_;rintro e w3 ⟨rfl,rfl⟩;go_wp2_with fail;exact ⟨rfl,.inr ⟨hnone.out,rfl,_,hT2⟩,hk1.trans hk2⟩
   | cons d m=>
     have e0:(d::m).getD 0 0=d:=rfl;rw [e0] at hl0 hg;have hsz:(⟨(d::m).toArray⟩:ByteArray).size=m.length+1:=rfl;have hix:(⟨(d::m).toArray⟩:ByteArray)[0]'(by rw [hsz];omega)=d:=rfl;have hem:((⟨(d::m).toArray⟩:ByteArray).toList.isEmpty)=false:=by rw [ByteArray.toList_eq];rfl
     have hlz:Hid (J2 d=false→J7 s.data.toList=none):=fun h=>hg.out.trans (if_neg (by simp [h]));have hly:Hid (J2 d=true→J7 s.data.toList=some (d::m)):=fun h=>hg.out.trans (if_pos ⟨by simp,h,hbb.2 hc⟩);clear hg hbb;have h1:=Ja (fun (w:World) hT=>Q3 b s (d::m).length w hs hT hlt);generalize J2 d=a at *;generalize hlen:(d::m).length=len at *;generalize hstr:(⟨(d::m).toArray⟩:ByteArray)=str at *;have HLEN:=Ja hlen;have HSTR:=Ja hstr;clear hlen hstr;cases a
     ·go_enter Tryz.func216,Tryz.ntmps216;go_wp2_with fail;refine hp.out.mono ?_;rintro e w1 ⟨rfl,hT1,hk1⟩;go_wp2_with fail;refine (h1.out _ hT1).mono ?_;rintro e w2 ⟨rfl,hT2,hk2⟩;go_wp2_with fail;refine (hl0.out _).mono ?_;rintro e w3 ⟨rfl,rfl⟩;go_wp2_with fail;refine (Zp _).mono ?_;rintro e w4 ⟨rfl,rfl⟩;go_wp2_with fail;exact ⟨rfl,.inr ⟨hlz.out trivial,rfl,_,hT2⟩,hk1.trans hk2⟩
     ·go_enter Tryz.func216,Tryz.ntmps216;go_wp2_with fail;refine hp.out.mono ?_;rintro e w1 ⟨rfl,hT1,hk1⟩;go_wp2_with fail;refine (h1.out _ hT1).mono ?_;rintro e w2 ⟨rfl,hT2,hk2⟩;go_wp2_with fail;refine (hl0.out _).mono ?_;rintro e w3 ⟨rfl,rfl⟩;go_wp2_with fail;go_ret;exact ⟨.inl ⟨_,hly.out trivial,by rw [←HSTR.out];simp,by rw [HLEN.out];exact hT2⟩,hk1.trans hk2⟩
  ·have hnone:Hid (J7 s.data.toList=none):=hg.out.trans (if_neg (fun h=>by rw [hbb.1 h.2.2] at hc;simp at hc));clear hg hbb;have h1:=Ja (fun (w:World) hT=>Q3 b s n.length w hs hT hlt);generalize n.length=len at *;go_enter Tryz.func216,Tryz.ntmps216;go_wp2_with fail;refine hp.out.mono ?_;rintro e w1 ⟨rfl,hT1,hk1⟩;go_wp2_with fail;refine (h1.out _ hT1).mono ?_;rintro e w2 ⟨rfl,hT2,hk2⟩;go_wp2_with fail;refine (Zp _).mono ?_;rintro e w3 ⟨rfl,rfl⟩;go_wp2_with fail;exact ⟨rfl,.inr ⟨hnone.out,rfl,_,hT2⟩,hk1.trans hk2⟩
 ·have hnone:=Ja (hend.out (by omega));clear hend hget;have h1:=Ja (fun (w:World) hT=>JkP b s n.length w hT (by omega));generalize n.length=len at *;go_enter Tryz.func216,Tryz.ntmps216;go_wp2_with fail;refine hp.out.mono ?_;rintro e w1 ⟨rfl,hT1,hk1⟩;go_wp2_with fail;refine (h1.out _ hT1).mono ?_;rintro e w2 ⟨rfl,m,rfl⟩;go_wp2_with fail;exact ⟨rfl,.inr ⟨hnone.out,rfl,_,hT1⟩,hk1.drewN _⟩
def YG (w:World) (p:Nat) (x:ByteArray):Prop:=w.heap[p]?=some (.cells #[.string x] 9 (0,0))
theorem YG.lt {w:World} {p:Nat} {x:ByteArray} (h:YG w p x):p<w.heap.size:=lt_of_block h
theorem YG.keeps {S:List Nat} {w w':World} {p:Nat} {x:ByteArray} (h:YG w p x) (hk:Jb S w w') (hp:p∉S):YG w' p x:=by
 rw [YG,hk.block p h.lt hp];exact h
theorem YG.cell {w:World} {p:Nat} {x:ByteArray} (h:YG w p x):w.cell? ⟨p,0,none⟩=some (.string x):=cell_of_one h
theorem Jo9 (c:UInt8):((c.toNat:Int).toNat.toUInt8)=c:=by simp
theorem JnP (p:Nat) (ends:ByteArray) (c:UInt8) (w:World) (h:YG w p ends):
  Calls Tryz.prog 286 #[.int .u8 c.toNat,.pointer (some ⟨p,0,none⟩)] w fun e w'=>e=.returned (.bool (decide (Lib.indexByte ends.data.toList c<0)))∧w'=w:=by
 have c0:=h.cell;have hi:=Ja (fun w=>Tryz.strings_IndexByte ends (c.toNat:Int) w);rw [Jo9] at hi;generalize Lib.indexByte ends.data.toList c=r at *;go_enter Tryz.func286,Tryz.ntmps286;go_wp2_with (go_at_call 287;refine (hi.out _).mono ?_;rintro e w' ⟨rfl,rfl⟩);go_ret;exact ⟨by simp,rfl⟩
theorem Jki (b:Nat) (s:ByteArray) (k:Nat) (ends:ByteArray) (f:UInt8→Bool) (hf: ∀ c,decide (Lib.indexByte ends.data.toList c<0)=f c) (w:World) (hs:s.size≤3000) (hT:Jf w b s k) (hk:k≤s.size):
  Calls Tryz.prog 217 #[.pointer (some ⟨b,0,none⟩),.string ends] w fun e w'=>
   e=.returned (.string ⟨((s.data.toList.drop k).takeWhile f).toArray⟩)∧Jf w' b s (k+((s.data.toList.drop k).takeWhile f).length)∧Jb [b] w w':=by
 have hka:Jb [] w (w.alloc (.cells #[.string ends] 9)):=(Jb.refl [] w).alloc _;have hS:YG (w.alloc (.cells #[.string ends] 9)) w.heap.size ends:=heap_alloc_new _ _;have hmf: ∀ (fn:Fn) (first cap:Array Value) (w:World),(Instr.makeFunc fn first cap).run Tryz.prog w=.ok (.func fn first cap) w:=fun _ _ _ _=>rfl;have hp:=Ja (JbM 286 #[.pointer (some ⟨w.heap.size,0,none⟩)] f b s k (w.alloc (.cells #[.string ends] 9)) hs (hT.keeps hka (by simp)) hk Jp8 fun c w1 hk1=>
  (JnP w.heap.size ends c w1 (hS.keeps hk1 (by have:=hT.lt;simp;omega))).mono fun e w' ⟨he,hw⟩=>⟨by rw [he,hf],0,hw⟩)
 rw [Jen] at hp;clear hS hf;go_enter Tryz.func217,Tryz.ntmps217;go_wp2_with fail;refine hp.out.mono ?_;rintro e w1 ⟨rfl,hT1,hk1⟩;go_wp2_with fail;go_ret;exact ⟨rfl,hT1,(hka.mono (T:=[b]) (by simp)).trans hk1⟩
theorem JtH: ∀ c:UInt8,decide (Lib.indexByte (⟨#[47,63,35]⟩:ByteArray).data.toList c<0)=JfO c:=Jfj (by decide+kernel)
theorem Jss: ∀ c:UInt8,decide (Lib.indexByte (⟨#[63,35]⟩:ByteArray).data.toList c<0)=Jb7 c:=Jfj (by decide+kernel)
theorem Jsq: ∀ c:UInt8,decide (Lib.indexByte (⟨#[35]⟩:ByteArray).data.toList c<0)=JaN c:=Jfj (by decide+kernel)
def JbP (u:QH):Array Value:=#[.string ⟨u.scheme.toArray⟩,.string ⟨u.authority.toArray⟩,.string ⟨u.path.toArray⟩,.string ⟨u.query.toArray⟩,.string ⟨u.fragment.toArray⟩,.bool u.hs,.bool u.ha,.bool u.hq,.bool u.hf]
def Jrp (u:QH):Value:=.agg (JbP u)
def JN (w:World) (q:Nat) (u:QH):Prop:=w.heap[q]?=some (.cells #[.string ⟨u.scheme.toArray⟩,.string ⟨u.authority.toArray⟩,.string ⟨u.path.toArray⟩,.string ⟨u.query.toArray⟩,.string ⟨u.fragment.toArray⟩,.bool u.hs,.bool u.ha,.bool u.hq,.bool u.hf] 99 (0,0))
theorem JN.lt {w:World} {q:Nat} {u:QH} (h:JN w q u):q<w.heap.size:=lt_of_block h
theorem JN.keeps {S:List Nat} {w w':World} {q:Nat} {u:QH} (h:JN w q u) (hk:Jb S w w') (hq:q∉S):JN w' q u:=by
 rw [JN,hk.block q h.lt hq];exact h
theorem JN.free {w:World} {q:Nat} {u:QH} (h:JN w q u) (j:Nat):w.frozen? ⟨q,j,none⟩=false:=by
 simp [World.frozen?,JN] at h ⊢;simp [h]
theorem JN.cell {w:World} {q:Nat} {u:QH} (h:JN w q u) (j:Nat):w.cell? ⟨q,j,none⟩=(JbP u)[j]?:=by
 simp [World.cell?,JN,JbP] at h ⊢;simp [h]
theorem JN.set0 {w:World} {q:Nat} {u:QH} (h:JN w q u) (x:List UInt8):JN (w.setCell ⟨q,0,none⟩ (.string ⟨x.toArray⟩)) q { u with scheme:=x }:=by
 simp [World.setCell,JN,Array.getElem?_modify] at h ⊢;simp [h]
theorem JN.set1 {w:World} {q:Nat} {u:QH} (h:JN w q u) (x:List UInt8):JN (w.setCell ⟨q,1,none⟩ (.string ⟨x.toArray⟩)) q { u with authority:=x }:=by
 simp [World.setCell,JN,Array.getElem?_modify] at h ⊢;simp [h]
theorem JN.set2 {w:World} {q:Nat} {u:QH} (h:JN w q u) (x:List UInt8):JN (w.setCell ⟨q,2,none⟩ (.string ⟨x.toArray⟩)) q { u with path:=x }:=by
 simp [World.setCell,JN,Array.getElem?_modify] at h ⊢;simp [h]
theorem JN.set3 {w:World} {q:Nat} {u:QH} (h:JN w q u) (x:List UInt8):JN (w.setCell ⟨q,3,none⟩ (.string ⟨x.toArray⟩)) q { u with query:=x }:=by
 simp [World.setCell,JN,Array.getElem?_modify] at h ⊢;simp [h]
theorem JN.set4 {w:World} {q:Nat} {u:QH} (h:JN w q u) (x:List UInt8):JN (w.setCell ⟨q,4,none⟩ (.string ⟨x.toArray⟩)) q { u with fragment:=x }:=by
 simp [World.setCell,JN,Array.getElem?_modify] at h ⊢;simp [h]
theorem JN.set5 {w:World} {q:Nat} {u:QH} (h:JN w q u) (x:Bool):JN (w.setCell ⟨q,5,none⟩ (.bool x)) q { u with hs:=x }:=by
 simp [World.setCell,JN,Array.getElem?_modify] at h ⊢;simp [h]
theorem JN.set6 {w:World} {q:Nat} {u:QH} (h:JN w q u) (x:Bool):JN (w.setCell ⟨q,6,none⟩ (.bool x)) q { u with ha:=x }:=by
 simp [World.setCell,JN,Array.getElem?_modify] at h ⊢;simp [h]
theorem JN.set7 {w:World} {q:Nat} {u:QH} (h:JN w q u) (x:Bool):JN (w.setCell ⟨q,7,none⟩ (.bool x)) q { u with hq:=x }:=by
 simp [World.setCell,JN,Array.getElem?_modify] at h ⊢;simp [h]
theorem JN.set8 {w:World} {q:Nat} {u:QH} (h:JN w q u) (x:Bool):JN (w.setCell ⟨q,8,none⟩ (.bool x)) q { u with hf:=x }:=by
 simp [World.setCell,JN,Array.getElem?_modify] at h ⊢;simp [h]
def JaT (w:World) (p b:Nat):Prop:=w.heap[p]?=some (.cells #[.pointer (some ⟨b,0,none⟩)] 105 (0,0))
theorem JaT.lt {w:World} {p b:Nat} (h:JaT w p b):p<w.heap.size:=lt_of_block h
theorem JaT.keeps {S:List Nat} {w w':World} {p b:Nat} (h:JaT w p b) (hk:Jb S w w') (hp:p∉S):JaT w' p b:=by
 rw [JaT,hk.block p h.lt hp];exact h
theorem JaT.cell {w:World} {p b:Nat} (h:JaT w p b):w.cell? ⟨p,0,none⟩=some (.pointer (some ⟨b,0,none⟩)):=cell_of_one h
theorem Jjm (p q b:Nat) (u:QH) (s:ByteArray) (w:World) (hs:s.size≤3000) (hP:JaT w p b) (hU:JN w q u) (hT:Jf w b s 0) (hqb:q≠b):
  Calls Tryz.prog 215 #[.pointer (some ⟨p,0,none⟩),.pointer (some ⟨q,0,none⟩)] w fun e w'=>
   (e=.returned (.tuple #[])∧(∃ n,J7 s.data.toList=some n∧Jf w' b s (n.length+1)∧JN w' q { u with scheme:=n })∨
     e=.panicked Yq∧(J7 s.data.toList=none∧JN w' q u)∧ ∃ j,Jf w' b s j)∧Jb [b,q] w w':=by
 have c0:=hP.cell;have hsc:=Ja (fun (w:World) hT=>JnJ b s w hs hT);go_enter Tryz.func215,Tryz.ntmps215;go_wp2_with fail;refine (hsc.out _ hT).mono ?_;rintro e w1 ⟨⟨n,hn,rfl,hT1⟩ | ⟨hn,rfl,j,hT1⟩,hk1⟩
 ·have hU1:=hU.keeps hk1 (by simpa using hqb);have f0:=hU1.free 0;have d0:w1.cell? ⟨q,0,none⟩=some (.string ⟨u.scheme.toArray⟩):=hU1.cell 0;go_wp2_with fail
  go_end0
  refine ⟨.inl ⟨rfl,n,hn,?_,hU1.set0 n⟩,?_⟩
  ·exact hT1.keeps (((Jb.refl [q] w1).setCell (p:=⟨q,0,none⟩) (by simp) _)) (by simpa using hqb.symm)
  ·exact (hk1.mono (T:=[b,q]) (by simp)).setCell (by simp) _
 ·have hU1:=hU.keeps hk1 (by simpa using hqb);go_wp2_with fail;exact ⟨rfl,.inr ⟨rfl,⟨hn,hU1⟩,j,hT1⟩,hk1.mono (by simp)⟩
end Go.Proofs.YtlcljanibjdejaaGreat
