/- ShelfTells holds: the law returns true for every input, and each argument reads behind the call as it read before; no condition. A part of its proof. -/
import Derived.Test.YtlcljanibjdejaaGreatSt15
set_option maxHeartbeats 64000000
namespace Go.Proofs.YtlcljanibjdejaaGreat
open Go.RowKit Go.Maps
def Zs (ns:List Nd) (t:List UInt8):List Nd:=
 match ns.getLast? with
 | some n=>if n.name=[] then ns.dropLast++[.mk n.name n.attrs (n.text++t) n.kids] else ns++[Xn t]
 | none=>ns++[Xn t]
theorem Jru (ns:List Nd) (n:Nd) (t:List UInt8) (h:n.name≠[]):Zs (ns++[n]) t=ns++[n]++[Xn t]:=by simp [Zs,h]
theorem Jkn (ns:List Nd) (n:Nd) (t:List UInt8) (h:n.name=[]):Zs (ns++[n]) t=ns++[.mk n.name n.attrs (n.text++t) n.kids]:=by simp [Zs,h]
theorem Jrv (ns:List Nd) (t:List UInt8) (h:QA ns=false):Zs ns t=ns++[Xn t]:=by
 unfold Zs;unfold QA at h;cases hl:ns.getLast? with
 | none=>rfl
 | some n=>
   rw [hl] at h;simp only;rw [if_neg];intro h0;simp [h0] at h
def JaS (os:List (List UInt8)) (n:List UInt8):Nat:=JZ (· ==n) (fun _=>false) os
def bo (ts:List Tok):Nat→Nat→List (List UInt8)→List Nd→List Nd × Nat × Nat
 | 0,k,os,acc=>(acc,k,os.length)
 | f+1,k,os,acc=>
   if h:k<ts.length then
    if ts[k].kind=1 then bo ts f (k+1) os (Zs acc ts[k].text)
    else if ts[k].kind=3 then
     if JaS os ts[k].name<os.length then (acc,k+1,JaS os ts[k].name) else bo ts f (k+1) os acc
    else if Jm os ts[k].name<os.length then (acc,k,Jm os ts[k].name)
    else if os.length=8 then bo ts f (k+1) os acc
    else if Qm ts[k].name=true then bo ts f (k+1) os (acc++[.mk ts[k].name ts[k].attrs [] []])
    else if (bo ts f (k+1) (os++[ts[k].name]) []).2.2<os.length then
     (acc++[.mk ts[k].name ts[k].attrs [] (bo ts f (k+1) (os++[ts[k].name]) []).1],(bo ts f (k+1) (os++[ts[k].name]) []).2.1,(bo ts f (k+1) (os++[ts[k].name]) []).2.2)
    else bo ts f (bo ts f (k+1) (os++[ts[k].name]) []).2.1 os (acc++[.mk ts[k].name ts[k].attrs [] (bo ts f (k+1) (os++[ts[k].name]) []).1])
   else (acc,k,os.length)
theorem Jb2 (ts:List Tok): ∀ (f k:Nat) (os:List (List UInt8)) (acc:List Nd),k≤(bo ts f k os acc).2.1∧(bo ts f k os acc).2.2≤os.length∧(k≤ts.length→(bo ts f k os acc).2.1≤ts.length)
 | 0,k,os,acc=>⟨Nat.le_refl _,Nat.le_refl _,fun h=>h⟩
 | f+1,k,os,acc=>by
   unfold bo;split
   ·next h=>
    split
    ·have:=Jb2 ts f (k+1) os (Zs acc ts[k].text);exact ⟨by omega,this.2.1,fun _=>this.2.2 (by omega)⟩
    ·split
     ·split
      ·next h3=>exact ⟨by simp,by simpa using Nat.le_of_lt h3,fun _=>by simp only;omega⟩
      ·have:=Jb2 ts f (k+1) os acc;exact ⟨by omega,this.2.1,fun _=>this.2.2 (by omega)⟩
     ·split
      ·next h3=>exact ⟨by simp,by simpa using Nat.le_of_lt h3,fun _=>by simp only;omega⟩
      ·split
       ·have:=Jb2 ts f (k+1) os acc;exact ⟨by omega,this.2.1,fun _=>this.2.2 (by omega)⟩
       ·split
        ·have:=Jb2 ts f (k+1) os (acc++[.mk ts[k].name ts[k].attrs [] []]);exact ⟨by omega,this.2.1,fun _=>this.2.2 (by omega)⟩
        ·have h1:=Jb2 ts f (k+1) (os++[ts[k].name]) [];generalize bo ts f (k+1) (os++[ts[k].name]) []=r at *;split
         ·next h3=>exact ⟨by simp only;omega,by simp only;omega,fun _=>h1.2.2 (by omega)⟩
         ·have h2:=Jb2 ts f r.2.1 os (acc++[.mk ts[k].name ts[k].attrs [] r.1]);exact ⟨by omega,h2.2.1,fun _=>h2.2.2 (h1.2.2 (by omega))⟩
   ·exact ⟨by simp,by simp,fun h=>by simpa using h⟩
theorem JbM (ts:List Tok): ∀ (f f' k:Nat) (os:List (List UInt8)) (acc:List Nd),ts.length - k<f→ts.length - k<f'→bo ts f k os acc=bo ts f' k os acc
 | 0,_,_,_,_,h,_=>by omega
 | _+1,0,_,_,_,_,h=>by omega
 | f+1,f'+1,k,os,acc,h,h'=>by
   rw [bo,bo];split
   ·next hk=>
    have e1: ∀ os acc,bo ts f (k+1) os acc=bo ts f' (k+1) os acc:=fun os acc=>JbM ts f f' (k+1) os acc (by omega) (by omega);simp only [e1];have h1:=Jb2 ts f' (k+1) (os++[ts[k].name]) [];generalize bo ts f' (k+1) (os++[ts[k].name]) []=r at *;rw [JbM ts f f' r.2.1 os _ (by omega) (by omega)]
   ·rfl
def JbQ (s:St) (us:List Tok):List Nd:=((us.foldl St.step s).close (us.foldl St.step s).up.length).endText.cur.kids
theorem Jmx (ts:List Tok):JP ts=JbQ St.start ts:=by
 unfold JP JbQ St.closeFrom;rw [Nat.add_sub_cancel]
theorem Jrh (s:St) (h:s.up≠[]):JbQ s []=JbQ s.pop []:=by
 unfold JbQ;simp only [List.foldl_nil,Jcl];cases hu:s.up with
 | nil=>exact absurd hu h
 | cons o r=>rfl
theorem JpA {s:St} (h:QA s.cur.kids=false) (t:List UInt8) (ht:t≠[]):({ s with text:=s.text++t }:St).endText.cur.kids=Zs s.endText.cur.kids t:=by
 unfold St.endText;by_cases h0:s.text=[]
 ·rw [if_pos h0,h0,List.nil_append,if_neg ht,Jrv _ _ h];rfl
 ·rw [if_neg h0,if_neg (by simp [h0])];simp only [Op.put];rw [Jkn _ _ _ (by simp [Xn,Nd.name])];rfl
theorem JmF (s:St):s.close 0=s:=rfl
theorem Jgx (s:St):Qo (s.endText.cur::s.up)=Qo (s.cur::s.up):=by
 cases s.up with
 | nil=>rfl
 | cons p r=>simp only [Qo,Ze]
theorem JnP {s:St} {t:Tok} (h:YQ s) (h1:t.kind≠1) (h3:t.kind=2):s.step t=(s.close (s.up.length - Jm (Qo (s.cur::s.up)) t.name)).step t:=by
 have hl:=ZZ (s.cur::s.up);rw [List.length_cons,Nat.add_sub_cancel] at hl;have hle:=Jdk (Qo (s.cur::s.up)) t.name;have hd:=Jgc _ t.name (Jh7 _ h.1);have hcf:s.closeFrom (Jm s.names t.name)=s.close (s.up.length - Jm (Qo (s.cur::s.up)) t.name):=by
  unfold St.closeFrom;rw [JbJ s h,Jbj]
  congr 1
  omega
 have hg:=Jbq _ s h (Nat.sub_le s.up.length (Jm (Qo (s.cur::s.up)) t.name));have hn:=Jgb h _ (Nat.sub_le s.up.length (Jm (Qo (s.cur::s.up)) t.name));rw [show s.up.length - (s.up.length - Jm (Qo (s.cur::s.up)) t.name)=Jm (Qo (s.cur::s.up)) t.name from by omega] at hn;unfold St.step;rw [if_neg h1,if_pos h3,if_neg h1,if_pos h3];unfold St.openTag;rw [hcf];rw [←hn] at hd;have hlen:=congrArg List.length hn;rw [List.length_take] at hlen;generalize s.close (s.up.length - Jm (Qo (s.cur::s.up)) t.name)=u at *;have hl2:=ZZ (u.cur::u.up);rw [List.length_cons,Nat.add_sub_cancel] at hl2;have hcu:u.closeFrom (Jm u.names t.name)=u:=by
  unfold St.closeFrom;rw [JbJ u hg,Jbj,show u.up.length+1 - (Jm (Qo (u.cur::u.up)) t.name+1)=0 from by omega];rfl
 rw [hcu]
theorem Jsu: ∀ c:List Op,Ch c→(Qo c).length≤8
 | [],_=>by simp [Qo]
 | [_],_=>by simp [Qo]
 | o::p::r,h=>by
   simp only [Ch] at h;rw [Qo,List.length_append,List.length_singleton];omega
theorem JcW (ts:List Tok) (hts: ∀ t∈ts,Xi t=0): ∀ (f k:Nat) (s:St) (os:List (List UInt8)) (acc:List Nd),ts.length - k<f→k≤ts.length→YQ s→Qo (s.cur::s.up)=os→s.endText.cur.kids=acc→
  ∃ u:St,YQ u∧u.up=s.up∧u.cur.name=s.cur.name∧u.cur.attrs=s.cur.attrs∧u.endText.cur.kids=(bo ts f k os acc).1∧((bo ts f k os acc).2.2=os.length→(bo ts f k os acc).2.1=ts.length)∧JbQ s (ts.drop k)=JbQ (u.close (os.length - (bo ts f k os acc).2.2)) (ts.drop (bo ts f k os acc).2.1)
 | 0,_,_,_,_,h,_,_,_,_=>by omega
 | f+1,k,s,os,acc,hf,hk,hg,ho,ha=>by
   have hl:=ZZ (s.cur::s.up);rw [List.length_cons,Nat.add_sub_cancel,ho] at hl;rw [bo];split
   ·next hlt=>
    have ht:=hts _ (List.getElem_mem hlt);have hdr:ts.drop k=ts[k]::ts.drop (k+1):=List.drop_eq_getElem_cons hlt;have hgs:=JiS hg ht;have hfs:JbQ s (ts.drop k)=JbQ (s.step ts[k]) (ts.drop (k+1)):=by rw [hdr];rfl
    generalize ts[k]=t at *;split
    ·next h1=>
     have hst:s.step t={ s with text:=s.text++t.text }:=by unfold St.step;rw [if_pos h1]
     have htx:t.text≠[]:=by
      intro h0;unfold Xi at ht;rw [if_pos h1] at ht;simp [h0] at ht
     rw [hst] at hfs hgs;obtain ⟨u,q1,q2,q3,q4,q5,q6,q7⟩:=JcW ts hts f (k+1) { s with text:=s.text++t.text } os (Zs acc t.text) (by omega) (by omega) hgs ho (by rw [JpA hg.2 _ htx,ha]);exact ⟨u,q1,q2,q3,q4,q5,q6,hfs.trans q7⟩
    ·next h1=>
     split
     ·next h3=>
      have hst:s.step t=s.close (os.length - JaS os t.name):=by
       unfold St.step;rw [if_neg h1,if_neg (by omega)];unfold St.closeTag St.closeFrom;have hn:t.name≠[]:=by
        unfold Xi at ht;rw [if_neg h1,if_neg (by omega),if_pos h3] at ht;split at ht
        ·simp at ht
        ·next hc=>
         simp only [not_or,Bool.not_eq_false] at hc;exact Z9 hc.2.2
       rw [JbJ s hg,ho,JaD _ _ (by simpa using hn.symm)]
       congr 1
       unfold JaS;omega
      split
      ·next h4=>exact ⟨s,hg,rfl,rfl,rfl,ha,fun h=>by simp only at h;omega,by rw [hfs,hst]⟩
      ·next h4=>
       have h5:os.length - JaS os t.name=0:=by omega
       rw [h5] at hst;rw [hst] at hfs;obtain ⟨u,q1,q2,q3,q4,q5,q6,q7⟩:=JcW ts hts f (k+1) s os acc (by omega) (by omega) hg ho ha;exact ⟨u,q1,q2,q3,q4,q5,q6,hfs.trans q7⟩
     ·next h3=>
      have h2:t.kind=2:=by
       unfold Xi at ht;rw [if_neg h1] at ht;split at ht
       ·next h=>exact h
       ·simp at ht
      split
      ·next h4=>
       refine ⟨s,hg,rfl,rfl,rfl,ha,fun h=>by simp only at h;omega,?_⟩;rw [hfs,JnP hg h1 h2,ho, ←hl];show _=JbQ (s.close (os.length - Jm os t.name)) (ts.drop k);rw [hdr];rfl
      ·next h4=>
       have hcl:Jm os t.name=os.length:=by have:=Jdk os t.name;omega
       have hst:s.step t=if 8<s.up.length+1 then s else s.openIn t:=by
        unfold St.step;rw [if_neg h1,if_pos h2];unfold St.openTag;have hcf:s.closeFrom (Jm s.names t.name)=s:=by
         unfold St.closeFrom;rw [JbJ s hg,Jbj,ho,hcl,show s.up.length+1 - (os.length+1)=0 from by omega];rfl
        rw [hcf]
       have h8:os.length≤8:=by rw [←ho];exact Jsu _ hg.1
       split
       ·next h5=>
        rw [if_pos (by omega)] at hst;rw [hst] at hfs;obtain ⟨u,q1,q2,q3,q4,q5,q6,q7⟩:=JcW ts hts f (k+1) s os acc (by omega) (by omega) hg ho ha;exact ⟨u,q1,q2,q3,q4,q5,q6,hfs.trans q7⟩
       ·next h5=>
        rw [if_neg (by omega)] at hst;split
        ·next h6=>
         have hst2:s.step t=s.endText.put (.mk t.name t.attrs [] []):=by rw [hst];unfold St.openIn;rw [if_pos h6]
         rw [hst2] at hfs hgs
         obtain ⟨u,q1,q2,q3,q4,q5,q6,q7⟩:=JcW ts hts f (k+1) (s.endText.put (.mk t.name t.attrs [] [])) os (acc++[.mk t.name t.attrs [] []]) (by omega) (by omega) hgs
          (by
            have:=Jgx s;rw [ho] at this;rw [←this];show Qo (s.endText.cur.put _::s.endText.up)=_;rw [QG];cases s.up<;>rfl)
          (by
            have e:(s.endText.put (.mk t.name t.attrs [] [])).text=[]:=by
             unfold St.put St.endText;split
             ·next h=>exact h
             ·rfl
            unfold St.endText at e ⊢;rw [if_pos e];rw [←ha];unfold St.endText;rfl)
         have e1:s.endText.cur.attrs=s.cur.attrs:=by unfold St.endText;split<;>rfl
         exact ⟨u,q1,by rw [q2];exact QG s,by rw [q3];exact Ze s,by rw [q4];exact e1,q5,q6,hfs.trans q7⟩
        ·next h6=>
         have hst2:s.step t=⟨s.endText.cur::s.up,⟨t.name,t.attrs,[]⟩,[]⟩:=by rw [hst];unfold St.openIn;rw [if_neg h6]
         rw [hst2] at hfs hgs;have hge:=Jb2 ts f (k+1) (os++[t.name]) []
         obtain ⟨u,q1,q2,q3,q4,q5,q6,q7⟩:=JcW ts hts f (k+1) ⟨s.endText.cur::s.up,⟨t.name,t.attrs,[]⟩,[]⟩ (os++[t.name]) [] (by omega) (by omega) hgs
          (by rw [Qo,Jgx,ho]) rfl
         rw [List.length_append,List.length_singleton] at q6 q7 hge;generalize bo ts f (k+1) (os++[t.name]) []=r at *;have hpop:u.pop=⟨s.up,s.endText.cur.put (.mk t.name t.attrs [] r.1),[]⟩:=by
          unfold St.pop;rw [q2];simp only;have e0:u.endText.cur.attrs=u.cur.attrs:=by unfold St.endText;split<;>rfl
          rw [Op.nd,Ze,q3,e0,q4,q5]
         have hgp:=JgI q1 (by rw [q2];simp);have e1:s.endText.cur.attrs=s.cur.attrs:=by unfold St.endText;split<;>rfl
         have hpk:u.pop.endText.cur.kids=acc++[.mk t.name t.attrs [] r.1]:=by
          rw [hpop, ←ha];rfl
         split
         ·next h7=>
          refine ⟨u.pop,hgp,by rw [hpop],by rw [hpop];exact Ze s,by rw [hpop];exact e1,hpk,fun h=>by simp only at h;omega,?_⟩;rw [hfs,q7,show os.length+1 - r.2.2=(os.length - r.2.2)+1 from by omega];rfl
         ·next h7=>
          have har:Qo (u.pop.cur::u.pop.up)=os:=by
           rw [hpop];have:=Jgx s;rw [ho] at this;rw [←this];cases s.up<;>rfl
          have hfu:JbQ s (ts.drop k)=JbQ u.pop (ts.drop r.2.1):=by
           rw [hfs,q7];rcases Nat.lt_or_ge os.length r.2.2 with h9 | h9
           ·have h10:r.2.2=os.length+1:=by omega
            rw [q6 h10,h10,Nat.sub_self,List.drop_length];exact Jrh u (by rw [q2];simp)
           ·rw [show os.length+1 - r.2.2=1 from by omega];rfl
          obtain ⟨v,p1,p2,p3,p4,p5,p6,p7⟩:=JcW ts hts f r.2.1 u.pop os (acc++[.mk t.name t.attrs [] r.1]) (by omega) (hge.2.2 (by omega)) hgp har hpk;exact ⟨v,p1,by rw [p2,hpop],by rw [p3,hpop];exact Ze s,by rw [p4,hpop];exact e1,p5,p6,hfu.trans p7⟩
   ·next hlt=>
    have:k=ts.length:=by omega
    exact ⟨s,hg,rfl,rfl,rfl,ha,fun _=>this,by simp only [Nat.sub_self,JmF]⟩
theorem Jq2 (ts:List Tok) (hts: ∀ t∈ts,Xi t=0) (f:Nat) (hf:ts.length<f):(bo ts f 0 [] []).1=JP ts:=by
 obtain ⟨u,q1,q2,q3,q4,q5,q6,q7⟩:=JcW ts hts f 0 St.start [] [] (by omega) (Nat.zero_le _) Jhq rfl rfl;have h2:=(Jb2 ts f 0 [] []).2.1;have h3:(bo ts f 0 [] []).2.2=([]:List (List UInt8)).length:=by simpa using h2
 rw [q6 h3,h3,List.drop_length,List.drop_zero,Nat.sub_self] at q7;rw [Jmx,q7, ←q5];unfold JbQ;simp only [List.foldl_nil,St.close];rw [q2];rfl
def Jh8 (w:World) (B:Nat) (ov:Value) (l:List Pn) (M:Nat) (tx:List UInt8) (e:Ending) (w':World):Prop:=
 ∃ o' c' l',e=.returned (.slice o' l'.length c')∧Y4 w' B (.slice o' l'.length c') l'∧l'.map Pn.nd=Zs (l.map Pn.nd) tx∧l'.length≤l.length+1∧(∀ q∈l',q.nd.text.length≤M+tx.length)∧
  ((Value.slice o' l'.length c').ownBlock=ov.ownBlock∨ ∃ g,(Value.slice o' l'.length c').ownBlock=some g∧w.heap.size≤g)∧Jb ov.ownBlock.toList w w'
theorem Jgm {w w':World} {B:Nat} {ov:Value} {l:List Pn} {M:Nat} {tx:List UInt8} {e:Ending} (hG:Zs (l.map Pn.nd) tx=l.map Pn.nd++[Xn tx]) (hM: ∀ q∈l,q.nd.text.length≤M) (h:JjL w B ov l tx e w'):Jh8 w B ov l M tx e w':=by
 obtain ⟨v',rfl,hO,hw,hk⟩:=h;obtain ⟨o',c',rfl⟩:=Jg hO.row;refine ⟨o',c',l++[txP tx],rfl,hO,?_,by simp,fun q hq=>?_,hw,hk⟩
 ·rw [hG,List.map_append];rfl
 ·rcases List.mem_append.1 hq with hq | hq
  ·have:=hM q hq;omega
  ·simp at hq;subst hq;simp [txP,Nd.text]
theorem JjA (B:Nat) (c:Nat) (o:Option Addr) (l:List Pn) (M:Nat) (tx:List UInt8) (w:World) (h:Y4 w B (.slice o l.length c) l) (hM: ∀ q∈l,q.nd.text.length≤M) (hll:l.length≤1000000) (hB:B≤w.heap.size) (hqt:M+tx.length≤1000000000):
  Calls Tryz.prog 176 #[.slice o l.length c,txV tx] w fun e w'=>Jh8 w B (.slice o l.length c) l M tx e w':=by
 rcases List.eq_nil_or_concat l with rfl | ⟨l0,q,rfl⟩
 ·exact (Jko B c o tx w h hB).mono fun e w' h9=>Jgm rfl hM h9
 ·rw [List.concat_eq_append] at *;have e1:(l0++[q]).length=l0.length+1:=by simp
  rw [e1] at h ⊢;by_cases hq:q.nd.name=[]
  ·refine (Jlx B c o l0 q tx w h hq (by simp at hll;omega) hB (by have:=hM q (by simp);omega)).mono ?_;rintro e w' ⟨v',g,rfl,hO,hw,hge,hk⟩;obtain ⟨o',c',rfl⟩:=Jg hO.row;refine ⟨o',c',l0++[txQ q tx],rfl,hO,?_,by simp,fun p hp=>?_,.inr ⟨g,hw,hge⟩,hk.to (by simp)⟩
   ·rw [List.map_append,List.map_append];exact (Jkn _ _ _ hq).symm
   ·rcases List.mem_append.1 hp with hp | hp
    ·have:=hM p (by simp [hp]);omega
    ·simp at hp;subst hp;have:=hM q (by simp);simp [txQ,Nd.text] at this ⊢;omega
  ·exact (Jlw B c o l0 q tx w h hq (by simp at hll;omega) hB).mono fun e w' h9=>by
    have:=Jgm (M:=M) (tx:=tx) (by rw [List.map_append];exact Jru _ _ _ hq) hM h9;simpa using this
theorem JsA {ts:List Tok} {m k:Nat} {os:List (List UInt8)} {acc:List Nd} (hk:k<ts.length) (hm:ts.length - k≤m) (h1:ts[k].kind=1):bo ts (m+1) k os acc=bo ts (m+1) (k+1) os (Zs acc ts[k].text):=by
 rw [bo,dif_pos hk,if_pos h1];exact JbM ts _ _ _ _ _ (by omega) (by omega)
theorem Jq3 {ts:List Tok} {m k:Nat} {os:List (List UInt8)} {acc:List Nd} (hk:k<ts.length) (h3:ts[k].kind=3) (hl:JaS os ts[k].name<os.length):bo ts (m+1) k os acc=(acc,k+1,JaS os ts[k].name):=by
 rw [bo,dif_pos hk,if_neg (by omega),if_pos h3,if_pos hl]
theorem Jok {ts:List Tok} {m k:Nat} {os:List (List UInt8)} {acc:List Nd} (hk:k<ts.length) (hm:ts.length - k≤m) (h3:ts[k].kind=3) (hl: ¬ JaS os ts[k].name<os.length):bo ts (m+1) k os acc=bo ts (m+1) (k+1) os acc:=by
 rw [bo,dif_pos hk,if_neg (by omega),if_pos h3,if_neg hl];exact JbM ts _ _ _ _ _ (by omega) (by omega)
theorem Jsz {ts:List Tok} {m k:Nat} {os:List (List UInt8)} {acc:List Nd} (hk:k<ts.length) (h1:ts[k].kind≠1) (h3:ts[k].kind≠3) (hl:Jm os ts[k].name<os.length):bo ts (m+1) k os acc=(acc,k,Jm os ts[k].name):=by
 rw [bo,dif_pos hk,if_neg h1,if_neg h3,if_pos hl]
theorem Jsy {ts:List Tok} {m k:Nat} {os:List (List UInt8)} {acc:List Nd} (hk:k<ts.length) (hm:ts.length - k≤m) (h1:ts[k].kind≠1) (h3:ts[k].kind≠3) (hl: ¬ Jm os ts[k].name<os.length) (h8:os.length=8):bo ts (m+1) k os acc=bo ts (m+1) (k+1) os acc:=by
 rw [bo,dif_pos hk,if_neg h1,if_neg h3,if_neg hl,if_pos h8];exact JbM ts _ _ _ _ _ (by omega) (by omega)
theorem Jq4 {ts:List Tok} {m k:Nat} {os:List (List UInt8)} {acc:List Nd} (hk:k<ts.length) (hm:ts.length - k≤m) (h1:ts[k].kind≠1) (h3:ts[k].kind≠3) (hl: ¬ Jm os ts[k].name<os.length) (h8:os.length≠8) (he:Qm ts[k].name=true):bo ts (m+1) k os acc=bo ts (m+1) (k+1) os (acc++[.mk ts[k].name ts[k].attrs [] []]):=by
 rw [bo,dif_pos hk,if_neg h1,if_neg h3,if_neg hl,if_neg h8,if_pos he];exact JbM ts _ _ _ _ _ (by omega) (by omega)
theorem JtH {ts:List Tok} {m k:Nat} {os:List (List UInt8)} {acc:List Nd} (hk:k<ts.length) (hm:ts.length - k≤m) (h1:ts[k].kind≠1) (h3:ts[k].kind≠3) (hl: ¬ Jm os ts[k].name<os.length) (h8:os.length≠8) (he:Qm ts[k].name=false) {r:List Nd × Nat × Nat} (hr:bo ts m (k+1) (os++[ts[k].name]) []=r):
  (r.2.2<os.length→bo ts (m+1) k os acc=(acc++[.mk ts[k].name ts[k].attrs [] r.1],r.2.1,r.2.2))∧
  (¬ r.2.2<os.length→bo ts (m+1) k os acc=bo ts (m+1) r.2.1 os (acc++[.mk ts[k].name ts[k].attrs [] r.1]))∧k+1≤r.2.1∧r.2.1≤ts.length∧r.2.2≤os.length+1:=by
 have hge:=Jb2 ts m (k+1) (os++[ts[k].name]) [];rw [hr,List.length_append,List.length_singleton] at hge;rw [bo,dif_pos hk,if_neg h1,if_neg h3,if_neg hl,if_neg h8,if_neg (by rw [he];decide),hr];refine ⟨fun h=>by rw [if_pos h],fun h=>?_,hge.1,hge.2.2 (by omega),hge.2.1⟩;rw [if_neg h];exact JbM ts _ _ _ _ _ (by omega) (by omega)
theorem Jti {ts:List Tok} {m k:Nat} {os:List (List UInt8)} {acc:List Nd} (hk: ¬ k<ts.length):bo ts (m+1) k os acc=(acc,k,os.length):=by
 rw [bo,dif_neg hk]
theorem JgR {P:Program} (w:World) (t ty e:TypeId) (i:TypeInfo) (ht:P.underlying t=some (.slice e)) (hi:P.info? e=some i) (g n cap:Nat) (hn:n≤cap) (a:Option Addr) (c:Nat):
  (Builtin.append_ #[t,t] ty #[.slice (some ⟨g,0,none⟩) n cap,.slice a 0 c]).run P w=.ok (.slice (some ⟨g,0,none⟩) n cap) w:=by
 cases a<;>simp [Builtin.append_,run_underlying ht,sizeOf,typeInfo,hi,Builtin.lenOf,Builtin.firstCells,loadCells,loadCellsFrom,hn,storeCells]
theorem Jio {P:Program} (w:World) (base:Nat) (t ty e:TypeId) (i:TypeInfo) (z:Value) (size bytes:Nat) (ht:P.underlying t=some (.slice e)) (hi:P.info? e=some i) (hz:i.zero=some z)
  (hsize:i.size=size) (hby:i.bytes=bytes) (hzs:z.cells.size=size) (hsz:0<size)
  (v:Value) (n:Nat) (xs:List Value) (hown:w.ownsRow base e size v n xs)
  (va:Value) (m:Nat) (ys:List Value) (hl:Jh w va m size ys) (h1: ∀ u∈ys,u.oneCell'=true)
  (h63:n+m≤maxLen) (hbytes:(n+m) * bytes≤140737488355328) (hbase:base≤w.heap.size):
  ∃ v' w',(Builtin.append_ #[t,t] ty #[v,va]).run P w=.ok v' w'∧w'.ownsRow base e size v' (n+m) (xs++ys)∧w.grownBy w' v.ownBlock∧(v'.ownBlock=v.ownBlock∨v'.ownBlock=some w.heap.size):=by
 obtain ⟨ao,ac,rfl,_,_⟩:=hl.form;rcases Nat.eq_zero_or_pos m with h0 | h0
 ·subst h0;have hy:ys=[]:=List.eq_nil_of_length_eq_zero (by have:=hl.1;omega);subst hy;have hr:(Builtin.append_ #[t,t] ty #[v,.slice ao 0 ac]).run P w=.ok v w:=by
   rcases hown.2 with ⟨rfl,rfl⟩ | ⟨g,cap,cur,rfl,_,_,hn,_⟩
   ·exact ZB w t ty e i ht hi ao ac
   ·exact JgR w t ty e i ht hi g n cap hn ao ac
  exact ⟨v,w,hr,by rw [Nat.add_zero,List.append_nil];exact hown,⟨rfl,rfl,rfl,Nat.le_refl _,fun _ _ _=>rfl⟩,.inl rfl⟩
 ·obtain ⟨g,off,rfl,hc⟩:=hl.addr h0;obtain ⟨v',w',hr,h2,h3,_,h5⟩:=run_append_own_at (P:=P) w base t ty e i z size bytes ht hi hz hsize hby hzs hsz v n xs hown ⟨g,off,none⟩ m ac ys hl.1 (fun j u hj=>by rw [Addr.add_lit];exact hc j u hj) h1 h63 hbytes hbase;exact ⟨v',w',hr,h2,h3,h5⟩
theorem Qq {P:Program} {ops:Array Oper} {o:Oper} {a:Act} {w:World} {K:Act→World→Prop} {Q:Exit→Act→World→Prop} {E:Prop} (hg:o.guard=none) (s x:Operand) (t:TypeId)
  (ho:o.op=.call { callee:=.builtin .append,args:=#[s,x],argTypes:=#[t,t] })
  (base:Nat) (e:TypeId) (i:TypeInfo) (z:Value) (size bytes:Nat) (ht:P.underlying t=some (.slice e)) (hi:P.info? e=some i) (hz:i.zero=some z)
  (hsize:i.size=size) (hby:i.bytes=bytes) (hzs:z.cells.size=size) (hsz:0<size)
  (v:Value) (n:Nat) (xs:List Value) (hs:a.eval s=v) (hown:w.ownsRow base e size v n xs)
  (va:Value) (m:Nat) (ys:List Value) (hx:a.eval x=va) (hl:Jh w va m size ys) (h1: ∀ u∈ys,u.oneCell'=true)
  (h63:n+m≤maxLen) (hbytes:(n+m) * bytes≤140737488355328) (hbase:base≤w.heap.size)
  (h: ∀ v' w',w'.ownsRow base e size v' (n+m) (xs++ys)→w.grownBy w' v.ownBlock→(v'.ownBlock=v.ownBlock∨v'.ownBlock=some w.heap.size)→K (a.put o.dst v') w'):
  if Region.wanted o (yielded ops a.tmps)=true then Oper.wp P o a w K Q else E:=by
 refine JcQ hg ?_;obtain ⟨v',w',hr,h2,h3,h5⟩:=Jio (P:=P) w base t o.type e i z size bytes ht hi hz hsize hby hzs hsz v n xs hown va m ys hl h1 h63 hbytes hbase;unfold Oper.wp execOp;simp only [ho,resolve,invoke,builtin,Sem.run_bind,Sem.run_pure,Result.andThen_ok,List.map_toArray,List.map_cons,List.map_nil,hs,hx,hr];exact h v' w' h2 h3 h5
theorem Zn (W:World) (B:Nat) (e:TypeId) (z:Nat) (hB:B≤W.heap.size):(W.alloc (.cells #[] e)).ownsRow B e z (.slice (some ⟨W.heap.size,0,none⟩) 0 0) 0 []:=
 ⟨by simp,.inr ⟨W.heap.size,0,#[],rfl,hB,heap_alloc_new W _,Nat.le_refl _,Nat.zero_le _,by simp,by simp⟩⟩
def JgZ (w:World) (R:List Nd × Nat × Nat) (e:Ending) (w':World):Prop:=
 ∃ (o:Option Addr) (c:Nat),e=.returned (.tuple #[.slice o R.1.length c,.int .i64 R.2.1,.int .i64 R.2.2])∧Ns w' (fun g=>w.heap.size≤g) (.slice o R.1.length c) R.1∧Jb [] w w'
structure Y8 (w wr:World) (k:Nat) (ov:Value) (l:List Pn):Prop where
 out:Y4 wr w.heap.size ov l
 len:l.length≤k
 txt: ∀ q∈l,q.nd.text.length≤40000 * k
 kp:Jb [] w wr
theorem Y8.keeps {w wr w':World} {k:Nat} {ov:Value} {l:List Pn} (h:Y8 w wr k ov l) (hk:Jb [] wr w'):Y8 w w' k ov l:=⟨h.out.keepsNil hk,h.len,h.txt,h.kp.trans hk⟩
theorem Y8.next {w wr:World} {k k':Nat} {ov:Value} {l:List Pn} (h:Y8 w wr k ov l) (hk:k≤k'):Y8 w wr k' ov l:=⟨h.out,Nat.le_trans h.len hk,fun q hq=>Nat.le_trans (h.txt q hq) (Nat.mul_le_mul_left _ hk),h.kp⟩
theorem Y8.built {w wr:World} {k:Nat} {o:Option Addr} {c:Nat} {l:List Pn} (h:Y8 w wr k (.slice o l.length c) l) {R:List Nd × Nat × Nat} {k' left:Nat} (hR:(l.map Pn.nd,k',left)=R):JgZ w R (.returned (.tuple #[.slice o l.length c,.int .i64 k',.int .i64 left])) wr:=by
 subst hR;exact ⟨o,c,by simp,by simpa using h.out.ns,h.kp⟩
theorem Y8.joined {w wr w':World} {k:Nat} {ov:Value} {l:List Pn} {tx:List UInt8} {e:Ending} (h:Y8 w wr k ov l) (hj:Jh8 wr w.heap.size ov l (40000 * k) tx e w') (ht:tx.length≤40000):
  ∃ o' c' l',e=.returned (.slice o' l'.length c')∧l'.map Pn.nd=Zs (l.map Pn.nd) tx∧Y8 w w' (k+1) (.slice o' l'.length c') l':=by
 obtain ⟨o',c',l',he,hO,hG,hl,hM,hw,hk⟩:=hj;refine ⟨o',c',l',he,hG,hO,by have:=h.len;omega,fun q hq=>by have:=hM q hq;omega,JF h.kp hk (fun g hg hlt=>?_)⟩;have:=(h.out.row.lt g (by simpa using hg)).1;omega
theorem Y8.push {w wr w':World} {k k':Nat} {o:Option Addr} {c:Nat} {l:List Pn} {q:Pn} {av:Value} (h:Y8 w wr k (.slice o l.length c) l) (hk:Jb (Value.slice o l.length c).ownBlock.toList wr w') (hlt:k<k') (ho:w'.ownsRow w.heap.size 45 4 av (l.length+1) (Jk l++Qd q)) (hw:av.ownBlock=(Value.slice o l.length c).ownBlock∨ ∃ n,av.ownBlock=some n∧wr.heap.size≤n)
  (hqa:QB wr (Qp w.heap.size (Value.slice o l.length c).ownBlock.toList) q.av q.nd.attrs.length 2 (Jj q.nd.attrs)) (hqk:Ns wr (Qp w.heap.size (Value.slice o l.length c).ownBlock.toList) q.kv q.nd.kids) (ht:q.nd.text=[]):
  ∃ o' c',av=.slice o' (l++[q]).length c'∧Y8 w w' k' (.slice o' (l++[q]).length c') (l++[q]):=by
 have hO:=h.out.push hk ho hw hqa hqk;obtain ⟨o',c',rfl⟩:=Jg ho;refine ⟨o',c',by simp,⟨by simpa using hO,by have:=h.len;simp;omega,fun p hp=>?_,JF h.kp hk (fun g hg hlt2=>?_)⟩⟩
 ·rcases List.mem_append.1 hp with hp | hp
  ·have h1:=h.txt p hp;have h2:40000 * k≤40000 * k':=Nat.mul_le_mul_left _ (by omega);omega
  ·simp at hp;subst hp;simp [ht]
 ·have:=(h.out.row.lt g (by simpa using hg)).1;omega
theorem Jtk {is hides:List UInt8→Bool} {os:List (List UInt8)} {k m F:Nat} (hk:k<os.length) (h:dn is hides os m (k+1)=F):(if is os[k]=true then k else if hides os[k]=true then m else dn is hides os m k)=F:=by
 unfold dn at h;rw [show os.getD k []=os[k] from by simp [List.getD_eq_getElem?_getD,hk]] at h;exact h
theorem JsB {ts:List Tok} {m k:Nat} {os:List (List UInt8)} {acc:List Nd} {R:List Nd × Nat × Nat} (hk:k<ts.length) (hm:ts.length - k≤m) (hR:bo ts (m+1) k os acc=R) (t:Tok) (ht:ts[k]=t):
  (t.kind=1→bo ts (m+1) (k+1) os (Zs acc t.text)=R)∧
  (t.kind=3→(JaS os t.name<os.length→(acc,k+1,JaS os t.name)=R)∧(¬ JaS os t.name<os.length→bo ts (m+1) (k+1) os acc=R))∧
  (t.kind≠1→t.kind≠3→(Jm os t.name<os.length→(acc,k,Jm os t.name)=R)∧(¬ Jm os t.name<os.length→
    (os.length=8→bo ts (m+1) (k+1) os acc=R)∧(os.length≠8→(Qm t.name=true→bo ts (m+1) (k+1) os (acc++[.mk t.name t.attrs [] []])=R)∧
      (Qm t.name=false→ ∀ r,bo ts m (k+1) (os++[t.name]) []=r→(r.2.2<os.length→(acc++[.mk t.name t.attrs [] r.1],r.2.1,r.2.2)=R)∧
        (¬ r.2.2<os.length→bo ts (m+1) r.2.1 os (acc++[.mk t.name t.attrs [] r.1])=R)∧k+1≤r.2.1∧r.2.1≤ts.length∧r.2.2≤os.length+1)))):=by
 subst ht;subst hR;refine ⟨fun h1=>(JsA hk hm h1).symm,fun h3=>⟨fun hl=>(Jq3 hk h3 hl).symm,fun hl=>(Jok hk hm h3 hl).symm⟩,fun h1 h3=>⟨fun hl=>(Jsz hk h1 h3 hl).symm,fun hl=>⟨fun h8=>(Jsy hk hm h1 h3 hl h8).symm,fun h8=>⟨fun he=>(Jq4 hk hm h1 h3 hl h8 he).symm,fun he r hr=>?_⟩⟩⟩⟩;obtain ⟨q1,q2,q3⟩:=JtH (acc:=acc) hk hm h1 h3 hl h8 he hr;exact ⟨fun h=>(q1 h).symm,fun h=>(q2 h).symm,q3⟩
theorem Jih (l:List Pn) (q:Pn):(l++[q]).map Pn.nd=l.map Pn.nd++[q.nd]:=by simp
structure JqW (W wx:World) (nb:Nat) (nm:List UInt8) (at':List Jw) (o3:Option Addr) (c3:Nat):Prop where
 blk:wx.heap[nb]?=some (.cells #[.string ⟨nm.toArray⟩,.slice o3 at'.length c3,.string ⟨#[]⟩,.slice none 0 0] 45 (0,0))
 ge:W.heap.size≤nb
 row:wx.ownsRow W.heap.size 52 2 (.slice o3 at'.length c3) at'.length (Jj at')
 kp:Jb [] W wx
theorem JrY {W:World} {nb:Nat} {u0 u1 u2 u3 v0 v1 v2 v3:Value} (h:W.heap[nb]?=some (.cells #[u0,u1,u2,u3] 45 (0,0))):
  ((((W.setCell ⟨nb,0,none⟩ v0).setCell ⟨nb,1,none⟩ v1).setCell ⟨nb,2,none⟩ v2).setCell ⟨nb,3,none⟩ v3).heap[nb]?=some (.cells #[v0,v1,v2,v3] 45 (0,0)):=by
 simp [World.setCell,Array.getElem?_modify,h]
theorem JfE {W:World} {S:List Nat} {a:World} (h:Jb S a W) {nb:Nat} (hn:nb∈S∨a.heap.size≤nb) (v0 v1 v2 v3:Value):Jb S a ((((W.setCell ⟨nb,0,none⟩ v0).setCell ⟨nb,1,none⟩ v1).setCell ⟨nb,2,none⟩ v2).setCell ⟨nb,3,none⟩ v3):=
 (((h.setCell hn _).setCell hn _).setCell hn _).setCell hn _
theorem Jrx {W w3:World} {nm:List UInt8} {at':List Jw} {o3:Option Addr} {c3:Nat} (ho3:w3.ownsRow W.heap.size 52 2 (.slice o3 at'.length c3) at'.length (Jj at')) (hk:Jb [] W w3):JqW W (w3.alloc (.cells #[.string ⟨nm.toArray⟩,.slice o3 at'.length c3,.string ⟨#[]⟩,.slice none 0 0] 45)) w3.heap.size nm at' o3 c3:=
 ⟨heap_alloc_new _ _,hk.size,ho3.alloc _,hk.alloc _⟩
theorem Jry {W w3:World} {nb:Nat} {nm:List UInt8} {at':List Jw} {o3:Option Addr} {c3:Nat} (hb:w3.heap[nb]?=some (.cells #[.string ⟨#[]⟩,.slice none 0 0,.string ⟨#[]⟩,.slice none 0 0] 45 (0,0))) (hge:W.heap.size≤nb) (ho3:w3.ownsRow W.heap.size 52 2 (.slice o3 at'.length c3) at'.length (Jj at')) (hk:Jb [] W w3):
  JqW W ((((w3.setCell ⟨nb,0,none⟩ (.string ⟨nm.toArray⟩)).setCell ⟨nb,1,none⟩ (.slice o3 at'.length c3)).setCell ⟨nb,2,none⟩ (.string ⟨#[]⟩)).setCell ⟨nb,3,none⟩ (.slice none 0 0)) nb nm at' o3 c3:=
 ⟨JrY hb,hge,(JfE (Jb.refl [nb] w3) (.inl (by simp)) _ _ _ _).owns ho3 (fun g hg hm=>by simp at hm;subst hm;exact Jt ho3 hb (by decide) hg),JfE hk (.inr hge) _ _ _ _⟩
theorem JkY (w:World) (a b:Obj):((w.alloc a).alloc b).heap[w.heap.size]?=some a:=by
 rw [((Jb.refl [] (w.alloc a)).alloc b).block w.heap.size (by simp) List.not_mem_nil];exact heap_alloc_new w a
theorem JkZ (w:World) (a b:Obj):((w.alloc a).alloc b).heap[w.heap.size+1]?=some b:=by
 have:=heap_alloc_new (w.alloc a) b;simpa using this
theorem Jtp:(Tryz.prog.info? 9).map (fun i=>(i.zero,i.size,i.bytes))=some (some (.string ⟨#[]⟩),1,16):=by kernel_rfl
theorem JqD (os:List (List UInt8)): ∀ u∈YP os,u.oneCell'=true:=by
 intro u hu;simp only [YP,List.mem_map] at hu;obtain ⟨a,_,rfl⟩:=hu;rfl
theorem JhY (os:List (List UInt8)) (x:List UInt8):YP os++[.string ⟨x.toArray⟩]=YP (os++[x]):=by simp [YP]
theorem Ja6 {w:World} {g:Nat} {cs:Array Value} {t:TypeId} {n z:Nat} (h:w.heap[g]?=some (.cells cs t (0,0))) (hn:cs.toList.length=n * z) (hm:n≤maxLen):Jh w (.slice (some ⟨g,0,none⟩) n n) n z cs.toList:=
 ⟨hn,.inr (.inl ⟨g,0,n,rfl,Nat.le_refl _,hm,fun j u hj=>by rw [Nat.zero_add,Jd h j];simpa using hj⟩)⟩
theorem JpG {W wx:World} {B:Nat} {at':List Jw} {o3:Option Addr} {c3:Nat} {ov:Value} {l:List Pn} (h:Y4 W B ov l) (hBW:B≤W.heap.size) (hrow:wx.ownsRow W.heap.size 52 2 (.slice o3 at'.length c3) at'.length (Jj at')):QB wx (Qp B ov.ownBlock.toList) (.slice o3 at'.length c3) at'.length 2 (Jj at'):=
 QB.of_row hrow (fun g hg=>⟨Nat.le_trans hBW (hrow.lt g hg).1,fun hm=>by have:=(h.row.lt g (by simpa using hm)).2;have:=(hrow.lt g hg).1;omega⟩)
@[reducible] def SBX (W:World) (b:Nat) (v1 v2:Value) (w':World):Prop:=Jb [] W w'∧w'.cell? ⟨b,1,none⟩=some v1∧w'.cell? ⟨b,2,none⟩=some v2
theorem SBX.of {W w':World} {b:Nat} {v1 v2:Value} (h1:W.cell? ⟨b,1,none⟩=some v1) (h2:W.cell? ⟨b,2,none⟩=some v2) (hk:Jb [] W w'):SBX W b v1 v2 w':=⟨hk,Jc hk h1,Jc hk h2⟩
set_option maxRecDepth 8000 in
theorem Jmy (w0:World) (ts:List Tok) (tl:List (Tok × Value)) (hts:tl.map (·.1)=ts) (vo:Option Addr) (vc:Nat) (hl:Jh w0 (.slice vo tl.length vc) tl.length 4 (JT tl)) (ha: ∀ p∈tl,Jh w0 p.2 p.1.attrs.length 2 (Jj p.1.attrs)) (ht: ∀ p∈tl,p.1.text.length≤40000) (hal: ∀ p∈tl,p.1.attrs.length≤1000000) (hn:tl.length≤20000):
  ∀ (m at0:Nat),at0≤tl.length→tl.length - at0<m→ ∀ (w:World),Jb [] w0 w→ ∀ (os:List (List UInt8)) (oo:Option Addr) (oc:Nat),Jh w (.slice oo os.length oc) os.length 1 (YP os)→os.length≤8→
   Calls Tryz.prog 90 #[.slice vo tl.length vc,.int .i64 at0,.slice oo os.length oc] w fun e w'=>JgZ w (bo ts m at0 os []) e w':=by
 intro m
 induction m with
 | zero=>
   intro at0 h0 hm w hkw os oo oc hos hol;omega
 | succ m ih=>
   intro at0 h0 hm w hkw os oo oc hos hol;have htl:ts.length=tl.length:=by rw [←hts,List.length_map]
   have hti: ∀ k (h1:k<ts.length) (h:k<tl.length),ts[k]=tl[k].1:=fun k h1 h=>by simp [←hts]
   obtain ⟨R,hR⟩: ∃ R,bo ts (m+1) at0 os []=R:=⟨_,rfl⟩;rw [hR];have HR0:Hid (bo ts (m+1) at0 os (([]:List Pn).map Pn.nd)=R):=Ja hR;have HTL:=Ja htl;have HTI:=Ja hti;have HI:=Ja ih;have HL:=Ja hl;have HA:=Ja ha;have HT:=Ja ht;have HN:=Ja hal;have HO:=Ja hos;have HKW:=Ja hkw;have hb0:Y8 w w at0 (.slice none 0 0) []:=⟨Y4.start _ _,by simp,by simp,Jb.refl _ _⟩;have HB0:=Ja hb0;clear ih hl ha ht hal hos hkw hb0 hR hti htl hts;go_enter Tryz.func90,Tryz.ntmps90;go_wp2_with fail;go_loopw [1,9] (fun a ov wr=> ∃ (k:Nat) (l:List Pn) (o:Option Addr) (c:Nat),a=.int .i64 k∧at0≤k∧k≤tl.length∧ov=.slice o l.length c∧Hid (Y8 w wr k (.slice o l.length c) l)∧Hid (bo ts (m+1) k os (l.map Pn.nd)=R)) (fun a _ _=>tl.length - (intOf a).toNat)
   case atStart=>exact ⟨at0,[],none,0,rfl,Nat.le_refl _,h0,rfl,HB0,HR0⟩
   case round=>
    obtain ⟨k,l,o,c,rfl,hk0,hk,rfl,hB,HR⟩:=hrel;obtain ⟨wo,hwo⟩: ∃ wo,wo=wr:=⟨_,rfl⟩;subst hwo;clear HB0 HR0;by_cases hlt:k<tl.length
    ·obtain ⟨g,x,rfl,hcl⟩:=(HL.out.keeps (HKW.out.trans hB.out.kp)).addr (by omega);obtain ⟨t0,t1,t2,t3⟩:=JbS hcl k hlt;have hwy:=JsB (by have:=HTL.out;omega) (by have:=HTL.out;omega) HR.out _ (HTI.out k (by have:=HTL.out;omega) hlt);have hm9:=List.getElem_mem hlt;have hat:=(HA.out _ hm9).keeps (HKW.out.trans hB.out.kp);have htx:=HT.out _ hm9;have hna:=HN.out _ hm9;clear hcl hm9 HR;generalize tl[k]=p at *;obtain ⟨⟨kd,nm,at',tx⟩,av⟩:=p;simp only at t0 t1 t2 t3 hat htx hna hwy;obtain ⟨w1y,w3y,wey⟩:=hwy;have HW1:=Ja w1y;have HW3:=Ja w3y;have HWE:=Ja wey;clear w1y w3y wey;obtain ⟨ao,ac,hav,_,_⟩:=hat.form;subst hav;have hkA:Jb [] wo (wo.alloc (.cells #[.int .i64 kd,.string ⟨nm.toArray⟩,.slice ao at'.length ac,.string ⟨tx.toArray⟩] 117)):=(Jb.refl [] wo).alloc _;have hbA:=heap_alloc_new wo (.cells #[.int .i64 kd,.string ⟨nm.toArray⟩,.slice ao at'.length ac,.string ⟨tx.toArray⟩] 117);have HB2:=Ja (hB.out.keeps hkA);have HBA:=Ja hbA;have HKA:=Ja hkA;have HAT:=Ja hat;have hll:l.length≤1000000:=by have:=hB.out.len;omega
     clear hbA hkA hat;by_cases hk1:kd=1
     ·subst hk1;have hj:=Ja (JjA w.heap.size c o l (40000 * k) tx _ HB2.out.out HB2.out.txt hll HB2.out.kp.size (by omega));have hnx:=HW1.out rfl;have HNX:=Ja hnx;clear hnx HW1 HW3 HWE;unfold txV at hj;go_wp2_with fail;refine hj.out.mono ?_;rintro e w2 h2;obtain ⟨o',c',l',rfl,hmp,hB3⟩:=HB2.out.joined h2 htx;have HB3:=Ja hB3;have hnx:=HNX.out;rw [←hmp] at hnx;have HNX:=Ja hnx;clear h2 hB3 hmp hnx;go_wp2_with fail;refine ⟨⟨k+1,l',o',c',by go_num,by omega,by omega,rfl,HB3,HNX⟩,?_⟩;simp [intOf];omega
     ·by_cases hk3:kd=3
      ·subst hk3;obtain ⟨F,hF⟩: ∃ F,JaS os nm=F:=⟨_,rfl⟩;have hw3:=HW3.out rfl;rw [hF] at hw3;have HX3:=Ja hw3;have HF:=Ja (show dn (· ==nm) (fun _=>false) os os.length os.length=F from by rw [←JgJ];exact hF);clear hF hw3 HW1 HWE HW3;go_wp2_with fail;go_loopw [11] (fun i wr=>ZR os.length (dn (· ==nm) (fun _=>false) os os.length) F i∧Hid (Jb [] (wo.alloc (.cells #[.int .i64 3,.string ⟨nm.toArray⟩,.slice ao at'.length ac,.string ⟨tx.toArray⟩] 117)) wr)) (fun i _=>(intOf i+1).toNat)
       case atStart=>exact ⟨ZR.start _ (by go_num) (Nat.le_refl _) HF.out,Ja (Jb.refl _ _)⟩
       case round=>
        obtain ⟨hd,hkr⟩:=hrel;rcases hd with ⟨rfl,hz⟩ | ⟨j,hj,rfl,hz⟩
        ·have hfin:=Ja (HB2.out.keeps hkr.out);have hnx:=Ja (HX3.out.2 (by have h9:os.length=F:=hz;omega));clear hz HX3 HF;go_wp2_with fail
         go_quiet (fail)
         go_wp2_with fail;refine ⟨⟨k+1,l,o,c,by go_num,by omega,by omega,rfl,Ja ((hfin.out.keeps ((Jb.refl [] wr).drewN _)).next (by omega)),hnx⟩,?_⟩;simp [intOf];omega
        ·have hb2:=(hkr.out.block _ (lt_of_block HBA.out) List.not_mem_nil).trans HBA.out;have n1:wr.cell? ⟨wo.heap.size,1,none⟩=some (.string ⟨nm.toArray⟩):=Jd hb2 1;obtain ⟨og,ox,rfl,hoc⟩:=((HO.out.keeps (HB2.out.kp.trans hkr.out))).addr (by omega);have q0:=hoc _ _ (Jey os j hj);simp only [Nat.mul_one] at q0;have hs:=Ja (Jtk hj hz);clear hoc hb2 hz;have hfin:=Ja (HB2.out.keeps hkr.out);have hkd:=hkr;generalize os[j]=q at *;by_cases he:q=nm
         ·have hse:((⟨q.toArray⟩:ByteArray).toList==(⟨nm.toArray⟩:ByteArray).toList)=true:=by rw [Jca];simpa using he
          have heb:(q==nm)=true:=by simpa using he
          have hjF:j=F:=by have:=hs.out;simpa [heb] using this
          have hnx:=Ja (HX3.out.1 (by omega));rw [←hjF] at hnx;clear he hs hjF HX3 HF;go_wp2_with fail
          go_quiet (fail)
          go_wp2_with fail
          go_ret3
          exact (hfin.out.keeps ((Jb.refl [] wr).drewN _)).built hnx.out
         ·have hse:((⟨q.toArray⟩:ByteArray).toList==(⟨nm.toArray⟩:ByteArray).toList)=false:=by rw [Jca];simpa using he
          have heb:(q==nm)=false:=by simpa using he
          have hed:decide (q=nm)=false:=by simpa using he
          have h7:=Ja (show dn (· ==nm) (fun _=>false) os os.length j=F from by have:=hs.out;simpa [heb] using this);clear he hs;go_wp2_with fail
          go_quiet (fail)
          go_wp2_with fail;refine ⟨⟨ZR.start j (by go_num) (by omega) h7.out,Ja (hkd.out.trans ((Jb.refl [] wr).drewN _))⟩,?_⟩;simp [intOf]
      ·have hcl9:=Ja (Jlj nm os oo oc (wo.alloc (.cells #[.int .i64 kd,.string ⟨nm.toArray⟩,.slice ao at'.length ac,.string ⟨tx.toArray⟩] 117)) ((HO.out.keeps HB2.out.kp)) (by omega));have hwe:=HWE.out hk1 hk3;obtain ⟨st,hst⟩: ∃ st,Jm os nm=st:=⟨_,rfl⟩;have hstl:st≤os.length:=by rw [←hst];exact Jdk os nm
       rw [hst] at hcl9 hwe;have HE1:=Ja hwe;clear hst hwe HW1 HW3 HWE;go_wp2_with fail;refine hcl9.out.mono ?_;rintro e w2 ⟨rfl,h9⟩;subst h9;by_cases hsl:st<os.length
       ·have hnx:=Ja (HE1.out.1 hsl);clear HE1 hcl9;go_wp2_with fail
        go_ret3
        exact HB2.out.built hnx.out
       ·have hse:st=os.length:=by omega
        have hwe:=HE1.out.2 hsl;have HE2:=Ja hwe;clear hwe hcl9 HE1;subst hse;by_cases h8:os.length=8
        ·have e8:((os.length:Int)==8)=true:=by rw [h8];rfl
         have hgo:=Ja (HB2.out.next (k':=k+1) (by omega));have hnx:=Ja (HE2.out.1 h8);clear h8 HE2;go_wp2_with fail;refine ⟨⟨k+1,l,o,c,by go_num,by omega,by omega,rfl,hgo,hnx⟩,?_⟩;simp [intOf];omega
        ·have e8:((os.length:Int)==8)=false:=by simp;omega
         have hwe:=HE2.out.2 h8;have HE3:=Ja hwe;clear hwe HE2;obtain ⟨i0,hi,hz0,hz1,hz2⟩:=info_parts Jkk;obtain ⟨WW,hWW⟩: ∃ WW,(wo.alloc (.cells #[.int .i64 kd,.string ⟨nm.toArray⟩,.slice ao at'.length ac,.string ⟨tx.toArray⟩] 117))=WW:=⟨_,rfl⟩;have hlen:=JeK at';have h1c:=JgN at';go_upto_region 19 with fail;rw [hWW] at HB2 HBA HKA
         try rw [hWW]
         have m1:WW.cell? ⟨wo.heap.size,1,none⟩=some (.string ⟨nm.toArray⟩):=Jd HBA.out 1;have m2:WW.cell? ⟨wo.heap.size,2,none⟩=some (.slice ao at'.length ac):=Jd HBA.out 2;have hlw:=lt_of_block HBA.out;have hatW:=Ja (HAT.out.keeps HKA.out);have HWWx:=Ja hWW;clear hWW
         go_cut [13] from 77 to 83 (fun pv wx=> ∃ nb o3 c3,pv=.pointer (some ⟨nb,0,none⟩)∧Hid (JqW WW wx nb nm at' o3 c3))
         case rest=>
          obtain ⟨nb,o3,c3,rfl,hM⟩:=hcut;have HB3:=Ja (HB2.out.keeps hM.out.kp);have d1:=Jc hM.out.kp m1;have d2:=Jc hM.out.kp m2;have n0:=Jd hM.out.blk 0;have n1:=Jd hM.out.blk 1;have n2:=Jd hM.out.blk 2;have n3:=Jd hM.out.blk 3;simp at n0 n1 n2 n3;obtain ⟨i4,hi4,hz04,hz14,hz24⟩:=info_parts Jbs;have hie:=Ja (Jfq nm);have hBWW:w.heap.size≤WW.heap.size:=HB2.out.kp.size;cases he:Qm nm
          ·rw [he] at hie;obtain ⟨r,hr⟩: ∃ r,bo ts m (k+1) (os++[nm]) []=r:=⟨_,rfl⟩;have hel:=HE3.out.2 he r hr;have HEL:=Ja hel;have hb2:=hel.2.2.1;have hb3:=hel.2.2.2.1;obtain ⟨i5,hi5,hz05,hz15,hz25⟩:=info_parts Jtp;have hosX:=Ja (HO.out.keeps HB3.out.kp);have hs1:=JqD os;have hs2: ∀ u∈([.string ⟨nm.toArray⟩]:List Value),u.oneCell'=true:=by intro u hu;simp at hu;subst hu;rfl
           have hIC:=Ja (fun (w6:World) (hk6:Jb [] wc w6) (o6:Option Addr) (c6:Nat) (h6:Jh w6 (.slice o6 (os.length+1) c6) (os.length+1) 1 (YP (os++[nm])))=>show Calls Tryz.prog 90 #[.slice (some ⟨g,x,none⟩) tl.length vc,.int .i64 ((k:Int)+1),.slice o6 (os.length+1) c6] w6 fun e w'=>JgZ w6 r e w' from by
            have h9:=HI.out (k+1) (by omega) (by omega) w6 ((HKW.out.trans HB3.out.kp).trans hk6) (os++[nm]) o6 c6 (by simpa using h6) (by simp;omega);rw [hr] at h9;simpa using h9)
           have hb3l:r.2.1≤tl.length:=by have:=HTL.out;omega
           clear hel hr HE3 HI;obtain ⟨r1,r2,r3⟩:=r;simp only at hb2 hb3 HEL hIC hb3l;go_wp2_with fail;refine (hie.out _).mono ?_;rintro e w8 ⟨rfl,h8⟩;obtain rfl:wc=w8:=h8.symm;go_upto_region 22 with fail;obtain ⟨wx,hwx⟩: ∃ wx,wx=wc:=⟨_,rfl⟩;subst hwx
           go_cut [14,15,16] from 91 to 104 (fun v14 v15 v16 wz=> ∃ o7 c7,v14=.slice o7 r1.length c7∧v15=.int .i64 r2∧v16=.int .i64 r3∧Hid (Ns wz (fun g=>wx.heap.size≤g) (.slice o7 r1.length c7) r1)∧Hid (Jb [] wx wz))
           case first=>
            have hS0:SBX wx wo.heap.size (.string ⟨nm.toArray⟩) (.slice ao at'.length ac) wx:=SBX.of d1 d2 (Jb.refl [] wx);have hrA:=Ja (Zn wx wx.heap.size 9 1 (Nat.le_refl _));have hrB:=Ja ((Zn wx wx.heap.size 9 1 (Nat.le_refl _)).alloc (.cells #[.string ⟨nm.toArray⟩] 9));have hrC:=Ja (show ((wx.alloc (.cells #[.string ⟨nm.toArray⟩] 9)).alloc (.cells #[] 9)).ownsRow wx.heap.size 9 1 (.slice (some ⟨wx.heap.size+1,0,none⟩) 0 0) 0 [] from by have h9:=Zn (wx.alloc (.cells #[.string ⟨nm.toArray⟩] 9)) wx.heap.size 9 1 (by simp);simpa using h9)
            go_region_held3 (SBX wx wo.heap.size (.string ⟨nm.toArray⟩) (.slice ao at'.length ac)) ((first | assumption | (refine SBX.of d1 d2 ?_;first | exact hkx7 | exact hkx6 | exact hkx.alloc _ | exact hkx | exact (Jb.refl [] wx) | exact (Jb.refl [] wx).drew | exact (‹SBX wx wo.heap.size _ _ _›).1.alloc _ | exact (‹SBX wx wo.heap.size _ _ _›).1.drewN _)))
             (first
               | (refine Qq rfl _ _ 62 (by rfl) wx.heap.size 9 i5 _ 1 16 Tryz.underlying62 hi5 hz05 hz15 hz25 (by kernel_rfl) (by decide) (.slice (some ⟨wx.heap.size,0,none⟩) 0 0) 0 [] (by rfl) hrA.out.drew _ os.length (YP os) (by rfl) (hosX.out.keeps (‹SBX wx wo.heap.size _ _ _›).1) hs1 (by unfold maxLen;omega) (by omega) (‹SBX wx wo.heap.size _ _ _›).1.size ?_;intro v5 w5 ho5 hg5 hw5;try simp only [Nat.zero_add,List.nil_append] at ho5;obtain ⟨o5,c5,hv5⟩:=Jg ho5;subst hv5;have hkA5:Jb [wx.heap.size] (wx.alloc (.cells #[] 9)) w5:=((Jb.refl _ _).drew).grown hg5 (fun i e=>.inl (by simp [Value.ownBlock] at e ⊢;exact e.symm));have hkx:Jb [] wx w5:=JF ((Jb.refl [] wx).alloc _) hkA5 (fun g hg hlt=>by simp at hg;omega))
               | (refine Qq rfl _ _ 62 (by rfl) wx.heap.size 9 i5 _ 1 16 Tryz.underlying62 hi5 hz05 hz15 hz25 (by kernel_rfl) (by decide) (.slice (some ⟨wx.heap.size,0,none⟩) 0 0) 0 [] (by rfl) hrB.out.drew _ os.length (YP os) (by rfl) (hosX.out.keeps (‹SBX wx wo.heap.size _ _ _›).1) hs1 (by unfold maxLen;omega) (by omega) (‹SBX wx wo.heap.size _ _ _›).1.size ?_;intro v5 w5 ho5 hg5 hw5;try simp only [Nat.zero_add,List.nil_append] at ho5;obtain ⟨o5,c5,hv5⟩:=Jg ho5;subst hv5;have hkA5:Jb [wx.heap.size] ((wx.alloc (.cells #[] 9)).alloc (.cells #[.string ⟨nm.toArray⟩] 9)) w5:=((Jb.refl _ _).drew).grown hg5 (fun i e=>.inl (by simp [Value.ownBlock] at e ⊢;exact e.symm));have hkx:Jb [] wx w5:=JF (((Jb.refl [] wx).alloc _).alloc _) hkA5 (fun g hg hlt=>by simp at hg;omega);have hl9:Jh w5 (.slice (some ⟨wx.heap.size+1,0,none⟩) 1 1) 1 1 [.string ⟨nm.toArray⟩]:=Ja6 ((hkA5.block _ (by simp) (by simp)).trans (JkZ wx _ _)) rfl (by unfold maxLen;omega))
               | (refine Qq rfl _ _ 62 (by rfl) wx.heap.size 9 i5 _ 1 16 Tryz.underlying62 hi5 hz05 hz15 hz25 (by kernel_rfl) (by decide) (.slice (some ⟨wx.heap.size+1,0,none⟩) 0 0) 0 [] (by rfl) hrC.out.drew _ os.length (YP os) (by rfl) (hosX.out.keeps (‹SBX wx wo.heap.size _ _ _›).1) hs1 (by unfold maxLen;omega) (by omega) (‹SBX wx wo.heap.size _ _ _›).1.size ?_;intro v5 w5 ho5 hg5 hw5;try simp only [Nat.zero_add,List.nil_append] at ho5;obtain ⟨o5,c5,hv5⟩:=Jg ho5;subst hv5;have hkA5:Jb [wx.heap.size+1] ((wx.alloc (.cells #[.string ⟨nm.toArray⟩] 9)).alloc (.cells #[] 9)) w5:=((Jb.refl _ _).drew).grown hg5 (fun i e=>.inl (by simp [Value.ownBlock] at e ⊢;exact e.symm));have hkx:Jb [] wx w5:=JF (((Jb.refl [] wx).alloc _).alloc _) hkA5 (fun g hg hlt=>by simp at hg;omega);have hl9:Jh w5 (.slice (some ⟨wx.heap.size,0,none⟩) 1 1) 1 1 [.string ⟨nm.toArray⟩]:=Ja6 ((hkA5.block _ (by simp;try omega) (by simp)).trans (JkY wx _ _)) rfl (by unfold maxLen;omega))
               | (refine Qq rfl _ _ 62 (by rfl) wx.heap.size 9 i5 _ 1 16 Tryz.underlying62 hi5 hz05 hz15 hz25 (by kernel_rfl) (by decide) (.slice o5 os.length c5) os.length (YP os) (by rfl) ho5 _ 1 [.string ⟨nm.toArray⟩] (by rfl) hl9 hs2 (by unfold maxLen;omega) (by omega) (‹SBX wx wo.heap.size _ _ _›).1.size ?_;intro v6 w6 ho6 hg6 hw6;obtain ⟨o6,c6,hv6⟩:=Jg ho6;subst hv6;rw [JhY] at ho6;have hkx6:Jb [] wx w6:=JF hkx ((Jb.refl (Value.slice o5 os.length c5).ownBlock.toList _).grown hg6 (fun i e=>.inl (by simp [e]))) (fun g hg hlt=>by have:=(ho5.lt g (by simpa using hg)).1;omega);have hL6:=Jh.of_row ho6)
               | (refine Qq rfl _ _ 62 (by rfl) wx.heap.size 9 i5 _ 1 16 Tryz.underlying62 hi5 hz05 hz15 hz25 (by kernel_rfl) (by decide) (.slice o5 os.length c5) os.length (YP os) (by rfl) (ho5.alloc _) _ 1 [.string ⟨nm.toArray⟩] (by rfl) (Ja6 (heap_alloc_new w5 _) rfl (by unfold maxLen;omega)) hs2 (by unfold maxLen;omega) (by omega) (‹SBX wx wo.heap.size _ _ _›).1.size ?_;intro v6 w6 ho6 hg6 hw6;obtain ⟨o6,c6,hv6⟩:=Jg ho6;subst hv6;rw [JhY] at ho6;have hkx6:Jb [] wx w6:=JF (hkx.alloc _) ((Jb.refl (Value.slice o5 os.length c5).ownBlock.toList _).grown hg6 (fun i e=>.inl (by simp [e]))) (fun g hg hlt=>by have:=(ho5.lt g (by simpa using hg)).1;omega);have hL6:=Jh.of_row ho6)
               | (go_at_call 90;refine (hIC.out w6 hkx6 o6 c6 hL6).mono ?_;rintro e w7 ⟨o7,c7,rfl,hns7,hk7⟩;have hkx7:Jb [] wx w7:=hkx6.trans hk7;have hns8:=hns7.mono (Q:=fun g=>wx.heap.size≤g) (fun g _ hg=>Nat.le_trans hkx6.size hg)))
            all_goals go_wp2_with fail
            all_goals go_meet
            all_goals exact ⟨o7,c7,rfl,rfl,rfl,Ja hns8,Ja hkx7⟩
           case rest=>
            obtain ⟨o7,c7,rfl,rfl,rfl,hNs,hKz⟩:=hcut;have hbz:=(hKz.out.block _ (lt_of_block hM.out.blk) List.not_mem_nil).trans hM.out.blk;have f3:=Jn hbz 3;have e3:=Jd hbz 3;simp at e3;go_upto_region 24 with fail;obtain ⟨W8,hW8⟩: ∃ W8,wc.setCell ⟨nb,3,none⟩ (.slice o7 r1.length c7)=W8:=⟨_,rfl⟩;rw [hW8];have hb8:W8.heap[nb]?=some (.cells #[.string ⟨nm.toArray⟩,.slice o3 at'.length c3,.string ⟨#[]⟩,.slice o7 r1.length c7] 45 (0,0)):=by rw [←hW8];simp [World.setCell,Array.getElem?_modify,hbz]
            have hks8:Jb [nb] wc W8:=by rw [←hW8];exact (Jb.refl [nb] wc).setCell (.inl (by simp)) _
            have hkW8:Jb [] WW W8:=by rw [←hW8];exact (hM.out.kp.trans hKz.out).setCell (.inr hM.out.ge) _
            have HB8:=Ja (HB2.out.keeps hkW8);have hr8:W8.ownsRow WW.heap.size 52 2 (.slice o3 at'.length c3) at'.length (Jj at'):=hks8.owns (hKz.out.owns hM.out.row (fun _ _=>List.not_mem_nil)) (fun g hg hm=>by simp at hm;subst hm;exact Jt (hKz.out.owns hM.out.row (fun _ _=>List.not_mem_nil)) hbz (by decide) hg);have hnbx:=lt_of_block hM.out.blk;have HQ:=Ja (JpG HB2.out.out hBWW hr8);have hWx:WW.heap.size≤wx.heap.size:=hM.out.kp.size;have HNK:=Ja ((hNs.out.keeps hks8 (fun g hg hm=>by simp at hm;omega)).mono (Q:=Qp w.heap.size (Value.slice o l.length c).ownBlock.toList) (fun g _ hg=>⟨by omega,fun hm=>by have:=(HB2.out.out.row.lt g (by simpa using hm)).2;omega⟩));have g0:=Jd hb8 0;have g1:=Jd hb8 1;have g2:=Jd hb8 2;have g3:=Jd hb8 3;simp at g0 g1 g2 g3;clear hbz f3 e3 hb8 hks8 hkW8 hr8 hW8 hNs d1 d2 n0 n1 n2 n3 m1 m2;go_wp2_with (at_builtin;refine Jl _ rfl _ _ 29 rfl w.heap.size 45 i4 _ 4 80 Tryz.underlying29 hi4 hz04 hz14 hz24 (by kernel_rfl) (by decide) (.slice o l.length c) l.length (Jk l) rfl (HB8.out.out.row.alloc _) ⟨W8.heap.size,0,none⟩ 1 1 [.string ⟨nm.toArray⟩,.slice o3 at'.length c3,.string ⟨#[]⟩,.slice o7 r1.length c7] rfl rfl (J9 W8 #[.string ⟨nm.toArray⟩,.slice o3 at'.length c3,.string ⟨#[]⟩,.slice o7 r1.length c7] 45) (by intro u hu;simp at hu;rcases hu with rfl | rfl | rfl | rfl<;>rfl) (by unfold maxLen;omega) (by omega) (by have:=HB8.out.kp.size;simp;omega) ?_);intro v4 w4 ho4 hg4 hw4;have hk4:Jb (Value.slice o l.length c).ownBlock.toList W8 w4:=((Jb.refl _ W8).alloc _).grown hg4 (fun i e=>.inl (by simp [e]));obtain ⟨o4,c4,rfl,hB4⟩:=HB8.out.push (k':=r2) (q:=⟨.mk nm at' [] r1,.slice o3 at'.length c3,.slice o7 r1.length c7⟩) hk4 (by omega) ho4 (by rcases hw4 with h9 | h9;exact .inl h9;exact .inr ⟨_,h9,by simp⟩) HQ.out HNK.out rfl;have HB4:=Ja hB4;clear hB4 hk4 ho4 hg4 hw4;by_cases hlo:r3<os.length
            ·have hnx:=HEL.out.1 hlo;rw [←Jih _ ⟨.mk nm at' [] r1,.slice o3 at'.length c3,.slice o7 r1.length c7⟩] at hnx;have HNX:=Ja hnx;clear hnx HEL;go_wp2_with fail
             go_ret3
             exact HB4.out.built HNX.out
            ·have hnx:=HEL.out.2.1 hlo;rw [←Jih _ ⟨.mk nm at' [] r1,.slice o3 at'.length c3,.slice o7 r1.length c7⟩] at hnx;have HNX:=Ja hnx;clear hnx HEL;go_wp2_with fail;refine ⟨⟨r2,_,o4,c4,rfl,by omega,hb3l,rfl,HB4,HNX⟩,?_⟩;simp [intOf];omega
          ·rw [he] at hie;have hnx:=HE3.out.1 he;have HNX:=Ja hnx;have HQ:=Ja (JpG HB2.out.out hBWW hM.out.row);clear hnx HE3 HI;go_wp2_with fail;refine (hie.out _).mono ?_;rintro e w8 ⟨rfl,h8⟩;obtain rfl:wc=w8:=h8.symm;go_wp2_with (at_builtin;refine Jl _ rfl _ _ 29 rfl w.heap.size 45 i4 _ 4 80 Tryz.underlying29 hi4 hz04 hz14 hz24 (by kernel_rfl) (by decide) (.slice o l.length c) l.length (Jk l) rfl (HB3.out.out.row.alloc _) ⟨wc.heap.size,0,none⟩ 1 1 [.string ⟨nm.toArray⟩,.slice o3 at'.length c3,.string ⟨#[]⟩,.slice none 0 0] rfl rfl (J9 wc #[.string ⟨nm.toArray⟩,.slice o3 at'.length c3,.string ⟨#[]⟩,.slice none 0 0] 45) (by intro u hu;simp at hu;rcases hu with rfl | rfl | rfl | rfl<;>rfl) (by unfold maxLen;omega) (by omega) (by have:=HB3.out.kp.size;simp;omega) ?_);intro v4 w4 ho4 hg4 hw4;have hk4:Jb (Value.slice o l.length c).ownBlock.toList wc w4:=((Jb.refl _ wc).alloc _).grown hg4 (fun i e=>.inl (by simp [e]));obtain ⟨o4,c4,rfl,hB4⟩:=HB3.out.push (k':=k+1) (q:=⟨.mk nm at' [] [],.slice o3 at'.length c3,.slice none 0 0⟩) hk4 (by omega) ho4 (by rcases hw4 with h9 | h9;exact .inl h9;exact .inr ⟨_,h9,by simp⟩) HQ.out (Ns.nil _ _ none 0 (by simp [maxLen])) rfl;have HB4:=Ja hB4;clear hB4 hk4 ho4 hg4 hw4;have hnx:=HNX.out;rw [←Jih _ ⟨.mk nm at' [] [],.slice o3 at'.length c3,.slice none 0 0⟩] at hnx;have HN9:=Ja hnx;clear hnx;go_wp2_with fail;refine ⟨⟨k+1,_,o4,c4,by go_num,by omega,by omega,rfl,HB4,HN9⟩,?_⟩;simp [intOf];omega
         have hS0:SBX WW wo.heap.size (.string ⟨nm.toArray⟩) (.slice ao at'.length ac) WW:=SBX.of m1 m2 (Jb.refl [] WW);have hrA:=Ja (Zn WW WW.heap.size 52 2 (Nat.le_refl _));have hrB:=Ja ((Zn WW WW.heap.size 52 2 (Nat.le_refl _)).alloc (.cells #[.string ⟨#[]⟩,.slice none 0 0,.string ⟨#[]⟩,.slice none 0 0] 45));have hrC:=Ja (show ((WW.alloc (.cells #[.string ⟨#[]⟩,.slice none 0 0,.string ⟨#[]⟩,.slice none 0 0] 45)).alloc (.cells #[] 52)).ownsRow WW.heap.size 52 2 (.slice (some ⟨WW.heap.size+1,0,none⟩) 0 0) 0 [] from by have h9:=Zn (WW.alloc (.cells #[.string ⟨#[]⟩,.slice none 0 0,.string ⟨#[]⟩,.slice none 0 0] 45)) WW.heap.size 52 2 (by simp);simpa using h9)
         go_region_held3 (SBX WW wo.heap.size (.string ⟨nm.toArray⟩) (.slice ao at'.length ac)) ((first | assumption | (refine SBX.of m1 m2 ?_;first | exact (Jb.refl [] WW) | exact (Jb.refl [] WW).drew | exact hkx | exact hkx.alloc _ | exact JfE hkx (.inr hge45) _ _ _ _ | exact (‹SBX WW wo.heap.size _ _ _›).1.alloc _ | exact (‹SBX WW wo.heap.size _ _ _›).1.drewN _)))
          (first
            | (refine Qq rfl _ _ 43 (by rfl) WW.heap.size 52 i0 _ 2 32 Tryz.underlying43 hi hz0 hz1 hz2 (by kernel_rfl) (by decide) (.slice (some ⟨WW.heap.size,0,none⟩) 0 0) 0 [] (by rfl) hrA.out.drew _ at'.length (Jj at') (by rfl) (hatW.out.keeps (‹SBX WW wo.heap.size _ _ _›).1) h1c (by unfold maxLen;omega) (by omega) (‹SBX WW wo.heap.size _ _ _›).1.size ?_;intro v3 w3 ho3 hg3 hw3;obtain ⟨o3,c3,hv3⟩:=Jg ho3;subst hv3;try simp only [Nat.zero_add,List.nil_append] at ho3;have hkA3:Jb [WW.heap.size] (WW.alloc (.cells #[] 52)) w3:=((Jb.refl _ _).drew).grown hg3 (fun i e=>.inl (by simp [Value.ownBlock] at e ⊢;exact e.symm));have hkx:Jb [] WW w3:=JF ((Jb.refl [] WW).alloc _) hkA3 (fun g hg hlt=>by simp at hg;omega))
            | (refine Qq rfl _ _ 43 (by rfl) WW.heap.size 52 i0 _ 2 32 Tryz.underlying43 hi hz0 hz1 hz2 (by kernel_rfl) (by decide) (.slice (some ⟨WW.heap.size,0,none⟩) 0 0) 0 [] (by rfl) hrB.out.drew _ at'.length (Jj at') (by rfl) (hatW.out.keeps (‹SBX WW wo.heap.size _ _ _›).1) h1c (by unfold maxLen;omega) (by omega) (‹SBX WW wo.heap.size _ _ _›).1.size ?_;intro v3 w3 ho3 hg3 hw3;obtain ⟨o3,c3,hv3⟩:=Jg ho3;subst hv3;try simp only [Nat.zero_add,List.nil_append] at ho3;have hkA3:Jb [WW.heap.size] ((WW.alloc (.cells #[] 52)).alloc (.cells #[.string ⟨#[]⟩,.slice none 0 0,.string ⟨#[]⟩,.slice none 0 0] 45)) w3:=((Jb.refl _ _).drew).grown hg3 (fun i e=>.inl (by simp [Value.ownBlock] at e ⊢;exact e.symm));have hkx:Jb [] WW w3:=JF (((Jb.refl [] WW).alloc _).alloc _) hkA3 (fun g hg hlt=>by simp at hg;omega);have hb45:w3.heap[WW.heap.size+1]?=some (.cells #[.string ⟨#[]⟩,.slice none 0 0,.string ⟨#[]⟩,.slice none 0 0] 45 (0,0)):=(hkA3.block _ (by simp) (by simp)).trans (JkZ WW _ _);have hge45:WW.heap.size≤WW.heap.size+1:=Nat.le_succ _;have y0:=Jd hb45 0;have z0:=Jn hb45 0;have y1:=Jd hb45 1;have z1:=Jn hb45 1;have y2:=Jd hb45 2;have z2:=Jn hb45 2;have y3:=Jd hb45 3;have z3:=Jn hb45 3)
            | (refine Qq rfl _ _ 43 (by rfl) WW.heap.size 52 i0 _ 2 32 Tryz.underlying43 hi hz0 hz1 hz2 (by kernel_rfl) (by decide) (.slice (some ⟨WW.heap.size+1,0,none⟩) 0 0) 0 [] (by rfl) hrC.out.drew _ at'.length (Jj at') (by rfl) (hatW.out.keeps (‹SBX WW wo.heap.size _ _ _›).1) h1c (by unfold maxLen;omega) (by omega) (‹SBX WW wo.heap.size _ _ _›).1.size ?_;intro v3 w3 ho3 hg3 hw3;obtain ⟨o3,c3,hv3⟩:=Jg ho3;subst hv3;try simp only [Nat.zero_add,List.nil_append] at ho3;have hkA3:Jb [WW.heap.size+1] ((WW.alloc (.cells #[.string ⟨#[]⟩,.slice none 0 0,.string ⟨#[]⟩,.slice none 0 0] 45)).alloc (.cells #[] 52)) w3:=((Jb.refl _ _).drew).grown hg3 (fun i e=>.inl (by simp [Value.ownBlock] at e ⊢;exact e.symm));have hkx:Jb [] WW w3:=JF (((Jb.refl [] WW).alloc _).alloc _) hkA3 (fun g hg hlt=>by simp at hg;omega);have hb45:w3.heap[WW.heap.size]?=some (.cells #[.string ⟨#[]⟩,.slice none 0 0,.string ⟨#[]⟩,.slice none 0 0] 45 (0,0)):=(hkA3.block _ (by simp;try omega) (by simp)).trans (JkY WW _ _);have hge45:WW.heap.size≤WW.heap.size:=Nat.le_refl _;have y0:=Jd hb45 0;have z0:=Jn hb45 0;have y1:=Jd hb45 1;have z1:=Jn hb45 1;have y2:=Jd hb45 2;have z2:=Jn hb45 2;have y3:=Jd hb45 3;have z3:=Jn hb45 3))
         all_goals go_wp2_with fail
         all_goals go_meet
         all_goals first
          | exact ⟨_,o3,c3,rfl,Ja (Jrx ho3 hkx)⟩
          | exact ⟨_,o3,c3,rfl,Ja (Jry hb45 hge45 ho3 hkx)⟩
    ·have he:k=tl.length:=by omega
     subst he;have hnx:=HR.out;rw [Jti (by have:=HTL.out;omega)] at hnx;have HNX:=Ja hnx;clear hnx HR;go_wp2_with fail
     go_ret3
     exact hB.out.built HNX.out
end Go.Proofs.YtlcljanibjdejaaGreat
