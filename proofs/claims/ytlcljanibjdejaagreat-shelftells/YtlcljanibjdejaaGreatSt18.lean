/- ShelfTells holds: the law returns true for every input, and each argument reads behind the call as it read before; no condition. A part of its proof. -/
import Derived.Test.YtlcljanibjdejaaGreatSt17
set_option maxHeartbeats 64000000
namespace Go.Proofs.YtlcljanibjdejaaGreat
open Go.RowKit Go.Maps
theorem Jhn (n:Nat):Lib.encodeRune n≠[]:=by
 unfold Lib.encodeRune Lib.encodeRuneZ;rw [Ne,List.map_eq_nil_iff]
 repeat' split
 all_goals simp
theorem JlX (l:List UInt8) (h:l≠[]):(JV l).1≠[]:=by
 unfold JV;split
 ·split
  ·exact Jhn _
  ·exact Jhn _
 ·cases l with
  | nil=>exact absurd rfl h
  | cons a l=>simp
theorem Jr9 {l:List UInt8} (h:l≠[]):(JR l).1≠[]:=by
 cases l with
 | nil=>exact absurd rfl h
 | cons c l=>
   by_cases hc:c=38
   ·rw [Jaf c l hc];intro e;exact JlX (c::l) (by simp) (List.append_eq_nil_iff.1 e).1
   ·rw [JaO c l hc];simp
theorem JaL (l:List UInt8): ∀ (f f' k:Nat) (raw:List UInt8) (out:List Tok),l.length+1≤f+k→l.length+1≤f'+k→Xl l f k raw out=Xl l f' k raw out
 | 0,0,_,_,_,_,_=>rfl
 | 0,f'+1,k,raw,out,h,_=>by rw [Yn (by omega)];rfl
 | f+1,0,k,raw,out,_,h=>by rw [Yn (by omega)];rfl
 | f+1,f'+1,k,raw,out,h,h'=>by
   by_cases hk:l.length≤k
   ·rw [Yn hk,Yn hk]
   ·cases hp:Qa l k raw out with
    | none=>
      rw [Y7 (by omega) hp,Y7 (by omega) hp];exact JaL l f f' _ _ _ (by omega) (by omega)
    | some t=>
      obtain ⟨k',raw',out'⟩:=t;have hb:=(Xr hp (by omega)).1;rw [XI (by omega) hp,XI (by omega) hp];exact JaL l f f' _ _ _ (by omega) (by omega)
def Rds (l:List UInt8) (k:Nat) (raw:List UInt8) (out:List Tok) (R:List Tok):Prop:= ∀ f,l.length+1≤f+k→Xl l f k raw out=R
theorem Rds.start (l:List UInt8):Rds l 0 [] [] (JL l):=fun f hf=>JaL l f (l.length+1) 0 [] [] hf (by omega)
theorem Rds.done {l:List UInt8} {k:Nat} {raw:List UInt8} {out R:List Tok} (h:Rds l k raw out R) (hk:l.length≤k):out++Xp raw=R:=by
 have:=h (l.length+1) (by omega)
 rwa [Yn hk] at this
theorem Rds.piece {l:List UInt8} {k:Nat} {raw:List UInt8} {out R:List Tok} (h:Rds l k raw out R) (hk:k<l.length) {k':Nat} {raw':List UInt8} {out':List Tok} (hp:Qa l k raw out=some (k',raw',out')):Rds l k' raw' out' R:=fun f hf=>by
 have hb:=(Xr hp hk).1;have:=h (l.length+1) (by omega);rw [XI hk hp] at this;rw [←this];exact JaL l _ _ _ _ _ hf (by omega)
theorem Rds.none {l:List UInt8} {k:Nat} {raw:List UInt8} {out R:List Tok} (h:Rds l k raw out R) (hk:k<l.length) (hp:Qa l k raw out=none):Rds l l.length (raw++l.drop k) out R:=fun f hf=>by
 have:=h (l.length+1) (by omega);rw [Y7 hk hp] at this;rw [←this];exact JaL l _ _ _ _ _ hf (by omega)
theorem JtA {l:List UInt8} {k:Nat} (hk:k<l.length) (h:l[k]≠60) (p:List UInt8):stL l k (60::p)=false:=by
 unfold stL;rw [List.drop_eq_getElem_cons hk];simp only [List.isPrefixOf,Bool.and_eq_false_iff];left;simpa using fun e=>h e.symm
theorem Jfw {l:List UInt8} {k:Nat} (hk:k<l.length) (h:l[k]≠60) (raw:List UInt8) (out:List Tok):Qa l k raw out=Jaw l k raw out:=by
 unfold Qa XD;simp [JtA hk h]
theorem Rds.byte {l:List UInt8} {k:Nat} {raw:List UInt8} {out R:List Tok} (h:Rds l k raw out R) (hk:k<l.length) (hp:Qa l k raw out=Jaw l k raw out):Rds l (k+1) (raw++[l[k]]) out R:=by
 have e0:l.getD k 0=l[k]:=by simp [List.getD,List.getElem?_eq_getElem hk]
 have h1:=h.piece hk (hp.trans (by unfold Jaw;rw [e0]));by_cases hk2:k+1<l.length
 ·by_cases hc:l[k+1]=60
  ·have e:(l.drop (k+1)).takeWhile YE=[]:=by
    rw [List.drop_eq_getElem_cons hk2,List.takeWhile_cons,if_neg (by simp [YE,hc])]
   rw [e] at h1;simpa using h1
  ·have e:(l.drop (k+1)).takeWhile YE=l[k+1]::(l.drop (k+1+1)).takeWhile YE:=by
    rw [List.drop_eq_getElem_cons hk2,List.takeWhile_cons,if_pos (by simpa [YE] using hc)]
   intro f hf;have e1:l.getD (k+1) 0=l[k+1]:=by simp [List.getD,List.getElem?_eq_getElem hk2]
   have hp2:Qa l (k+1) (raw++[l[k]]) out=some (k+1+1+((l.drop (k+1+1)).takeWhile YE).length,(raw++[l[k]])++[l[k+1]]++(l.drop (k+1+1)).takeWhile YE,out):=by
    rw [Jfw hk2 hc];unfold Jaw;rw [e1]
   obtain ⟨f',rfl⟩: ∃ f',f=f'+1:=⟨f - 1,by omega⟩;rw [XI hk2 hp2];have h2:=h1 f' (by rw [e,List.length_cons];omega);rw [e] at h2;rw [←h2];simp only [List.length_cons,List.append_assoc,List.cons_append,List.nil_append]
   congr 1
   omega
 ·have e:(l.drop (k+1)).takeWhile YE=[]:=by rw [List.drop_eq_nil_of_le (by omega)];rfl
  rw [e] at h1;simpa using h1
theorem Jam (p l:List UInt8) (k:Nat):Xx p (l.drop k)=if QF l p k<0 then none else some ((QF l p k).toNat - k+p.length):=by
 unfold Xx QF;have:=Lib.index_ge (l.drop k) p;by_cases h:Lib.index (l.drop k) p<0
 ·rw [if_pos h,if_pos h];simp
 ·rw [if_neg h,if_neg h,if_neg (by omega)]
  congr 2
  omega
theorem Jby {l p:List UInt8} {k:Nat} (h:QF l p k<0):QF l p k= -1:=by
 unfold QF at *;split at h
 ·rename_i hn;rw [if_pos hn]
 ·omega
structure Rf (w:World) (B bt bo:Nat) (outv:Value) (raw:List UInt8) (l:List (Tok × Value)):Prop where
 tx:w.heap[bt]?=some (.cells #[.string ⟨raw.toArray⟩] 9 (0,0))
 ob:w.heap[bo]?=some (.cells #[outv] 26 (0,0))
 out:w.ownsRow B 117 4 outv l.length (JT l)
 attrs: ∀ p∈l,J6 w B p
 hbt:bt<B
 hbo:bo<B
 ne:bt≠bo
theorem Rf.keeps {w w':World} {B bt bo:Nat} {outv:Value} {raw:List UInt8} {l:List (Tok × Value)} {S:List Nat} (h:Rf w B bt bo outv raw l) (hk:Jb S w w') (h1:bt∉S) (h2:bo∉S) (hout: ∀ g,outv.ownBlock=some g→g∉S) (hat: ∀ p∈l, ∀ g,p.2.ownBlock=some g→g∉S):Rf w' B bt bo outv raw l:=
 ⟨by rw [hk.block bt (lt_of_block h.tx) h1];exact h.tx,by rw [hk.block bo (lt_of_block h.ob) h2];exact h.ob,hk.owns h.out hout,fun p hp=>hk.owns (h.attrs p hp) (hat p hp),h.hbt,h.hbo,h.ne⟩
theorem Rf.keepsNil {w w':World} {B bt bo:Nat} {outv:Value} {raw:List UInt8} {l:List (Tok × Value)} (h:Rf w B bt bo outv raw l) (hk:Jb [] w w'):Rf w' B bt bo outv raw l:=
 h.keeps hk List.not_mem_nil List.not_mem_nil (fun _ _=>List.not_mem_nil) (fun _ _ _ _=>List.not_mem_nil)
theorem Rf.keepsNew {w0 w w':World} {B bt bo:Nat} {outv:Value} {raw:List UInt8} {l:List (Tok × Value)} (h0:Rf w0 B bt bo outv raw l) (h:Rf w B bt bo outv raw l) {g:Nat} (hg:w0.heap.size≤g) (hk:Jb [g] w w'):Rf w' B bt bo outv raw l:=by
 refine h.keeps hk ?_ ?_ (fun b hb=>?_) (fun p hp b hb=>?_)
 ·have:=lt_of_block h0.tx;simp;omega
 ·have:=lt_of_block h0.ob;simp;omega
 ·have:=(h0.out.lt b hb).2;simp;omega
 ·have:=((h0.attrs p hp).lt b hb).2;simp;omega
theorem Y6 {w:World} {b:Nat} {v:Value} {t:TypeId} (h:w.heap[b]?=some (.cells #[v] t (0,0))):w.cell? ⟨b,0,none⟩=some v:=by
 simp [World.cell?];simp [h]
theorem JbT {w:World} {b:Nat} {v:Value} {t:TypeId} (h:w.heap[b]?=some (.cells #[v] t (0,0))):w.frozen? ⟨b,0,none⟩=false:=by
 simp [World.frozen?];simp [h]
theorem Jmg {w:World} {b:Nat} {v:Value} {t:TypeId} (h:w.heap[b]?=some (.cells #[v] t (0,0))) (u:Value):(w.setCell ⟨b,0,none⟩ u).heap[b]?=some (.cells #[u] t (0,0)):=by
 simp [World.setCell,Array.getElem?_modify];simp [h]
theorem Rf.set {w:World} {B bt bo:Nat} {outv:Value} {raw:List UInt8} {l:List (Tok × Value)} (h:Rf w B bt bo outv raw l) (x:List UInt8):Rf (w.setCell ⟨bt,0,none⟩ (.string ⟨x.toArray⟩)) B bt bo outv x l:=by
 have hk:Jb [bt] w (w.setCell ⟨bt,0,none⟩ (.string ⟨x.toArray⟩)):=(Jb.refl [bt] w).setCell (.inl (by simp)) _;refine ⟨Jmg h.tx _,by rw [hk.block bo (lt_of_block h.ob) (by simpa using h.ne.symm)];exact h.ob,hk.owns h.out (fun g hg hm=>?_),fun p hp=>hk.owns (h.attrs p hp) (fun g hg hm=>?_),h.hbt,h.hbo,h.ne⟩
 ·have:=(h.out.lt g hg).1;have:=h.hbt;simp at hm;omega
 ·have:=((h.attrs p hp).lt g hg).1;have:=h.hbt;simp at hm;omega
theorem Rf.grow {w w3:World} {B bt bo:Nat} {outv:Value} {raw:List UInt8} {l:List (Tok × Value)} (h:Rf w B bt bo outv raw l) (hk:Jb outv.ownBlock.toList w w3) {v3:Value} {p:Tok × Value} (ho:w3.ownsRow B 117 4 v3 (l.length+1) (JT l++QS p)) (hp:J6 w3 B p):
  Rf (w3.setCell ⟨bo,0,none⟩ v3) B bt bo v3 raw (l++[p]):=by
 have hbt:=h.hbt;have hbo:=h.hbo;have hne:=h.ne;have t3:w3.heap[bt]?=some (.cells #[.string ⟨raw.toArray⟩] 9 (0,0)):=by
  rw [hk.block bt (lt_of_block h.tx) (fun hm=>by have:=(h.out.lt bt (by simpa using hm)).1;omega)];exact h.tx
 have o3:w3.heap[bo]?=some (.cells #[outv] 26 (0,0)):=by
  rw [hk.block bo (lt_of_block h.ob) (fun hm=>by have:=(h.out.lt bo (by simpa using hm)).1;omega)];exact h.ob
 have hat3: ∀ q∈l,J6 w3 B q:=fun q hq=>hk.owns (h.attrs q hq) (fun g hg hm=>Qk (h.attrs q hq) h.out (by decide) hg (by simpa using hm));have hk3:Jb [bo] w3 (w3.setCell ⟨bo,0,none⟩ v3):=(Jb.refl [bo] w3).setCell (.inl (by simp)) _;have far: ∀ {e z n xs v},w3.ownsRow B e z v n xs→ ∀ g,v.ownBlock=some g→g∉[bo]:=fun hv g hg hm=>by have:=(hv.lt g hg).1;simp at hm;omega
 refine ⟨by rw [hk3.block bt (lt_of_block t3) (by simpa using hne)];exact t3,Jmg o3 _,?_,?_,hbt,hbo,hne⟩
 ·rw [Jc9,List.length_append];exact hk3.owns ho (far ho)
 ·intro q hq;rcases List.mem_append.1 hq with hq | hq
  ·exact hk3.owns (hat3 q hq) (far (hat3 q hq))
  ·simp at hq;subst hq;exact hk3.owns hp (far hp)
theorem Rf.toks {w:World} {B bt bo:Nat} {outv:Value} {raw:List UInt8} {l:List (Tok × Value)} (h:Rf w B bt bo outv raw l):Jax w B outv (l.map (·.1)):=⟨l,rfl,h.out,h.attrs⟩
theorem JoL:Jy 105:=JC Tryz.func105 (by kernel_rfl) (by kernel_rfl)
set_option maxRecDepth 4000 in
theorem JiQ (w:World) (B bt bo:Nat) (outv:Value) (raw:List UInt8) (l:List (Tok × Value)) (h:Rf w B bt bo outv raw l) (hB:B≤w.heap.size) (hraw:raw.length≤3000) (hl:l.length≤100000):
  Calls Tryz.prog 105 #[.pointer (some ⟨bt,0,none⟩),.pointer (some ⟨bo,0,none⟩)] w fun e w'=>
   e=.returned (.tuple #[])∧ ∃ outv',Rf w' B bt bo outv' [] (l++X2 raw)∧Jb (bt::bo::outv.ownBlock.toList) w w':=by
 have htk:=Ja (fun w=>JbD ⟨raw.toArray⟩ w (by rw [Jv];exact hraw));rw [Qc] at htk;have c0:=Y6 h.tx;obtain ⟨i0,hi,hz0,hz1,hz2⟩:=info_parts JdK;by_cases hne:raw=[]
 ·subst hne;have e0:X2 []=[]:=rfl;rw [e0,List.append_nil];rw [show JR []=([],true) from by kernel_rfl] at htk;go_enter Tryz.func105,Tryz.ntmps105;go_wp2_with fail;refine (htk.out _).mono ?_;rintro e w1 ⟨rfl,hk1⟩;have h1:=h.keepsNil hk1;have d0:=Y6 h1.tx;have f0:=JbT h1.tx;clear c0;go_wp2_with fail
  go_end0
  exact ⟨rfl,_,h1.set [],(hk1.to (by simp)).setCell (.inl (by simp)) _⟩
 ·have hT:=Jr9 hne;have e0:X2 raw=[(XG (JR raw).1,.slice none 0 0)]:=by unfold X2;rw [if_neg hne]
  rw [e0];obtain ⟨T,TB,hTT⟩: ∃ T TB,JR raw=(T,TB):=⟨_,_,rfl⟩;rw [hTT] at hT htk ⊢;simp only at hT htk ⊢;have hTe:T.isEmpty=false:=by simpa using hT
  clear hTT hT hne e0;obtain ⟨o,c,rfl⟩:=Jg h.out;go_enter Tryz.func105,Tryz.ntmps105;go_wp2_with fail;refine (htk.out _).mono ?_;rintro e w1 ⟨rfl,hk1⟩;have h1:=h.keepsNil hk1;have d1:=Y6 h1.ob;have d1a: ∀ o,(w1.alloc o).cell? ⟨bo,0,none⟩=some (.slice _ l.length c):=fun o=>(JI (a:=⟨bo,0,none⟩) (lt_of_block h1.ob) o).trans d1;have hB1:=Nat.le_trans hB hk1.size;clear c0;go_wp2_with (at_builtin;refine wpList_append_own _ rfl _ _ 26 rfl B 117 i0 _ 4 64 Tryz.underlying26 hi hz0 hz1 hz2 (by kernel_rfl) (by decide) _ _ _ rfl (h1.out.alloc _) ⟨w1.heap.size,0,none⟩ 1 1 (QS (XG T,.slice none 0 0)) rfl rfl ?c1 ?c2 ?c3 ?c4 ?c5 ?_)
  case c1=>exact J9 w1 _ 117
  case c2=>exact YZ rfl
  case c3=>unfold maxLen;omega
  case c4=>omega
  case c5=>simp;omega
  intro v3 w3 ho3 hg3 _;obtain ⟨ov,cv,rfl⟩:=Jg ho3;have hk3:Jb (Value.slice o l.length c).ownBlock.toList w1 w3:=((Jb.refl _ w1).alloc _).grown hg3 fun i e=>.inl (by simp [e]);have hr:=h1.grow hk3 ho3 (World.ownsRow_nil _ _ _ _);have o3:w3.heap[bo]?=some (.cells #[.slice o l.length c] 26 (0,0)):=by
   have:=h1.hbo;rw [hk3.block bo (lt_of_block h1.ob) (fun hm=>by have:=(h1.out.lt bo (by simpa using hm)).1;omega)];exact h1.ob
  have x0:=Y6 o3;have x1:=JbT o3;have x2:=Y6 hr.tx;have x3:=JbT hr.tx;have hkf:Jb (bt::bo::(Value.slice o l.length c).ownBlock.toList) w (w3.setCell ⟨bo,0,none⟩ (.slice ov (l.length+1) cv)):=
   ((hk1.to (by simp)).trans (hk3.to (fun i hi=>by simp at hi ⊢;exact .inr (.inr hi)))).setCell (.inl (by simp)) _
  go_wp2_with fail
  go_end0
  exact ⟨rfl,_,hr.set [],hkf.setCell (.inl (by simp)) _⟩
def Sw (l:List UInt8) (k:Nat) (raw:List UInt8) (out:List Tok) (z:Int) (t:Tok):Prop:=
 (z= -1∧Qa l k raw out=none)∨(z= -2∧Qa l k raw out=Jaw l k raw out)∨
 (∃ k':Nat,z=k'∧t.kind=0∧Qa l k raw out=some (k',raw,out))∨
 (∃ k':Nat,z=k'∧(t.kind=2∨t.kind=3)∧t.text=[]∧t.name.length≤3000∧Qa l k raw out=some (k',if JB t.name=true then ([],out++Xp raw++[t]) else (raw,out)))
theorem JqG (s:ByteArray) (k:Nat) (hk:k<s.size) (h:s[k]=60):XD s.data.toList k [60]=(decide (k+1<s.size)&&J2 (Jr s (k+1))):=by
 have e:stL s.data.toList k [60]=true:=by
  unfold stL;rw [Xo s k hk,h];simp
 unfold XD;rw [e,Js];rfl
theorem JnS (s:ByteArray) (k:Nat):XD s.data.toList k [60,47]=(Ju s k [60,47]&&(decide (k+2<s.size)&&J2 (Jr s (k+2)))):=by
 unfold XD;rw [Js];rfl
theorem JkI (s:ByteArray) (k k2:Nat) (h:JG QJ s k=k2):(s.data.toList.drop k).takeWhile QJ=(s.extract k k2).data.toList:=by rw [←h];exact JcI QJ s k
theorem Jf1 (s:ByteArray) (k k2:Nat) (h:JG QJ s k=k2):k+((s.data.toList.drop k).takeWhile QJ).length=k2:=h
theorem Js3 {s:ByteArray} {k k2:Nat} {raw n:List UInt8} {out:List Tok} (hO:XD s.data.toList k [60]=true) (hk2:JG QJ s (k+1)=k2) (hn:Jx (s.extract (k+1) k2).data.toList=n) (hnl:n.length≤3000)
  {a:List Jw} {k':Nat} (ha:JM s.data.toList (s.size+1) k2 []=some (a,k')):Sw s.data.toList k raw out ((k'+1:Nat):Int) ⟨2,n,a,[]⟩:=by
 refine .inr (.inr (.inr ⟨k'+1,rfl,.inl rfl,rfl,hnl,?_⟩));unfold Qa Jaq;rw [if_pos hO,Js,Jf1 s _ _ hk2,JkI s _ _ hk2,hn,ha]
theorem Jr6 {s:ByteArray} {k k2:Nat} {raw:List UInt8} {out:List Tok} (hO:XD s.data.toList k [60]=true) (hk2:JG QJ s (k+1)=k2)
  (ha:JM s.data.toList (s.size+1) k2 []=none) (t:Tok):Sw s.data.toList k raw out (-1) t:=by
 refine .inl ⟨rfl,?_⟩;unfold Qa Jaq;rw [if_pos hO,Js,Jf1 s _ _ hk2,ha]
theorem Jr5 {s:ByteArray} {k k2:Nat} {raw n:List UInt8} {out:List Tok} (hO:XD s.data.toList k [60]=false) (hC:XD s.data.toList k [60,47]=true) (hk2:JG QJ s (k+2)=k2) (hn:Jx (s.extract (k+2) k2).data.toList=n) (hnl:n.length≤3000)
  {m:Nat} (hE:QF s.data.toList [62] k2=m) (hm:k2≤m):Sw s.data.toList k raw out ((m+1:Nat):Int) ⟨3,n,[],[]⟩:=by
 refine .inr (.inr (.inr ⟨m+1,rfl,.inr rfl,rfl,hnl,?_⟩));unfold Qa Zc;rw [if_neg (by simp [hO]),if_pos hC,Jf1 s _ _ hk2,JkI s _ _ hk2,hn,Jam,hE,if_neg (by omega)];simp only [Int.toNat_natCast,List.length_cons,List.length_nil]
 congr 2
 omega
theorem JqF {s:ByteArray} {k k2:Nat} {raw:List UInt8} {out:List Tok} (hO:XD s.data.toList k [60]=false) (hC:XD s.data.toList k [60,47]=true) (hk2:JG QJ s (k+2)=k2)
  (hE:QF s.data.toList [62] k2<0) (t:Tok):Sw s.data.toList k raw out (-1) t:=by
 refine .inl ⟨rfl,?_⟩;unfold Qa Zc;rw [if_neg (by simp [hO]),if_pos hC,Jf1 s _ _ hk2,Jam,if_pos hE]
theorem JtB {s:ByteArray} {k:Nat} {raw:List UInt8} {out:List Tok} (hO:XD s.data.toList k [60]=false) (hC:XD s.data.toList k [60,47]=false) (h3:Ju s k [60,33,45,45]=true)
  {m:Nat} (hE:QF s.data.toList [45,45,62] (k+2)=m) (hm:k+2≤m) {t:Tok} (ht:t.kind=0):Sw s.data.toList k raw out ((m+3:Nat):Int) t:=by
 refine .inr (.inr (.inl ⟨m+3,rfl,ht,?_⟩));unfold Qa Jd0;rw [if_neg (by simp [hO]),if_neg (by simp [hC]),if_pos (show stL s.data.toList k [60,33,45,45]=true from h3),Jam,hE,if_neg (by omega)];simp only [Int.toNat_natCast,List.length_cons,List.length_nil]
 congr 2
 omega
theorem Js2 {s:ByteArray} {k:Nat} {raw:List UInt8} {out:List Tok} (hO:XD s.data.toList k [60]=false) (hC:XD s.data.toList k [60,47]=false) (h3:Ju s k [60,33,45,45]=true)
  (hE:QF s.data.toList [45,45,62] (k+2)<0) (t:Tok):Sw s.data.toList k raw out (-1) t:=by
 refine .inl ⟨rfl,?_⟩;unfold Qa Jd0;rw [if_neg (by simp [hO]),if_neg (by simp [hC]),if_pos (show stL s.data.toList k [60,33,45,45]=true from h3),Jam,if_pos hE]
theorem Jis {s:ByteArray} {k:Nat} {raw:List UInt8} {out:List Tok} (hO:XD s.data.toList k [60]=false) (hC:XD s.data.toList k [60,47]=false) (h3:Ju s k [60,33,45,45]=false)
  (h4:(Ju s k [60,33] || (Ju s k [60,63] || Ju s k [60,47]))=true)
  {m:Nat} (hE:QF s.data.toList [62] k=m) (hm:k≤m) {t:Tok} (ht:t.kind=0):Sw s.data.toList k raw out ((m+1:Nat):Int) t:=by
 refine .inr (.inr (.inl ⟨m+1,rfl,ht,?_⟩));unfold Qa Jbl;rw [if_neg (by simp [hO]),if_neg (by simp [hC]),if_neg (by rw [show stL s.data.toList k [60,33,45,45]=false from h3];simp),if_pos (show (stL s.data.toList k [60,33] || (stL s.data.toList k [60,63] || stL s.data.toList k [60,47]))=true from h4),Jam,hE,if_neg (by omega)];simp only [Int.toNat_natCast,List.length_cons,List.length_nil]
 congr 2
 omega
theorem JgV {s:ByteArray} {k:Nat} {raw:List UInt8} {out:List Tok} (hO:XD s.data.toList k [60]=false) (hC:XD s.data.toList k [60,47]=false) (h3:Ju s k [60,33,45,45]=false)
  (h4:(Ju s k [60,33] || (Ju s k [60,63] || Ju s k [60,47]))=true) (hE:QF s.data.toList [62] k<0) (t:Tok):Sw s.data.toList k raw out (-1) t:=by
 refine .inl ⟨rfl,?_⟩;unfold Qa Jbl;rw [if_neg (by simp [hO]),if_neg (by simp [hC]),if_neg (by rw [show stL s.data.toList k [60,33,45,45]=false from h3];simp),if_pos (show (stL s.data.toList k [60,33] || (stL s.data.toList k [60,63] || stL s.data.toList k [60,47]))=true from h4),Jam,if_pos hE]
theorem Js4 {s:ByteArray} {k:Nat} {raw:List UInt8} {out:List Tok} (hO:XD s.data.toList k [60]=false) (hC:XD s.data.toList k [60,47]=false) (h3:Ju s k [60,33,45,45]=false)
  (h4:(Ju s k [60,33] || (Ju s k [60,63] || Ju s k [60,47]))=false) (t:Tok):Sw s.data.toList k raw out (-2) t:=by
 refine .inr (.inl ⟨rfl,?_⟩);unfold Qa;rw [if_neg (by simp [hO]),if_neg (by simp [hC]),if_neg (by rw [show stL s.data.toList k [60,33,45,45]=false from h3];simp),if_neg (by rw [show (stL s.data.toList k [60,33] || (stL s.data.toList k [60,63] || stL s.data.toList k [60,47]))=false from h4];simp)]
theorem JbY {w:World} {g:Nat} {p:Tok × Value} (h:QI w g p) (j:Nat):w.frozen? ⟨g,j,none⟩=false:=by
 simp [World.frozen?,QI] at h ⊢;simp [h]
theorem JgW {w:World} {g:Nat} {t:Tok} {v:Value} (h:QI w g (t,v)) (x:Int):QI (w.setCell ⟨g,0,none⟩ (.int .i64 x)) g (⟨x,t.name,t.attrs,t.text⟩,v):=by
 simp [World.setCell,QI,Array.getElem?_modify] at h ⊢;simp [h]
theorem JkU {w:World} {g:Nat} {t:Tok} {v:Value} (h:QI w g (t,v)) (x:List UInt8):QI (w.setCell ⟨g,1,none⟩ (.string ⟨x.toArray⟩)) g (⟨t.kind,x,t.attrs,t.text⟩,v):=by
 simp [World.setCell,QI,Array.getElem?_modify] at h ⊢;simp [h]
theorem JkV {w:World} {g:Nat} {t:Tok} {v:Value} (h:QI w g (t,v)) (a:List Jw) (u:Value):QI (w.setCell ⟨g,2,none⟩ u) g (⟨t.kind,t.name,a,t.text⟩,u):=by
 simp [World.setCell,QI,Array.getElem?_modify] at h ⊢;simp [h]
theorem Z6 {w:World} {g j:Nat} (u:Value):Jb [g] w (w.setCell ⟨g,j,none⟩ u):=(Jb.refl [g] w).setCell (.inl (by simp)) _
set_option maxRecDepth 4000 in
theorem JkW (s:ByteArray) (w:World) (hs:s.size≤3000):
  Calls Tryz.prog 36 #[.string s] w fun e w'=> ∃ v,e=.returned v∧Jbd w' v (JL s.data.toList)∧Jb [] w w':=by
 have hl:=Js s;obtain ⟨R,hRR⟩: ∃ R,JL s.data.toList=R:=⟨_,rfl⟩;have HR0:Hid (Rds s.data.toList 0 [] [] R):=hRR ▸ Rds.start _;rw [hRR];clear hRR;obtain ⟨i0,hi,hz0,hz1,hz2⟩:=info_parts JdK;have hE:=JoL;unfold Jy at hE;go_enter Tryz.func36,Tryz.ntmps36;go_wp2_with fail;have hR0:Rf ((w.alloc (.cells #[.slice none 0 0] 26)).alloc (.cells #[.string ⟨#[]⟩] 9)) (w.heap.size+2) (w.heap.size+1) w.heap.size (.slice none 0 0) [] []:=
  ⟨by have:=heap_alloc_new (w.alloc (.cells #[.slice none 0 0] 26)) (.cells #[.string ⟨#[]⟩] 9);simpa using this,by rw [((Jb.refl [] (w.alloc (.cells #[.slice none 0 0] 26))).alloc _).block w.heap.size (by simp) List.not_mem_nil];exact heap_alloc_new w _,World.ownsRow_nil _ _ _ _,by simp,by omega,by omega,by omega⟩
 have hk0:Jb [] w ((w.alloc (.cells #[.slice none 0 0] 26)).alloc (.cells #[.string ⟨#[]⟩] 9)):=((Jb.refl [] w).alloc _).alloc _;have hs0:w.heap.size+2≤((w.alloc (.cells #[.slice none 0 0] 26)).alloc (.cells #[.string ⟨#[]⟩] 9)).heap.size:=by simp
 generalize hbo:w.heap.size=bo at *;have HBO:=Ja hbo;clear hbo;generalize hB:bo+2=B at *;have hBB:bo≤B:=by omega
 clear hB;generalize hbt:bo+1=bt at *;have hbtB:bo≤bt:=by omega
 clear hbt
 go_loopg [6] (s.size+1) (fun g i wr=> ∃ (k:Nat) (raw:List UInt8) (outv:Value) (l:List (Tok × Value)),k≤s.size∧s.size+1≤g+k∧i=.int .i64 k∧Rf wr B bt bo outv raw l∧B≤wr.heap.size∧Jb [] w wr∧raw.length≤k∧l.length≤2 * k∧Hid (Rds s.data.toList k raw (l.map (·.1)) R))
 case atStart=>exact ⟨0,[],_,[],Nat.zero_le _,by omega,rfl,hR0,hs0,hk0,Nat.le_refl _,Nat.le_refl _,HR0⟩
 case round=>
  obtain ⟨k,raw,outv,l,hk,hg,rfl,hR,hBw,hkp,hra,hla,hF⟩:=hrel;clear HR0 hR0 hk0 hs0;obtain ⟨f,rfl⟩: ∃ f,gk=f+1:=⟨gk - 1,by omega⟩;generalize wr=W at *;by_cases hend:k<s.size
  ·have hb256:s[k].toNat<256:=UInt8.toNat_lt s[k];have hkl:k<s.data.toList.length:=by rw [hl];exact hend
   have hlk:s.data.toList[k]=s[k]:=rfl;by_cases h60:s[k]=60
   ·have e60:((s[k].toNat:Int) != 60)=false:=by rw [h60];rfl
    have H60:=Ja h60;clear h60;go_upto_block 2 with fail;have hA:QI (W.alloc (.cells #[.int .i64 0,.string ⟨#[]⟩,.slice none 0 0,.string ⟨#[]⟩] 117)) W.heap.size (⟨0,[],[],[]⟩,.slice none 0 0):=heap_alloc_new W _;have hkA:Jb [] W (W.alloc (.cells #[.int .i64 0,.string ⟨#[]⟩,.slice none 0 0,.string ⟨#[]⟩] 117)):=(Jb.refl [] W).alloc _;have hRA:=hR.keepsNil hkA;have hBA:=Nat.le_trans hBw hkA.size;obtain ⟨g,hgW⟩: ∃ g,W.heap.size=g:=⟨_,rfl⟩;rw [hgW] at hA;have hWg:W.heap.size≤g:=by omega
    have hBg:B≤g:=by omega
    simp only [hgW];clear hgW;generalize (W.alloc (.cells #[.int .i64 0,.string ⟨#[]⟩,.slice none 0 0,.string ⟨#[]⟩] 117))=WA at *
    go_cut [7] (fun s7 wx=> ∃ (z:Int) (t:Tok) (av:Value),s7=.int .i64 z∧QI wx g (t,av)∧Jb [g] WA wx∧J6 wx B (t,av)∧Hid (Sw s.data.toList k raw (l.map (·.1)) z t))
    case first=>as_aux_lemma=>
     obtain ⟨isO,hO⟩: ∃ b,XD s.data.toList k [60]=b:=⟨_,rfl⟩;obtain ⟨isC,hC⟩: ∃ b,XD s.data.toList k [60,47]=b:=⟨_,rfl⟩;have HO:=Ja hO;have HC:=Ja hC;have HOe:=Ja (JqG s k hend H60.out);have HCe:=Ja (JnS s k);clear hO hC;go_upto_region 11 with fail
     go_cut [29] (fun s29 wx=>s29=.bool isO∧WA=wx)
     case first=>as_aux_lemma=>
      by_cases h1:k+1<s.size
      ·have hw:=Ja (fun w=>Jbv s[k+1] w);have hb1:s[k+1].toNat<256:=UInt8.toNat_lt s[k+1];have hx:Hid (isO=J2 s[k+1]):=by rw [Hid, ←HO.out,HOe.out,Zp s (k+1) h1];simp [h1]
       generalize J2 s[k+1]=bl at *;go_wp2_with (go_at_call 107;refine (hw.out _).mono ?_;rintro e w9 ⟨rfl,rfl⟩);go_meet
       case rel=>exact ⟨by rw [hx.out],by first | rfl | trivial⟩
      ·have hx:Hid (isO=false):=by rw [Hid, ←HO.out,HOe.out];simp [h1]
       go_wp2_with fail;go_meet
       case rel=>exact ⟨by rw [hx.out],by first | rfl | trivial⟩
     case rest=>
      obtain ⟨rfl,hwc⟩:=hcut;subst hwc;go_upto_if 29 with fail
      go_cut [29] (fun s29 wx=>s29=.bool (isO || isC)∧WA=wx)
      case first=>as_aux_lemma=>
       cases isO
       ·have hst:=Ja (fun w=>QQ s k ⟨#[60,47]⟩ hs (by omega) (by decide) w);rw [show (⟨#[60,47]⟩:ByteArray).data.toList=[60,47] from rfl] at hst;cases hb:Ju s k [60,47]
        ·rw [hb] at hst;have hx:Hid (isC=false):=by rw [Hid, ←HC.out,HCe.out,hb];rfl
         clear hb;go_wp2_with (go_at_call 108;refine (hst.out _).mono ?_;rintro e w9 ⟨rfl,rfl⟩);go_meet
         case rel=>exact ⟨by rw [hx.out];rfl,by first | rfl | trivial⟩
        ·rw [hb] at hst;by_cases h2:k+2<s.size
         ·have hw:=Ja (fun w=>Jbv s[k+2] w);have hb1:s[k+2].toNat<256:=UInt8.toNat_lt s[k+2];have hx:Hid (isC=J2 s[k+2]):=by rw [Hid, ←HC.out,HCe.out,hb,Zp s (k+2) h2];simp [h2]
          clear hb;generalize J2 s[k+2]=bl at *;go_wp2_with (first | (go_at_call 108;refine (hst.out _).mono ?_;rintro e w9 ⟨rfl,rfl⟩) | (go_at_call 107;refine (hw.out _).mono ?_;rintro e w9 ⟨rfl,rfl⟩));go_meet
          case rel=>exact ⟨by rw [hx.out];rfl,by first | rfl | trivial⟩
         ·have hx:Hid (isC=false):=by rw [Hid, ←HC.out,HCe.out];simp [h2]
          clear hb;go_wp2_with (go_at_call 108;refine (hst.out _).mono ?_;rintro e w9 ⟨rfl,rfl⟩);go_meet
          case rel=>exact ⟨by rw [hx.out];rfl,by first | rfl | trivial⟩
       ·go_wp2_with fail;go_meet
        case rel=>exact ⟨rfl,by first | rfl | trivial⟩
      case rest=>
       obtain ⟨rfl,hwc⟩:=hcut;subst hwc;have c0:WA.cell? ⟨g,0,none⟩=some (.int .i64 0):=by rw [hA.cell 0];rfl
       have f0:=JbY hA 0;cases isO
       ·cases isC
        ·as_aux_lemma=>
         have s3:=Ja (fun w=>QQ s k ⟨#[60,33,45,45]⟩ hs (by omega) (by decide) w);have s4:=Ja (fun w=>QQ s k ⟨#[60,33]⟩ hs (by omega) (by decide) w);have s5:=Ja (fun w=>QQ s k ⟨#[60,63]⟩ hs (by omega) (by decide) w);have s6:=Ja (fun w=>QQ s k ⟨#[60,47]⟩ hs (by omega) (by decide) w);rw [show (⟨#[60,33,45,45]⟩:ByteArray).data.toList=[60,33,45,45] from rfl] at s3;rw [show (⟨#[60,33]⟩:ByteArray).data.toList=[60,33] from rfl] at s4;rw [show (⟨#[60,63]⟩:ByteArray).data.toList=[60,63] from rfl] at s5;rw [show (⟨#[60,47]⟩:ByteArray).data.toList=[60,47] from rfl] at s6;have hz:J6 WA B (⟨0,[],[],[]⟩,.slice none 0 0):=World.ownsRow_nil _ _ _ _;cases h3:Ju s k [60,33,45,45]
         ·rw [h3] at s3;cases h4:Ju s k [60,33]
          ·rw [h4] at s4;cases h5:Ju s k [60,63]
           ·rw [h5] at s5;cases h6:Ju s k [60,47]
            ·rw [h6] at s6;have HS:=Ja (Js4 (raw:=raw) (out:=l.map (·.1)) HO.out HC.out h3 (by rw [h4,h5,h6];rfl) ⟨0,[],[],[]⟩);clear h3 h4 h5 h6;go_wp2_with fail;refine (s3.out _).mono ?_;rintro e y3 ⟨rfl,hy3⟩;obtain rfl:WA=y3:=hy3.symm;go_wp2_with fail;refine (s4.out _).mono ?_;rintro e y4 ⟨rfl,hy4⟩;obtain rfl:WA=y4:=hy4.symm;go_wp2_with fail;refine (s5.out _).mono ?_;rintro e y5 ⟨rfl,hy5⟩;obtain rfl:WA=y5:=hy5.symm;go_wp2_with fail;refine (s6.out _).mono ?_;rintro e y6 ⟨rfl,hy6⟩;obtain rfl:WA=y6:=hy6.symm;go_wp2_with fail;go_meet
             case rel=>exact ⟨_,⟨0,[],[],[]⟩,_,rfl,hA,Jb.refl _ _,hz,HS⟩
            ·rw [h6] at s6;have h456:(Ju s k [60,33] || (Ju s k [60,63] || Ju s k [60,47]))=true:=by rw [h4,h5,h6];rfl
             clear h4 h5 h6;have hnx:=Ja (fun w=>Zv s ⟨#[62]⟩ k w hs (by decide) (by decide) (by omega));rw [show (⟨#[62]⟩:ByteArray).data.toList=[62] from rfl] at hnx;obtain ⟨E,hE2⟩: ∃ E,QF s.data.toList [62] k=E:=⟨_,rfl⟩;rw [hE2] at hnx;by_cases hneg:E<0
             ·have hE1:=Jby (l:=s.data.toList) (p:=[62]) (k:=k) (by rw [hE2];exact hneg);rw [hE2] at hE1;have HS:=Ja (JgV (raw:=raw) (out:=l.map (·.1)) HO.out HC.out h3 h456 (by rw [hE2];exact hneg) ⟨0,[],[],[]⟩);subst hE1;clear hE2 hneg h3 h456;go_wp2_with fail;refine (s3.out _).mono ?_;rintro e y3 ⟨rfl,hy3⟩;obtain rfl:WA=y3:=hy3.symm;go_wp2_with fail;refine (s4.out _).mono ?_;rintro e y4 ⟨rfl,hy4⟩;obtain rfl:WA=y4:=hy4.symm;go_wp2_with fail;refine (s5.out _).mono ?_;rintro e y5 ⟨rfl,hy5⟩;obtain rfl:WA=y5:=hy5.symm;go_wp2_with fail;refine (s6.out _).mono ?_;rintro e y6 ⟨rfl,hy6⟩;obtain rfl:WA=y6:=hy6.symm;go_wp2_with fail;refine (hnx.out _).mono ?_;rintro e w5 ⟨rfl,h5⟩;obtain rfl:WA=w5:=h5.symm;go_wp2_with fail;go_meet
              case rel=>exact ⟨_,⟨0,[],[],[]⟩,_,rfl,hA,Jb.refl _ _,hz,HS⟩
             ·obtain ⟨m,hm,hm1,hm2⟩:=Zu (l:=s.data.toList) (p:=[62]) (k:=k) (by rw [hE2];omega) (by simp);have HS:=Ja (Jis (raw:=raw) (out:=l.map (·.1)) (t:=⟨0,[],[],[]⟩) HO.out HC.out h3 h456 hm hm1 rfl);rw [hE2] at hm;subst hm;have hge:decide ((0:Int)≤(m:Int))=true:=by simp
              have hmb:m≤3000:=by rw [hl] at hm2;omega
              clear hE2 hneg hm2 h3 h456;go_wp2_with fail;refine (s3.out _).mono ?_;rintro e y3 ⟨rfl,hy3⟩;obtain rfl:WA=y3:=hy3.symm;go_wp2_with fail;refine (s4.out _).mono ?_;rintro e y4 ⟨rfl,hy4⟩;obtain rfl:WA=y4:=hy4.symm;go_wp2_with fail;refine (s5.out _).mono ?_;rintro e y5 ⟨rfl,hy5⟩;obtain rfl:WA=y5:=hy5.symm;go_wp2_with fail;refine (s6.out _).mono ?_;rintro e y6 ⟨rfl,hy6⟩;obtain rfl:WA=y6:=hy6.symm;go_wp2_with fail;refine (hnx.out _).mono ?_;rintro e w5 ⟨rfl,h5⟩;obtain rfl:WA=w5:=h5.symm;go_wp2_with fail;go_meet
              case rel=>exact ⟨_,⟨0,[],[],[]⟩,_,by go_num,hA,Jb.refl _ _,hz,HS⟩
           ·rw [h5] at s5;have h456:(Ju s k [60,33] || (Ju s k [60,63] || Ju s k [60,47]))=true:=by rw [h4,h5];rfl
            clear h4 h5;have hnx:=Ja (fun w=>Zv s ⟨#[62]⟩ k w hs (by decide) (by decide) (by omega));rw [show (⟨#[62]⟩:ByteArray).data.toList=[62] from rfl] at hnx;obtain ⟨E,hE2⟩: ∃ E,QF s.data.toList [62] k=E:=⟨_,rfl⟩;rw [hE2] at hnx;by_cases hneg:E<0
            ·have hE1:=Jby (l:=s.data.toList) (p:=[62]) (k:=k) (by rw [hE2];exact hneg);rw [hE2] at hE1;have HS:=Ja (JgV (raw:=raw) (out:=l.map (·.1)) HO.out HC.out h3 h456 (by rw [hE2];exact hneg) ⟨0,[],[],[]⟩);subst hE1;clear hE2 hneg h3 h456;go_wp2_with fail;refine (s3.out _).mono ?_;rintro e y3 ⟨rfl,hy3⟩;obtain rfl:WA=y3:=hy3.symm;go_wp2_with fail;refine (s4.out _).mono ?_;rintro e y4 ⟨rfl,hy4⟩;obtain rfl:WA=y4:=hy4.symm;go_wp2_with fail;refine (s5.out _).mono ?_;rintro e y5 ⟨rfl,hy5⟩;obtain rfl:WA=y5:=hy5.symm;go_wp2_with fail;refine (hnx.out _).mono ?_;rintro e w5 ⟨rfl,h5⟩;obtain rfl:WA=w5:=h5.symm;go_wp2_with fail;go_meet
             case rel=>exact ⟨_,⟨0,[],[],[]⟩,_,rfl,hA,Jb.refl _ _,hz,HS⟩
            ·obtain ⟨m,hm,hm1,hm2⟩:=Zu (l:=s.data.toList) (p:=[62]) (k:=k) (by rw [hE2];omega) (by simp);have HS:=Ja (Jis (raw:=raw) (out:=l.map (·.1)) (t:=⟨0,[],[],[]⟩) HO.out HC.out h3 h456 hm hm1 rfl);rw [hE2] at hm;subst hm;have hge:decide ((0:Int)≤(m:Int))=true:=by simp
             have hmb:m≤3000:=by rw [hl] at hm2;omega
             clear hE2 hneg hm2 h3 h456;go_wp2_with fail;refine (s3.out _).mono ?_;rintro e y3 ⟨rfl,hy3⟩;obtain rfl:WA=y3:=hy3.symm;go_wp2_with fail;refine (s4.out _).mono ?_;rintro e y4 ⟨rfl,hy4⟩;obtain rfl:WA=y4:=hy4.symm;go_wp2_with fail;refine (s5.out _).mono ?_;rintro e y5 ⟨rfl,hy5⟩;obtain rfl:WA=y5:=hy5.symm;go_wp2_with fail;refine (hnx.out _).mono ?_;rintro e w5 ⟨rfl,h5⟩;obtain rfl:WA=w5:=h5.symm;go_wp2_with fail;go_meet
             case rel=>exact ⟨_,⟨0,[],[],[]⟩,_,by go_num,hA,Jb.refl _ _,hz,HS⟩
          ·rw [h4] at s4;have h456:(Ju s k [60,33] || (Ju s k [60,63] || Ju s k [60,47]))=true:=by rw [h4];rfl
           clear h4;have hnx:=Ja (fun w=>Zv s ⟨#[62]⟩ k w hs (by decide) (by decide) (by omega));rw [show (⟨#[62]⟩:ByteArray).data.toList=[62] from rfl] at hnx;obtain ⟨E,hE2⟩: ∃ E,QF s.data.toList [62] k=E:=⟨_,rfl⟩;rw [hE2] at hnx;by_cases hneg:E<0
           ·have hE1:=Jby (l:=s.data.toList) (p:=[62]) (k:=k) (by rw [hE2];exact hneg);rw [hE2] at hE1;have HS:=Ja (JgV (raw:=raw) (out:=l.map (·.1)) HO.out HC.out h3 h456 (by rw [hE2];exact hneg) ⟨0,[],[],[]⟩);subst hE1;clear hE2 hneg h3 h456;go_wp2_with fail;refine (s3.out _).mono ?_;rintro e y3 ⟨rfl,hy3⟩;obtain rfl:WA=y3:=hy3.symm;go_wp2_with fail;refine (s4.out _).mono ?_;rintro e y4 ⟨rfl,hy4⟩;obtain rfl:WA=y4:=hy4.symm;go_wp2_with fail;refine (hnx.out _).mono ?_;rintro e w5 ⟨rfl,h5⟩;obtain rfl:WA=w5:=h5.symm;go_wp2_with fail;go_meet
            case rel=>exact ⟨_,⟨0,[],[],[]⟩,_,rfl,hA,Jb.refl _ _,hz,HS⟩
           ·obtain ⟨m,hm,hm1,hm2⟩:=Zu (l:=s.data.toList) (p:=[62]) (k:=k) (by rw [hE2];omega) (by simp);have HS:=Ja (Jis (raw:=raw) (out:=l.map (·.1)) (t:=⟨0,[],[],[]⟩) HO.out HC.out h3 h456 hm hm1 rfl);rw [hE2] at hm;subst hm;have hge:decide ((0:Int)≤(m:Int))=true:=by simp
            have hmb:m≤3000:=by rw [hl] at hm2;omega
            clear hE2 hneg hm2 h3 h456;go_wp2_with fail;refine (s3.out _).mono ?_;rintro e y3 ⟨rfl,hy3⟩;obtain rfl:WA=y3:=hy3.symm;go_wp2_with fail;refine (s4.out _).mono ?_;rintro e y4 ⟨rfl,hy4⟩;obtain rfl:WA=y4:=hy4.symm;go_wp2_with fail;refine (hnx.out _).mono ?_;rintro e w5 ⟨rfl,h5⟩;obtain rfl:WA=w5:=h5.symm;go_wp2_with fail;go_meet
            case rel=>exact ⟨_,⟨0,[],[],[]⟩,_,by go_num,hA,Jb.refl _ _,hz,HS⟩
         ·rw [h3] at s3;have hnx:=Ja (fun w=>Zv s ⟨#[45,45,62]⟩ (k+2) w hs (by decide) (by decide) (by
           have h9:=h3;unfold Ju at h9;have:=(List.isPrefixOf_iff_prefix.1 h9).length_le;rw [List.length_drop,hl] at this;simp at this;omega))
          rw [show (⟨#[45,45,62]⟩:ByteArray).data.toList=[45,45,62] from rfl] at hnx;obtain ⟨E,hE2⟩: ∃ E,QF s.data.toList [45,45,62] (k+2)=E:=⟨_,rfl⟩;rw [hE2] at hnx;by_cases hneg:E<0
          ·have hE1:=Jby (l:=s.data.toList) (p:=[45,45,62]) (k:=k+2) (by rw [hE2];exact hneg);rw [hE2] at hE1;have HS:=Ja (Js2 (raw:=raw) (out:=l.map (·.1)) HO.out HC.out h3 (by rw [hE2];exact hneg) ⟨0,[],[],[]⟩);subst hE1;clear hE2 hneg h3;go_wp2_with fail;refine (s3.out _).mono ?_;rintro e y3 ⟨rfl,hy3⟩;obtain rfl:WA=y3:=hy3.symm;go_wp2_with fail;refine (hnx.out _).mono ?_;rintro e w5 ⟨rfl,h5⟩;obtain rfl:WA=w5:=h5.symm;go_wp2_with fail;go_meet
           case rel=>exact ⟨_,⟨0,[],[],[]⟩,_,rfl,hA,Jb.refl _ _,hz,HS⟩
          ·obtain ⟨m,hm,hm1,hm2⟩:=Zu (l:=s.data.toList) (p:=[45,45,62]) (k:=k+2) (by rw [hE2];omega) (by simp);have HS:=Ja (JtB (raw:=raw) (out:=l.map (·.1)) (t:=⟨0,[],[],[]⟩) HO.out HC.out h3 hm hm1 rfl);rw [hE2] at hm;subst hm;have hge:decide ((0:Int)≤(m:Int))=true:=by simp
           have hmb:m≤3000:=by rw [hl] at hm2;omega
           clear hE2 hneg hm2 h3;go_wp2_with fail;refine (s3.out _).mono ?_;rintro e y3 ⟨rfl,hy3⟩;obtain rfl:WA=y3:=hy3.symm;go_wp2_with fail;refine (hnx.out _).mono ?_;rintro e w5 ⟨rfl,h5⟩;obtain rfl:WA=w5:=h5.symm;go_wp2_with fail;go_meet
           case rel=>exact ⟨_,⟨0,[],[],[]⟩,_,by go_num,hA,Jb.refl _ _,hz,HS⟩
        ·as_aux_lemma=>
         have hbd:=HC.out;rw [HCe.out,Bool.and_eq_true,Bool.and_eq_true,decide_eq_true_eq] at hbd;have h2:k+2<s.size:=hbd.2.1;have h1:k+1<s.size:=by omega
         have h47:s[k+1]=47:=by
          have h9:=hbd.1;unfold Ju at h9;rw [Xo s k hend,Xo s (k+1) h1] at h9;simp [List.isPrefixOf] at h9;exact h9.2.symm
         have e47:((s[k+1].toNat:Int)==47)=true:=by rw [h47];rfl
         have hb1:s[k+1].toNat<256:=UInt8.toNat_lt s[k+1];clear hbd h47;have hA0:=JgW hA 2;simp only at hA0;have c1:(WA.setCell ⟨g,0,none⟩ (.int .i64 2)).cell? ⟨g,0,none⟩=some (.int .i64 2):=by rw [hA0.cell 0];rfl
         have f1:=JbY hA0 0;have hA1:=JgW hA0 3;have hkx:Jb [g] WA ((WA.setCell ⟨g,0,none⟩ (.int .i64 2)).setCell ⟨g,0,none⟩ (.int .i64 3)):=(Z6 _).trans (Z6 _);simp only at hA1;have hk2a:=Q5 QJ s (k+2);have hk2b:=Jae QJ (s:=s) (k:=k+2) (by omega);obtain ⟨k2,hk2⟩: ∃ k2,JG QJ s (k+2)=k2:=⟨_,rfl⟩;rw [hk2] at hk2a hk2b;have HK2:=Ja hk2;clear hk2;go_upto_block 3 with fail
         go_cut [10] (fun s10 wx=>s10=.int .i64 k2∧QI wx g (⟨3,[],[],[]⟩,.slice none 0 0)∧Jb [g] WA wx)
         case first=>as_aux_lemma=>
          clear c0 f0 c1 f1;go_wp2_with fail;go_loopw [10] (fun i wq=> ∃ j:Nat,j≤s.size∧i=.int .i64 j∧QI wq g (⟨3,[],[],[]⟩,.slice none 0 0)∧Jb [g] WA wq∧Hid (JG QJ s j=k2)) (fun i _=>s.size - (intOf i).toNat)
          case atStart=>exact ⟨k+2,by omega,by go_num,by first | exact hA1 | (simpa using hA1),by first | exact hkx | (simpa using hkx),HK2⟩
          case round=>
           obtain ⟨j,hj,rfl,hA2,hkq,hH⟩:=hrel;by_cases hlt:j<s.size
           ·have hw:=Ja (fun w=>YI s[j] w);have hb256:s[j].toNat<256:=UInt8.toNat_lt s[j];cases hwb:JA s[j]
            ·rw [hwb] at hw;by_cases h47:s[j]=47
             ·have e47:((s[j].toNat:Int) != 47)=false:=by rw [h47];rfl
              have hjt:Hid (j=k2):=by rw [Hid, ←hH.out];exact (QP hlt (by rw [h47];rfl)).symm
              clear hH hwb h47;go_wp2_with (go_at_call 109;refine (hw.out _).mono ?_;rintro e w9 ⟨rfl,rfl⟩);go_meet
              case rel=>exact ⟨by rw [hjt.out],hA2,hkq⟩
             ·have e47:((s[j].toNat:Int) != 47)=true:=ZM (d:=47) rfl h47;by_cases h62:s[j]=62
              ·have e62:((s[j].toNat:Int) != 62)=false:=by rw [h62];rfl
               have hjt:Hid (j=k2):=by rw [Hid, ←hH.out];exact (QP hlt (by rw [h62];rfl)).symm
               clear hH hwb h47 h62;go_wp2_with (go_at_call 109;refine (hw.out _).mono ?_;rintro e w9 ⟨rfl,rfl⟩);go_meet
               case rel=>exact ⟨by rw [hjt.out],hA2,hkq⟩
              ·have e62:((s[j].toNat:Int) != 62)=true:=ZM (d:=62) rfl h62;have hH2:Hid (JG QJ s (j+1)=k2):=by rw [←hH.out];exact (YG hlt (by simp [QJ,hwb,h47,h62])).symm
               clear hH hwb h47 h62;go_wp2_with (go_at_call 109;refine (hw.out _).mono ?_;rintro e w9 ⟨rfl,rfl⟩);go_roundw
               case rel=>exact ⟨j+1,by omega,by go_num,hA2,hkq,hH2⟩
               case measure=>simp [intOf];omega
            ·rw [hwb] at hw;have hjt:Hid (j=k2):=by rw [Hid, ←hH.out];exact (QP hlt (by simp [QJ,hwb])).symm
             clear hH hwb;go_wp2_with (go_at_call 109;refine (hw.out _).mono ?_;rintro e w9 ⟨rfl,rfl⟩);go_meet
             case rel=>exact ⟨by rw [hjt.out],hA2,hkq⟩
           ·have hjt:Hid (j=k2):=by rw [Hid, ←hH.out];exact (Zo (by omega)).symm
            clear hH;go_wp2_with fail;go_meet
            case rel=>exact ⟨by rw [hjt.out],hA2,hkq⟩
         case rest=>
          obtain ⟨rfl,hA2,hkx2⟩:=hcut;generalize wc=W1 at *;clear c0 f0 hA1 hkx c1 f1 hA0;have hfold:=Ja (fun w=>Jea (s.extract (k+2) k2) w (by simp;omega));obtain ⟨n,hn⟩: ∃ n,Jx (s.extract (k+2) k2).data.toList=n:=⟨_,rfl⟩;rw [hn] at hfold;have HN:=Ja hn;have hnl:n.length≤3000:=by rw [←hn];simp [Jx];omega
          clear hn;go_wp2_with fail;refine (hfold.out _).mono ?_;rintro e w3 ⟨rfl,hk3⟩;have hA3:=hA2.keeps hk3 List.not_mem_nil;have d1:w3.cell? ⟨g,1,none⟩=some (.string ⟨#[]⟩):=by rw [hA3.cell 1];rfl
          have d2:=JbY hA3 1;have hA4:=JkU hA3 n;simp only at hA4;have d3:(w3.setCell ⟨g,1,none⟩ (.string ⟨n.toArray⟩)).cell? ⟨g,0,none⟩=some (.int .i64 3):=by rw [hA4.cell 0];rfl
          have hkx4:Jb [g] WA (w3.setCell ⟨g,1,none⟩ (.string ⟨n.toArray⟩)):=(hkx2.trans (hk3.to (by simp))).trans (Z6 _);have hBw4:B≤(w3.setCell ⟨g,1,none⟩ (.string ⟨n.toArray⟩)).heap.size:=Nat.le_trans hBA hkx4.size;have hnx:=Ja (fun w=>Zv s ⟨#[62]⟩ k2 w hs (by decide) (by decide) hk2b);rw [show (⟨#[62]⟩:ByteArray).data.toList=[62] from rfl] at hnx;obtain ⟨E,hE2⟩: ∃ E,QF s.data.toList [62] k2=E:=⟨_,rfl⟩;rw [hE2] at hnx;clear hfold;by_cases hneg:E<0
          ·have hE1:=Jby (l:=s.data.toList) (p:=[62]) (k:=k2) (by rw [hE2];exact hneg);rw [hE2] at hE1;have HS:=Ja (JqF (raw:=raw) (out:=l.map (·.1)) HO.out HC.out HK2.out (by rw [hE2];exact hneg) ⟨3,n,[],[]⟩);subst hE1;clear hE2 hneg;go_wp2_with fail;refine (hnx.out _).mono ?_;rintro e w5 ⟨rfl,rfl⟩;go_wp2_with fail;go_meet
           case rel=>exact ⟨_,⟨3,n,[],[]⟩,_,rfl,hA4,hkx4,World.ownsRow_nil _ _ _ _,HS⟩
          ·obtain ⟨m,hm,hm1,hm2⟩:=Zu (l:=s.data.toList) (p:=[62]) (k:=k2) (by rw [hE2];omega) (by simp);have HS:=Ja (Jr5 (raw:=raw) (out:=l.map (·.1)) HO.out HC.out HK2.out HN.out hnl hm hm1);rw [hE2] at hm;subst hm;have hge:decide ((0:Int)≤(m:Int))=true:=by simp
           have hmb:m≤3000:=by rw [hl] at hm2;omega
           clear hE2 hneg hm2;go_wp2_with fail;refine (hnx.out _).mono ?_;rintro e w5 ⟨rfl,rfl⟩;go_wp2_with fail;go_meet
           case rel=>exact ⟨_,⟨3,n,[],[]⟩,_,by go_num,hA4,hkx4,World.ownsRow_nil _ _ _ _,HS⟩
       ·as_aux_lemma=>
        simp only [Bool.true_or];have hbd:=HO.out;rw [HOe.out,Bool.and_eq_true,decide_eq_true_eq] at hbd;have h1:k+1<s.size:=hbd.1;have hlet:J2 s[k+1]=true:=by rw [←Zp s (k+1) h1];exact hbd.2
        have e47:((s[k+1].toNat:Int)==47)=false:=X0 (d:=47) rfl (fun h=>by rw [h] at hlet;exact absurd hlet (by decide));have hb1:s[k+1].toNat<256:=UInt8.toNat_lt s[k+1];clear hbd hlet;have hA1:=JgW hA 2;have hkx:Jb [g] WA (WA.setCell ⟨g,0,none⟩ (.int .i64 2)):=Z6 _;simp only at hA1;have hk2a:=Q5 QJ s (k+1);have hk2b:=Jae QJ (s:=s) (k:=k+1) (by omega);obtain ⟨k2,hk2⟩: ∃ k2,JG QJ s (k+1)=k2:=⟨_,rfl⟩;rw [hk2] at hk2a hk2b;have HK2:=Ja hk2;clear hk2;go_upto_block 3 with fail
        go_cut [10] (fun s10 wx=>s10=.int .i64 k2∧QI wx g (⟨2,[],[],[]⟩,.slice none 0 0)∧Jb [g] WA wx)
        case first=>as_aux_lemma=>
         clear c0 f0;go_wp2_with fail;go_loopw [10] (fun i wq=> ∃ j:Nat,j≤s.size∧i=.int .i64 j∧QI wq g (⟨2,[],[],[]⟩,.slice none 0 0)∧Jb [g] WA wq∧Hid (JG QJ s j=k2)) (fun i _=>s.size - (intOf i).toNat)
         case atStart=>exact ⟨k+1,by omega,by go_num,by first | exact hA1 | (simpa using hA1),by first | exact hkx | (simpa using hkx),HK2⟩
         case round=>
          obtain ⟨j,hj,rfl,hA2,hkq,hH⟩:=hrel;by_cases hlt:j<s.size
          ·have hw:=Ja (fun w=>YI s[j] w);have hb256:s[j].toNat<256:=UInt8.toNat_lt s[j];cases hwb:JA s[j]
           ·rw [hwb] at hw;by_cases h47:s[j]=47
            ·have e47:((s[j].toNat:Int) != 47)=false:=by rw [h47];rfl
             have hjt:Hid (j=k2):=by rw [Hid, ←hH.out];exact (QP hlt (by rw [h47];rfl)).symm
             clear hH hwb h47;go_wp2_with (go_at_call 109;refine (hw.out _).mono ?_;rintro e w9 ⟨rfl,rfl⟩);go_meet
             case rel=>exact ⟨by rw [hjt.out],hA2,hkq⟩
            ·have e47:((s[j].toNat:Int) != 47)=true:=ZM (d:=47) rfl h47;by_cases h62:s[j]=62
             ·have e62:((s[j].toNat:Int) != 62)=false:=by rw [h62];rfl
              have hjt:Hid (j=k2):=by rw [Hid, ←hH.out];exact (QP hlt (by rw [h62];rfl)).symm
              clear hH hwb h47 h62;go_wp2_with (go_at_call 109;refine (hw.out _).mono ?_;rintro e w9 ⟨rfl,rfl⟩);go_meet
              case rel=>exact ⟨by rw [hjt.out],hA2,hkq⟩
             ·have e62:((s[j].toNat:Int) != 62)=true:=ZM (d:=62) rfl h62;have hH2:Hid (JG QJ s (j+1)=k2):=by rw [←hH.out];exact (YG hlt (by simp [QJ,hwb,h47,h62])).symm
              clear hH hwb h47 h62;go_wp2_with (go_at_call 109;refine (hw.out _).mono ?_;rintro e w9 ⟨rfl,rfl⟩);go_roundw
              case rel=>exact ⟨j+1,by omega,by go_num,hA2,hkq,hH2⟩
              case measure=>simp [intOf];omega
           ·rw [hwb] at hw;have hjt:Hid (j=k2):=by rw [Hid, ←hH.out];exact (QP hlt (by simp [QJ,hwb])).symm
            clear hH hwb;go_wp2_with (go_at_call 109;refine (hw.out _).mono ?_;rintro e w9 ⟨rfl,rfl⟩);go_meet
            case rel=>exact ⟨by rw [hjt.out],hA2,hkq⟩
          ·have hjt:Hid (j=k2):=by rw [Hid, ←hH.out];exact (Zo (by omega)).symm
           clear hH;go_wp2_with fail;go_meet
           case rel=>exact ⟨by rw [hjt.out],hA2,hkq⟩
        case rest=>
         obtain ⟨rfl,hA2,hkx2⟩:=hcut;generalize wc=W1 at *;clear c0 f0 hA1 hkx;have hfold:=Ja (fun w=>Jea (s.extract (k+1) k2) w (by simp;omega));obtain ⟨n,hn⟩: ∃ n,Jx (s.extract (k+1) k2).data.toList=n:=⟨_,rfl⟩;rw [hn] at hfold;have HN:=Ja hn;have hnl:n.length≤3000:=by rw [←hn];simp [Jx];omega
         clear hn;go_wp2_with fail;refine (hfold.out _).mono ?_;rintro e w3 ⟨rfl,hk3⟩;have hA3:=hA2.keeps hk3 List.not_mem_nil;have d1:w3.cell? ⟨g,1,none⟩=some (.string ⟨#[]⟩):=by rw [hA3.cell 1];rfl
         have d2:=JbY hA3 1;have hA4:=JkU hA3 n;simp only at hA4;have d3:(w3.setCell ⟨g,1,none⟩ (.string ⟨n.toArray⟩)).cell? ⟨g,0,none⟩=some (.int .i64 2):=by rw [hA4.cell 0];rfl
         have hkx4:Jb [g] WA (w3.setCell ⟨g,1,none⟩ (.string ⟨n.toArray⟩)):=(hkx2.trans (hk3.to (by simp))).trans (Z6 _);have hBw4:B≤(w3.setCell ⟨g,1,none⟩ (.string ⟨n.toArray⟩)).heap.size:=Nat.le_trans hBA hkx4.size;have hat:=Ja (JjW s k2 (w3.setCell ⟨g,1,none⟩ (.string ⟨n.toArray⟩)) hs hk2b);clear hfold;go_wp2_with fail;refine hat.out.mono ?_;rintro e w5 ⟨⟨a,k',v,ha,rfl,ho,hak,hks⟩ | ⟨ha,rfl⟩,hk5⟩
         ·have hA5:=hA4.keeps hk5 List.not_mem_nil;have x1:w5.cell? ⟨g,2,none⟩=some (.slice none 0 0):=by rw [hA5.cell 2];rfl
          have x2:=JbY hA5 2;have hA6:=JkV hA5 a v;simp only at hA6;have hkx6:Jb [g] WA (w5.setCell ⟨g,2,none⟩ v):=(hkx4.trans (hk5.to (by simp))).trans (Z6 _);have ho5:J6 w5 B (⟨2,n,a,[]⟩,v):=ho.mono hBw4;have ho6:J6 (w5.setCell ⟨g,2,none⟩ v) B (⟨2,n,a,[]⟩,v):=X3 ho5 (fun h=>Jt ho5 hA5 (by decide) h) _;have HS:=Ja (Js3 (raw:=raw) (out:=l.map (·.1)) HO.out HK2.out HN.out hnl ha);obtain ⟨vo,vc,rfl⟩:=Jg ho;clear ha ho ho5 hat;go_wp2_with fail;go_meet
          case rel=>exact ⟨_,⟨2,n,a,[]⟩,_,rfl,hA6,hkx6,ho6,HS⟩
         ·have hA5:=hA4.keeps hk5 List.not_mem_nil;have x1:w5.cell? ⟨g,2,none⟩=some (.slice none 0 0):=by rw [hA5.cell 2];rfl
          have x2:=JbY hA5 2;have hA6:=JkV hA5 [] (.slice none 0 0);simp only at hA6;have hkx6:Jb [g] WA (w5.setCell ⟨g,2,none⟩ (.slice none 0 0)):=(hkx4.trans (hk5.to (by simp))).trans (Z6 _);have HS:=Ja (Jr6 (raw:=raw) (out:=l.map (·.1)) HO.out HK2.out ha ⟨2,n,[],[]⟩);clear ha hat;go_wp2_with fail;go_meet
          case rel=>exact ⟨_,⟨2,n,[],[]⟩,_,rfl,hA6,hkx6,World.ownsRow_nil _ _ _ _,HS⟩
    case rest=>
     obtain ⟨z,t,av,rfl,hT,hkx,hat,hSw⟩:=hcut;generalize wc=W2 at *;have hR2:=hR.keepsNew hRA hWg hkx;have hB2:=Nat.le_trans hBA hkx.size;have hkp2:Jb [] w W2:=(((hkp.trans hkA).to (by simp)).trans hkx).mono fun i hi hlt=>by simp at hi;have:=HBO.out;omega
     have t0:=Y6 hR2.tx;have t1:=JbT hR2.tx;have hkR:=Ja (fun (u:Value)=>show Jb [] w (W2.setCell ⟨bt,0,none⟩ u) from (hkp2.setCell (.inr (by have:=HBO.out;show w.heap.size≤bt;omega)) u));clear hA hRA hkx;rcases hSw.out with ⟨rfl,hp⟩ | ⟨rfl,hp⟩ | ⟨k',rfl,hkd,hp⟩ | ⟨k',rfl,hkd,htx,hnl,hp⟩
     ·as_aux_lemma=>
      have HF2:=Ja (hF.out.none hkl hp);rw [hl] at HF2;have hsub:(s.extract k s.size).data.toList=s.data.toList.drop k:=Lib.extract_to_end s k;have hlen2:(raw++s.data.toList.drop k).length≤s.size:=by rw [List.length_append,List.length_drop,hl];omega
      have hsum: ¬ 9223372036854775807<(⟨raw.toArray⟩:ByteArray).size+(s.extract k s.size).size:=by rw [Jv];simp;omega
      have hstr:Hid ((⟨raw.toArray⟩:ByteArray)++s.extract k s.size=⟨(raw++s.data.toList.drop k).toArray⟩):=WideShapes.bytes_inj (by rw [JfR,Qc,hsub,Qc]);have hR3:=hR2.set (raw++s.data.toList.drop k);have hk3:=hkR.out (.string ⟨(raw++s.data.toList.drop k).toArray⟩);clear hp hsub hSw hF;go_wp2_with fail
      go_region
      go_wp2_with fail
      go_roundg f
      case measure=>omega
      case rel=>exact ⟨s.size,raw++s.data.toList.drop k,outv,l,Nat.le_refl _,by omega,rfl,by rw [hstr.out];first | exact hR3 | exact hR3.keepsNil ((Jb.refl _ _).drewN _),by simpa using hB2,by rw [hstr.out];first | exact hk3 | exact hk3.drewN _,hlen2,by omega,HF2⟩
     ·as_aux_lemma=>
      have hb:=hF.out.byte hkl hp;rw [hlk,H60.out] at hb;have HF2:=Ja hb;have hsum: ¬ 9223372036854775807<(⟨raw.toArray⟩:ByteArray).size+1:=by rw [Jv];omega
      have hstr:Hid ((⟨raw.toArray⟩:ByteArray)++⟨#[60]⟩=⟨(raw++[60]).toArray⟩):=WideShapes.bytes_inj (by rw [JfR,Qc,Qc]);have hR3:=hR2.set (raw++[60]);have hk3:=hkR.out (.string ⟨(raw++[60]).toArray⟩);clear hp hb hSw hF;go_wp2_with fail
      go_roundg f
      case measure=>omega
      case rel=>exact ⟨k+1,raw++[60],outv,l,by omega,by omega,by go_num,by rw [hstr.out];exact hR3,by simpa using hB2,by rw [hstr.out];exact hk3,by simp;omega,by omega,HF2⟩
     ·as_aux_lemma=>
      have hbd:=Xr hp hkl;have HF2:=Ja (hF.out.piece hkl hp);have c0:W2.cell? ⟨g,0,none⟩=some (.int .i64 0):=by rw [hT.cell 0];simp [hkd]
      rw [hl] at hbd;have hk1:=hbd.1;have hk2:=hbd.2.1;have e1:((k':Int)== -1)=false:=by simp
      have e2:((k':Int)== -2)=false:=by simp
      clear hp hSw hF hkd hbd;go_wp2_with fail
      go_roundg f
      case measure=>omega
      case rel=>exact ⟨k',raw,outv,l,by omega,by omega,rfl,hR2,hB2,hkp2,by omega,by omega,HF2⟩
     ·as_aux_lemma=>
      have hbd:=Xr hp hkl;rw [hl] at hbd;have hk1:=hbd.1;have hk2:=hbd.2.1;have e1:((k':Int)== -1)=false:=by simp
      have e2:((k':Int)== -2)=false:=by simp
      obtain ⟨kd,nm,at',tx⟩:=t;simp only at htx hnl hkd hp;subst htx;have c0:W2.cell? ⟨g,0,none⟩=some (.int .i64 kd):=by rw [hT.cell 0];rfl
      have c1:W2.cell? ⟨g,1,none⟩=some (.string ⟨nm.toArray⟩):=by rw [hT.cell 1];rfl
      have ek:(kd != 0)=true:=by rcases hkd with rfl | rfl<;>rfl
      have hnm:=Ja (fun w=>Jgl ⟨nm.toArray⟩ w (by rw [Jv];unfold maxLen;omega));rw [Qc] at hnm;cases hin:JB nm
      ·rw [hin] at hnm;rw [hin,if_neg (by simp)] at hp;have HF2:=Ja (hF.out.piece hkl hp);clear hp hSw hF hkd hbd hin;go_wp2_with fail;refine (hnm.out _).mono ?_;rintro e w6 ⟨rfl,h6⟩;obtain rfl:W2=w6:=h6.symm;go_wp2_with fail
       go_roundg f
       case measure=>omega
       case rel=>exact ⟨k',raw,outv,l,by omega,by omega,rfl,hR2,hB2,hkp2,by omega,by omega,HF2⟩
      ·rw [hin] at hnm;rw [hin,if_pos rfl] at hp;have HF2:=Ja (hF.out.piece hkl hp);obtain ⟨ao,an,ac,hav⟩:=hat.form;simp only at hav;subst hav;clear hp hSw hF hkd hbd hin;have hfl:=Ja (JiQ W2 B bt bo outv raw l hR2 hB2 (by omega) (by omega));have hgo:g∉bt::bo::outv.ownBlock.toList:=by
        intro hm;have:=lt_of_block hR.tx;have:=lt_of_block hR.ob;simp at hm;rcases hm with hm | hm | hm
        ·omega
        ·omega
        ·have:=(hR.out.lt g hm).2;omega
       have hat0: ∀ b,(Value.slice ao an ac).ownBlock=some b→b∉bt::bo::outv.ownBlock.toList:=by
        intro b hb hm;have h8:=(hat.lt b hb).1;have:=hR2.hbt;have:=hR2.hbo;simp at hm;rcases hm with hm | hm | hm
        ·omega
        ·omega
        ·exact Qk hat hR2.out (by decide) hb hm
       have hel:(l++X2 raw).length≤2 * k+1:=by
        unfold X2;split<;>simp<;>omega
       go_wp2_with fail;refine (hnm.out _).mono ?_;rintro e w6 ⟨rfl,h6⟩;obtain rfl:W2=w6:=h6.symm;go_wp2_with fail;refine hfl.out.mono ?_;rintro e w7 ⟨rfl,outv',h7,hk7⟩;have hT7:=hT.keeps hk7 hgo;have hat7:J6 w7 B (⟨kd,nm,at',[]⟩,.slice ao an ac):=hk7.owns hat hat0;have hB7:=Nat.le_trans hB2 hk7.size;have hkp7:Jb [] w w7:=((hkp2.to (by simp)).trans hk7).mono fun i hi hlt=>by
        have:=HBO.out;simp at hi;rcases hi with hi | hi | hi
        ·omega
        ·omega
        ·have:=(hR2.out.lt i hi).1;omega
       obtain ⟨oo,oc,rfl⟩:=Jg h7.out;generalize hll:l++X2 raw=ll at *;have hlm:ll.map (·.1)=l.map (·.1)++Xp raw:=by rw [←hll,List.map_append,JaB]
       have HLM:=Ja hlm;clear hll hlm;have b0:w7.cell? ⟨g,0,none⟩=some (.int .i64 kd):=by rw [hT7.cell 0];rfl
       have b1:w7.cell? ⟨g,1,none⟩=some (.string ⟨nm.toArray⟩):=by rw [hT7.cell 1];rfl
       have b2:w7.cell? ⟨g,2,none⟩=some (.slice ao an ac):=by rw [hT7.cell 2];rfl
       have b3:w7.cell? ⟨g,3,none⟩=some (.string ⟨#[]⟩):=by rw [hT7.cell 3];rfl
       have d1:=Y6 h7.ob;clear c0 c1 t0 t1;go_wp2_with (at_builtin;refine wpList_append_own _ rfl _ _ 26 rfl B 117 i0 _ 4 64 Tryz.underlying26 hi hz0 hz1 hz2 (by kernel_rfl) (by decide) _ _ _ rfl (h7.out.alloc _) ⟨w7.heap.size,0,none⟩ 1 1 (QS (⟨kd,nm,at',[]⟩,.slice ao an ac)) rfl rfl ?c1 ?c2 ?c3 ?c4 ?c5 ?_)
       case c1=>exact J9 w7 _ 117
       case c2=>exact YZ rfl
       case c3=>unfold maxLen;omega
       case c4=>omega
       case c5=>simp;omega
       intro v3 w8 ho3 hg3 _;obtain ⟨ov,cv,rfl⟩:=Jg ho3;have hk8:Jb (Value.slice oo ll.length oc).ownBlock.toList w7 w8:=((Jb.refl _ w7).alloc _).grown hg3 fun i e=>.inl (by simp [e]);have hr:=h7.grow hk8 ho3 (hk8.owns hat7 (fun b hb hm=>Qk hat7 h7.out (by decide) hb (by simpa using hm)));have o3:w8.heap[bo]?=some (.cells #[.slice oo ll.length oc] 26 (0,0)):=by
        have:=h7.hbo;rw [hk8.block bo (lt_of_block h7.ob) (fun hm=>by have:=(h7.out.lt bo (by simpa using hm)).1;omega)];exact h7.ob
       have x0:=Y6 o3;have x1:=JbT o3;have hkp8:Jb [] w (w8.setCell ⟨bo,0,none⟩ (.slice ov (ll.length+1) cv)):=(((hkp7.to (by simp)).trans hk8).mono (T:=[]) fun i hi hlt=>by
        have:=HBO.out;have:=(h7.out.lt i (by simpa using hi)).1;omega).setCell (.inr (by have:=HBO.out;show w.heap.size≤bo;omega)) _
       have hB8:B≤(w8.setCell ⟨bo,0,none⟩ (.slice ov (ll.length+1) cv)).heap.size:=by have:=hk8.size;simp;omega
       have HF3:Hid (Rds s.data.toList k' [] ((ll++[((⟨kd,nm,at',[]⟩:Tok),Value.slice ao an ac)]).map (·.1)) R):=by
        rw [Hid,List.map_append,HLM.out];exact HF2.out
       go_wp2_with fail
       go_roundg f
       case measure=>omega
       case rel=>exact ⟨k',[],_,_,by omega,by omega,rfl,hr,hB8,hkp8,by simp,by rw [List.length_append];simp;omega,HF3⟩
   ·have e60:((s[k].toNat:Int) != 60)=true:=ZM (d:=60) rfl h60;have hb:=hF.out.byte hkl (Jfw hkl (by rw [hlk];exact h60) _ _);rw [hlk] at hb;have HF2:=Ja hb;have t0:=Y6 hR.tx;have t1:=JbT hR.tx;have hsum: ¬ 9223372036854775807<(⟨raw.toArray⟩:ByteArray).size+(s.extract k (k+1)).size:=by rw [Jv];simp;omega
    have hstr:Hid ((⟨raw.toArray⟩:ByteArray)++s.extract k (k+1)=⟨(raw++[s[k]]).toArray⟩):=WideShapes.bytes_inj (by rw [JfR,Qc,Jc6 s k hend,Qc]);have hR3:=hR.set (raw++[s[k]]);have hk3:Jb [] w (W.setCell ⟨bt,0,none⟩ (.string ⟨(raw++[s[k]]).toArray⟩)):=hkp.setCell (.inr (by have:=HBO.out;show w.heap.size≤bt;omega)) _;clear hb h60 hF;go_wp2_with fail
    go_region
    go_wp2_with fail
    go_roundg f
    case measure=>omega
    case rel=>exact ⟨k+1,raw++[s[k]],outv,l,by omega,by omega,by go_num,by rw [hstr.out];first | exact hR3 | exact hR3.keepsNil ((Jb.refl _ _).drewN _),by simpa using hBw,by rw [hstr.out];first | exact hk3 | exact hk3.drewN _,by simp;omega,by omega,HF2⟩
  ·have hE2:=hF.out.done (by rw [hl];omega);have HE2:=Ja hE2;have hfl:=Ja (JiQ W B bt bo outv raw l hR hBw (by omega) (by omega));clear hF hE2;go_wp2_with fail;refine hfl.out.mono ?_;rintro e w7 ⟨rfl,outv',h7,hk7⟩;have d1:=Y6 h7.ob;obtain ⟨oo,oc,rfl⟩:=Jg h7.out;have hkp7:Jb [] w w7:=((hkp.to (by simp)).trans hk7).mono fun i hi hlt=>by
    have:=HBO.out;simp at hi;rcases hi with hi | hi | hi
    ·omega
    ·omega
    ·have:=(hR.out.lt i hi).1;omega
   go_wp2_with fail;go_ret;refine ⟨_,rfl,?_,hkp7⟩;rw [←HE2.out, ←JaB, ←List.map_append];have h8:=h7.toks.toks;rw [List.length_append] at h8;exact h8
theorem Jon (l:List Tok):4 * l.length≤Qh l:=by
 induction l with
 | nil=>simp
 | cons a l ih=>
   simp only [Qh,List.map_cons,List.sum_cons,Yc,List.length_cons] at ih ⊢;omega
theorem JnX (s:List UInt8) (w:World) (hs:s.length≤3000):
  Calls Tryz.prog 22 #[.string ⟨s.toArray⟩] w fun e w'=> ∃ v,e=.returned v∧Ns w' (fun g=>w.heap.size≤g) v (JP (JL s))∧Jb [] w w':=by
 have htk:=Ja (JkW ⟨s.toArray⟩ w (by rw [Jv];exact hs));rw [Qc] at htk;obtain ⟨f1,f2,_,_,_,_,_,_,_,_⟩:=Jec [] s hs;have f3:=JiB (l:=JL s) (by omega);have f4:=Jon (JL s);have f5:=fun t ht=>Jcd (t:=t) (l:=JL s) ht;have hbd:=Ja (Jq2 (JL s) (Je5 _ f1) ((JL s).length+1) (by omega))
 have hbx: ∀ (w1:World) (l:List (Tok × Value)) (o:Option Addr) (c:Nat),l.map (·.1)=JL s→Jh w1 (.slice o l.length c) l.length 4 (JT l)→(∀ p∈l,Jh w1 p.2 p.1.attrs.length 2 (Jj p.1.attrs))→
   Calls Tryz.prog 90 #[.slice o l.length c,.int .i64 0,.slice none 0 0] w1 fun e w'=>JgZ w1 (bo (JL s) ((JL s).length+1) 0 [] []) e w':=fun w1 l o c h1 h2 h3=>by
  have hm: ∀ p∈l,p.1∈JL s:=fun p hp=>by rw [←h1];exact List.mem_map_of_mem hp
  have hl:l.length=(JL s).length:=by rw [←h1,List.length_map]
  exact Jmy w1 (JL s) l h1 o c h2 h3 (fun p hp=>by have h9:=f5 _ (hm p hp);unfold Yc at h9;omega) (fun p hp=>by have h8:=f5 _ (hm p hp);have h9:=Jdg p.1.attrs;unfold Yc at h8;omega) (by omega) ((JL s).length+1) 0 (Nat.zero_le _) (by omega) w1 (Jb.refl _ _) [] none 0 ⟨by simp [YP],.inl ⟨rfl,rfl⟩⟩ (by simp)
 have HBX:=Ja hbx;clear f1 f2 f3 f4 f5 hbx;go_enter Tryz.func22,Tryz.ntmps22;go_wp2_with fail;refine htk.out.mono ?_;rintro e w1 ⟨v,rfl,⟨l,hl1,hl2,hl3⟩,hk1⟩;obtain ⟨o,c,rfl,_,_⟩:=hl2.form;have hb:=Ja (HBX.out w1 l o c hl1 hl2 hl3);have HK1:=Ja hk1;clear hl1 hl2 hl3 hk1 HBX htk;go_wp2_with fail;refine hb.out.mono ?_;rintro e w2 ⟨o2,c2,rfl,hns,hk2⟩;have HNS:=Ja hns;have HK2:=Ja hk2;have HE:=Ja hbd.out;clear hns hk2 hbd;generalize bo (JL s) ((JL s).length+1) 0 [] []=R at *;obtain ⟨R1,R2,R3⟩:=R;simp only at HNS HE;go_wp2_with fail;go_ret;exact ⟨_,rfl,by rw [←HE.out];exact HNS.out.mono (fun g _ hg=>Nat.le_trans HK1.out.size hg),HK1.out.trans HK2.out⟩
def Jai:List Nd→Prop
 | []=>True
 | .mk n _ _ k::r=>(Qm n=true→k=[])∧Jai k∧Jai r
theorem Jai.at {n:Nd}:{ns:List Nd}→Jai ns→n∈ns→(Qm n.name=true→n.kids=[])∧Jai n.kids
 | .mk m a t k::r,h,hm=>by
   rw [Jai] at h;rcases List.mem_cons.1 hm with rfl | hm
   ·exact ⟨h.1,h.2.1⟩
   ·exact Jai.at h.2.2 hm
theorem Jdo: ∀ (ns:List Nd) (ar:List (List UInt8)) (prev:Bool),Rt ar prev ns→Jai ns
 | [],_,_,_=>by simp [Jai]
 | .mk n a t k::r,ar,prev,h=>by
   rw [Jai];by_cases hn:n=[]
   ·subst hn;obtain ⟨_,_,rfl,_,hr⟩:=(JcL ar prev (.mk [] a t k) r rfl).1 h;exact ⟨fun _=>rfl,by simp [Jai],Jdo r _ _ hr⟩
   ·obtain ⟨_,_,_,he,_,_,hk,hr⟩:=(JfQ ar prev (.mk n a t k) r hn).1 h;exact ⟨he,Jdo k _ _ hk,Jdo r _ _ hr⟩
structure JeV (w:World) (B:Nat) (ov:Value) (l:List (Tok × Value)):Prop where
 row:w.ownsRow B 117 4 ov l.length (JT l)
 attrs: ∀ p∈l,J6 w B p
theorem JeV.keepsNil {w w':World} {B:Nat} {ov:Value} {l:List (Tok × Value)} (h:JeV w B ov l) (hk:Jb [] w w'):JeV w' B ov l:=
 ⟨hk.owns h.row (fun _ _=>List.not_mem_nil),fun p hp=>hk.owns (h.attrs p hp) (fun _ _=>List.not_mem_nil)⟩
theorem JeV.more {w w3:World} {B:Nat} {ov v3:Value} {l l2:List (Tok × Value)} (h:JeV w B ov l) (hk:Jb ov.ownBlock.toList w w3) (ho:w3.ownsRow B 117 4 v3 (l.length+l2.length) (JT l++JT l2)) (hp: ∀ p∈l2,J6 w B p):JeV w3 B v3 (l++l2):=by
 refine ⟨by rw [List.length_append];simpa [JT] using ho,fun q hq=>?_⟩;have hq':J6 w B q:=by
  rcases List.mem_append.1 hq with hq | hq
  ·exact h.attrs q hq
  ·exact hp q hq
 exact hk.owns hq' (fun g hg hm=>Qk hq' h.row (by decide) hg (by simpa using hm))
theorem Jda (p:Tok × Value):JT [p]=QS p:=by simp [JT]
theorem JeI {w:World} {B:Nat} {l:List (Tok × Value)} (h: ∀ p∈l,J6 w B p): ∀ u∈JT l,u.oneCell'=true:=by
 intro u hu;unfold JT at hu;obtain ⟨p,hp,hu⟩:=List.mem_flatMap.1 hu;obtain ⟨o,c,h9⟩:=Jg (h p hp);exact YZ h9 u hu
@[reducible] def SG (T:List Nat) (W:World) (g j0 j1:Nat) (v0 v1:Value) (w':World):Prop:=Jb T W w'∧w'.cell? ⟨g,j0,none⟩=some v0∧w'.cell? ⟨g,j1,none⟩=some v1
theorem SG.of {T:List Nat} {W w':World} {g j0 j1:Nat} {v0 v1:Value} (hg:g∉T) (h1:W.cell? ⟨g,j0,none⟩=some v0) (h2:W.cell? ⟨g,j1,none⟩=some v1) (hk:Jb T W w'):SG T W g j0 j1 v0 v1 w':=⟨hk,JE hk (a:=⟨g,j0,none⟩) hg h1,JE hk (a:=⟨g,j1,none⟩) hg h2⟩
set_option maxRecDepth 8000 in
theorem Jpi (P:Nat→Prop) (w0:World) (v:Value) (ns:List Nd) (h:Ns w0 P v ns): ∀ (w:World),Jb [] w0 w→Jai ns→Xb ns→JD ns≤2000000→
  Calls Tryz.prog 203 #[v] w fun e w'=> ∃ v',e=.returned v'∧Jax w' w.heap.size v' (JX ns)∧Jb [] w w':=by
 induction h with
 | mk v nl ns hns hl ha hk ih=>
   intro w hkw hEmp hFew hsz;have hlw:=hl.keeps hkw (fun _ _=>List.not_mem_nil);obtain ⟨o,c,rfl,h1,h2⟩:=hlw.lies.form;unfold maxLen at h2;obtain ⟨R,hR⟩: ∃ R,JX ns=R:=⟨_,rfl⟩;rw [hR];have hll:nl.length=ns.length:=by rw [←hns,List.length_map]
   obtain ⟨i0,hi,hz0,hz1,hz2⟩:=info_parts JdK;obtain ⟨j0,hj,hy0,hy1,hy2⟩:=info_parts Jkk;have HL:=Ja hlw;have HI:=Ja ih;have HKW:=Ja hkw;have HR:=Ja hR;have Hns:=Ja hns;have Hll:=Ja hll;have Hsz:=Ja hsz;have HA:=Ja ha;have HFew:=Ja hFew;have HEmp:=Ja hEmp;have HKD:=Ja hk;clear hlw ih hkw hR hns hll hsz hl ha hk hFew hEmp;go_enter Tryz.func203,Tryz.ntmps203;go_wp2_with fail;go_loopw [3,4] (fun ov i wr=> ∃ (k:Nat) (l:List (Tok × Value)),k≤nl.length∧i=.int .i64 k∧Hid (JeV wr w.heap.size ov l)∧Hid (l.map (·.1)++JX (ns.drop k)=R)∧Hid (l.length+2 * JD (ns.drop k)≤4000000)∧Hid (Jb [] w wr)) (fun _ i _=>nl.length - (intOf i).toNat)
   case atStart=>exact ⟨0,[],Nat.zero_le _,rfl,Ja ⟨World.ownsRow_nil _ _ _ _,by simp⟩,Ja (by simpa using HR.out),Ja (by have:=Hsz.out;simp;omega),Ja (Jb.refl _ _)⟩
   case round=>
    rename_i ov _ _;obtain ⟨k,l,hk,rfl,hO,hf,hz,hkr⟩:=hrel;obtain ⟨wo,hwo⟩: ∃ wo,wo=wr:=⟨_,rfl⟩;subst hwo;clear HR;obtain ⟨oo,oc,hov⟩:=Jg hO.out.row;subst hov;by_cases hlt:k<nl.length
    ·obtain ⟨g,x,hoo,hcl⟩:=HL.out.lies.addr (by omega);subst hoo;obtain ⟨e0,e1,e2,e3⟩:=YJ hcl k hlt;have hgw:g<w.heap.size:=JcY e0;have hkn:k<ns.length:=by have:=Hll.out;omega
     have hpn:nl[k].nd=ns[k]:=by
      have h9:(nl.map Pn.nd)[k]?=ns[k]?:=by rw [Hns.out]
      simpa [List.getElem?_eq_getElem hlt,List.getElem?_eq_getElem hkn] using h9
     have hf:=hf.out;have hz:=hz.out;rw [List.drop_eq_getElem_cons hkn,Jbn, ←hpn] at hf;rw [List.drop_eq_getElem_cons hkn,ZP, ←hpn] at hz;have hpk:=HI.out nl[k] (List.getElem_mem hlt);have hak:=((HA.out nl[k] (List.getElem_mem hlt)).keeps HKW.out (fun _ _=>List.not_mem_nil)).keeps hkr.out (fun _ _=>List.not_mem_nil);have hfew:=Jid HFew.out (n:=nl[k].nd) (by rw [hpn];exact List.getElem_mem hkn);have hemp:=Jai.at HEmp.out (n:=nl[k].nd) (by rw [hpn];exact List.getElem_mem hkn);have hkf:=(HKD.out nl[k] (List.getElem_mem hlt)).form;have b3:(0:Int)≤(k:Int):=by omega
     have b4:(k:Int)<(nl.length:Int):=by omega
     clear hcl;generalize nl[k]=p at *;obtain ⟨⟨nm,at',tx,ks⟩,pav,pkv⟩:=p;simp only [Nd.name,Nd.attrs,Nd.text,Nd.kids] at e0 e1 e2 e3 hf hz hpk hak hfew hkf hemp;clear hpn;obtain ⟨qo,qc,hq⟩:=hak.form;subst hq;obtain ⟨ko,kc,hkv⟩:=hkf;subst hkv;have Hf:=Ja hf;have Hz:=Ja hz;have HPK:=Ja hpk;have HAK:=Ja hak.lies;have HEM:=Ja hemp;have hll':l.length≤4000000:=by omega
     have hgT:g∉(Value.slice oo l.length oc).ownBlock.toList:=fun hm=>by have:=(hO.out.row.lt g (by simpa using hm)).1;omega
     have hBw:w.heap.size≤wo.heap.size:=hkr.out.size;have hatl:at'.length≤2000000:=hfew.1;have HFK:=Ja hfew.2;have a0:=Jc hkr.out e0;have a1:=Jc hkr.out e1;have a2:=Jc hkr.out e2;have a3:=Jc hkr.out e3;have HE0:=Ja e0;have HE3:=Ja e3;clear hf hz hpk hak hfew hemp e0 e1 e2 e3;by_cases hn:nm=[]
     ·subst hn;go_wp2_with (at_builtin;refine Jl _ rfl _ _ 26 rfl w.heap.size 117 i0 _ 4 64 Tryz.underlying26 hi hz0 hz1 hz2 (by kernel_rfl) (by decide) (.slice oo l.length oc) l.length (JT l) rfl (hO.out.row.alloc _) ⟨wo.heap.size,0,none⟩ 1 1 (QS (⟨1,[],[],tx⟩,.slice none 0 0)) rfl rfl ?c1 ?c2 ?c3 ?c4 ?c5 ?_)
      case c1=>exact J9 wo _ 117
      case c2=>exact YZ rfl
      case c3=>unfold maxLen;omega
      case c4=>omega
      case c5=>exact Nat.le_trans hBw (by simp)
      intro v3 w3 ho3 hg3 hw3;have hk3:Jb (Value.slice oo l.length oc).ownBlock.toList wo w3:=((Jb.refl _ wo).alloc _).grown hg3 (fun i e=>.inl (by simp [e]));have HO3:=Ja (hO.out.more (l2:=[(⟨1,[],[],tx⟩,.slice none 0 0)]) hk3 (by rw [Jda];exact ho3) (fun p hp=>by simp at hp;subst hp;exact World.ownsRow_nil _ _ _ _));have HK3:=Ja (JF hkr.out hk3 (fun g hg hlt2=>by have:=(hO.out.row.lt g (by simpa using hg)).1;omega));have HN:Hid ((l++[((⟨1,[],[],tx⟩:Tok),Value.slice none 0 0)]).map (·.1)++JX (ns.drop (k+1))=R):=Ja (by rw [←Hf.out];simp);have HZ:Hid ((l++[((⟨1,[],[],tx⟩:Tok),Value.slice none 0 0)]).length+2 * JD (ns.drop (k+1))≤4000000):=Ja (by have:=Hz.out;simp;omega);clear hk3 hg3 ho3 hw3 Hf Hz hO;go_wp2_with fail;go_roundw
      case rel=>exact ⟨k+1,_,by omega,by go_num,HO3,HN,HZ,HK3⟩
      case measure=>simp [intOf];omega
     ·have e0:(nm==[])=false:=by simpa using hn
      have p0:=(Jp nm []).trans e0;have e1:nm.isEmpty=false:=by simpa using hn
      have z0:=a0;have z1:=a1;have h1c:=JgN at';have hpl:=JeK at';have hrA:=Ja (Zn wo w.heap.size 52 2 hBw);have HROW:=Ja hO.out.row;go_upto_region 7 with fail
      go_cut [3] from 26 to 41 (fun v9 wx=> ∃ o9 c9 l9,v9=.slice o9 l9.length c9∧Hid (JeV wx w.heap.size (.slice o9 l9.length c9) l9)∧Hid (l9.map (·.1)=l.map (·.1)++[⟨2,nm,at',[]⟩])∧Hid (Jb [] w wx))
      case first=>
       have hS0:SG (Value.slice oo l.length oc).ownBlock.toList wo g (x+k * 4) (x+k * 4+1) (.string ⟨nm.toArray⟩) (.slice qo at'.length qc) wo:=SG.of hgT a0 a1 (Jb.refl _ _)
       go_region_held3 (SG (Value.slice oo l.length oc).ownBlock.toList wo g (x+k * 4) (x+k * 4+1) (.string ⟨nm.toArray⟩) (.slice qo at'.length qc)) ((first | assumption | (refine SG.of hgT a0 a1 ?_;first | exact hkg6 | exact hkg.alloc _ | exact hkg | exact (Jb.refl _ wo) | exact (Jb.refl _ wo).drew | exact (‹SG _ wo g _ _ _ _ _›).1.alloc _ | exact (‹SG _ wo g _ _ _ _ _›).1.drewN _)))
        (first
          | (refine Qq rfl _ _ 26 (by rfl) w.heap.size 117 i0 _ 4 64 Tryz.underlying26 hi hz0 hz1 hz2 (by kernel_rfl) (by decide) (.slice oo l.length oc) l.length (JT l) (by rfl) (hrow5.alloc _) _ 1 (QS (⟨2,nm,at',[]⟩,.slice o5 at'.length c5)) (by rfl) (Ja6 (cs:=#[.int .i64 2,.string ⟨nm.toArray⟩,.slice o5 at'.length c5,.string ⟨#[]⟩]) (heap_alloc_new w5 _) rfl (by unfold maxLen;omega)) (YZ rfl) (by unfold maxLen;omega) (by omega) (by have:=hkx.size;simp;omega) ?_;intro v6 w6 ho6 hg6 hw6;obtain ⟨o6,c6,hv6⟩:=Jg ho6;subst hv6;have hk6:Jb (Value.slice oo l.length oc).ownBlock.toList w5 w6:=((Jb.refl (Value.slice oo l.length oc).ownBlock.toList w5).alloc _).grown hg6 (fun i e=>.inl (by simp [e]));have hkg6:=hkg.trans hk6)
          | (refine Qq rfl _ _ 43 (by rfl) wo.heap.size 52 j0 _ 2 32 Tryz.underlying43 hj hy0 hy1 hy2 (by kernel_rfl) (by decide) (.slice (some ⟨wo.heap.size,0,none⟩) 0 0) 0 [] (by rfl) (Zn wo wo.heap.size 52 2 (Nat.le_refl _)).drew _ at'.length (Jj at') (by rfl) (HAK.out.keeps (((Jb.refl [] wo).alloc _).drew)) h1c (by unfold maxLen;omega) (by omega) (by simp) ?_;intro v5 w5 ho5 hg5 hw5;try simp only [Nat.zero_add,List.nil_append] at ho5;obtain ⟨o5,c5,hv5⟩:=Jg ho5;subst hv5;have hkA5:Jb [wo.heap.size] (wo.alloc (.cells #[] 52)) w5:=((Jb.refl _ _).drew).grown hg5 (fun i e=>.inl (by simp [Value.ownBlock] at e ⊢;exact e.symm));have hkx:Jb [] wo w5:=JF ((Jb.refl [] wo).alloc _) hkA5 (fun g hg hlt=>by simp at hg;omega);have hkg:Jb (Value.slice oo l.length oc).ownBlock.toList wo w5:=hkx.up;have hrow5:=hkx.owns HROW.out (fun _ _=>List.not_mem_nil)))
       all_goals go_wp2_with fail
       all_goals go_meet
       all_goals exact ⟨o6,c6,l++[(⟨2,nm,at',[]⟩,.slice o5 at'.length c5)],by simp,by simpa using Ja ((hO.out.keepsNil hkx).more (l2:=[(⟨2,nm,at',[]⟩,.slice o5 at'.length c5)]) hk6 (by rw [Jda];exact ho6) (fun p hp=>by simp at hp;subst hp;exact ho5.mono hBw)),Ja (by simp),Ja (JF hkr.out hkg6 (fun g hg hlt2=>by have:=(HROW.out.lt g (by simpa using hg)).1;omega))⟩
      case rest=>
       obtain ⟨o9,c9,l9,rfl,hO9,hL9,hK9⟩:=hcut;have hie:=Ja (Jfq nm);have d0:=Jc hK9.out HE0.out;have d3:=Jc hK9.out HE3.out;have hl9:l9.length≤l.length+1:=by have h9:=congrArg List.length hL9.out;simp at h9;omega
       clear a0 a1 a2 a3 z0 z1;cases hE:Qm nm
       ·rw [hE] at hie;have hflk:=Jdq ks;have hz9:=Hz.out;have hgT9:g∉(Value.slice o9 l9.length c9).ownBlock.toList:=fun hm=>by have:=(hO9.out.row.lt g (by simpa using hm)).1;omega
        have hFC:=Ja (fun (w1:World) (hk1:Jb [] wc w1)=>HPK.out w1 ((HKW.out.trans hK9.out).trans hk1) HEM.out.2 HFK.out (by omega));have hll9:l9.length+(JX ks).length≤4000000:=by omega
        go_wp2_with fail;refine (hie.out _).mono ?_;rintro e w2 ⟨rfl,h2⟩;obtain rfl:wc=w2:=h2.symm;go_upto_region 9 with fail;have hS0:SG (Value.slice o9 l9.length c9).ownBlock.toList wc g (x+k * 4+3) (x+k * 4) (.slice ko ks.length kc) (.string ⟨nm.toArray⟩) wc:=SG.of hgT9 d3 d0 (Jb.refl _ _)
        go_region_held3 (SG (Value.slice o9 l9.length c9).ownBlock.toList wc g (x+k * 4+3) (x+k * 4) (.slice ko ks.length kc) (.string ⟨nm.toArray⟩)) ((first | assumption | (refine SG.of hgT9 d3 d0 ?_;first | exact hkg8 | exact hkg6.alloc _ | exact hkg6 | exact hkg.alloc _ | exact hkg | exact (Jb.refl _ wc) | exact (Jb.refl _ wc).drew | exact (‹SG _ wc g _ _ _ _ _›).1.alloc _ | exact (‹SG _ wc g _ _ _ _ _›).1.drewN _)))
         (first
           | (refine Qq rfl _ _ 26 (by rfl) w.heap.size 117 i0 _ 4 64 Tryz.underlying26 hi hz0 hz1 hz2 (by kernel_rfl) (by decide) (.slice o6 (l9.length+l5.length) c6) (l9.length+l5.length) (JT l9++JT l5) (by rfl) ho6 _ 1 (QS (⟨3,nm,[],[]⟩,.slice none 0 0)) (by rfl) (Ja6 (cs:=#[.int .i64 3,.string ⟨nm.toArray⟩,.slice none 0 0,.string ⟨#[]⟩]) hb96 rfl (by unfold maxLen;omega)) (YZ rfl) (by unfold maxLen;omega) (by omega) (by have:=hkg6.size;have:=hK9.out.size;first | omega | (simp;omega)) ?_;intro v8 w8 ho8 hg8 hw8;obtain ⟨o8,c8,hv8⟩:=Jg ho8;subst hv8;have hk8:Jb (Value.slice o6 (l9.length+l5.length) c6).ownBlock.toList w6 w8:=((Jb.refl (Value.slice o6 (l9.length+l5.length) c6).ownBlock.toList w6)).grown hg8 (fun i e=>.inl (by simp [e]));have hkg8:Jb (Value.slice o9 l9.length c9).ownBlock.toList wc w8:=JF hkg6 hk8 hT6)
           | (refine Qq rfl _ _ 26 (by rfl) w.heap.size 117 i0 _ 4 64 Tryz.underlying26 hi hz0 hz1 hz2 (by kernel_rfl) (by decide) (.slice o6 (l9.length+l5.length) c6) (l9.length+l5.length) (JT l9++JT l5) (by rfl) (ho6.alloc _) _ 1 (QS (⟨3,nm,[],[]⟩,.slice none 0 0)) (by rfl) (Ja6 (cs:=#[.int .i64 3,.string ⟨nm.toArray⟩,.slice none 0 0,.string ⟨#[]⟩]) (heap_alloc_new w6 _) rfl (by unfold maxLen;omega)) (YZ rfl) (by unfold maxLen;omega) (by omega) (by have:=hkg6.size;have:=hK9.out.size;first | omega | (simp;omega)) ?_;intro v8 w8 ho8 hg8 hw8;obtain ⟨o8,c8,hv8⟩:=Jg ho8;subst hv8;have hk8:Jb (Value.slice o6 (l9.length+l5.length) c6).ownBlock.toList w6 w8:=(((Jb.refl (Value.slice o6 (l9.length+l5.length) c6).ownBlock.toList w6).alloc _)).grown hg8 (fun i e=>.inl (by simp [e]));have hkg8:Jb (Value.slice o9 l9.length c9).ownBlock.toList wc w8:=JF hkg6 hk8 hT6)
           | (refine Qq rfl _ _ 26 (by rfl) w.heap.size 117 i0 _ 4 64 Tryz.underlying26 hi hz0 hz1 hz2 (by kernel_rfl) (by decide) (.slice o9 l9.length c9) l9.length (JT l9) (by rfl) (hO9.out.keepsNil hkx).row _ l5.length (JT l5) (by rfl) (Jh.of_row hr5) (JeI hat5) (by unfold maxLen;omega) (by omega) (by have:=hkx.size;have:=hK9.out.size;first | omega | (simp;omega)) ?_;intro v6 w6 ho6 hg6 hw6;obtain ⟨o6,c6,hv6⟩:=Jg ho6;subst hv6;have hk6:Jb (Value.slice o9 l9.length c9).ownBlock.toList (w5) w6:=(Jb.refl (Value.slice o9 l9.length c9).ownBlock.toList _).grown hg6 (fun i e=>.inl (by simp [e]));have HO6:=(hO9.out.keepsNil hkx).more hk6 ho6 hat5;have hkg6:Jb (Value.slice o9 l9.length c9).ownBlock.toList wc w6:=(hkg).trans hk6;have hT6: ∀ g,g∈(Value.slice o6 (l9.length+l5.length) c6).ownBlock.toList→g<wc.heap.size→g∈(Value.slice o9 l9.length c9).ownBlock.toList:=(fun g hg hlt2=>by rcases hw6 with h9 | h9;(· rw [h9] at hg;exact hg);(· rw [h9] at hg;simp at hg;have:=hkx.size;omega));(try have hb96:=(hk6.block _ (lt_of_block hb9) (fun hm=>by have:=(hO9.out.row.lt _ (by simpa using hm)).2;omega)).trans hb9))
           | (refine Qq rfl _ _ 26 (by rfl) w.heap.size 117 i0 _ 4 64 Tryz.underlying26 hi hz0 hz1 hz2 (by kernel_rfl) (by decide) (.slice o9 l9.length c9) l9.length (JT l9) (by rfl) ((hO9.out.keepsNil hkx).keepsNil ((Jb.refl [] w5).alloc (.cells #[.int .i64 3,.string ⟨nm.toArray⟩,.slice none 0 0,.string ⟨#[]⟩] 117))).row _ l5.length (JT l5) (by rfl) (Jh.of_row (hr5.alloc (.cells #[.int .i64 3,.string ⟨nm.toArray⟩,.slice none 0 0,.string ⟨#[]⟩] 117))) (JeI hat5) (by unfold maxLen;omega) (by omega) (by have:=hkx.size;have:=hK9.out.size;first | omega | (simp;omega)) ?_;intro v6 w6 ho6 hg6 hw6;obtain ⟨o6,c6,hv6⟩:=Jg ho6;subst hv6;have hk6:Jb (Value.slice o9 l9.length c9).ownBlock.toList (w5.alloc (.cells #[.int .i64 3,.string ⟨nm.toArray⟩,.slice none 0 0,.string ⟨#[]⟩] 117)) w6:=(Jb.refl (Value.slice o9 l9.length c9).ownBlock.toList _).grown hg6 (fun i e=>.inl (by simp [e]));have HO6:=((hO9.out.keepsNil hkx).keepsNil ((Jb.refl [] w5).alloc (.cells #[.int .i64 3,.string ⟨nm.toArray⟩,.slice none 0 0,.string ⟨#[]⟩] 117))).more hk6 ho6 (fun p hp=>(hat5 p hp).alloc _);have hkg6:Jb (Value.slice o9 l9.length c9).ownBlock.toList wc w6:=(hkg.alloc (.cells #[.int .i64 3,.string ⟨nm.toArray⟩,.slice none 0 0,.string ⟨#[]⟩] 117)).trans hk6;have hT6: ∀ g,g∈(Value.slice o6 (l9.length+l5.length) c6).ownBlock.toList→g<wc.heap.size→g∈(Value.slice o9 l9.length c9).ownBlock.toList:=(fun g hg hlt2=>by rcases hw6 with h9 | h9;(· rw [h9] at hg;exact hg);(· rw [h9] at hg;simp at hg;have:=hkx.size;omega));have hb96:=(hk6.block w5.heap.size (by simp) (fun hm=>by have:=(hO9.out.row.lt _ (by simpa using hm)).2;have:=hkx.size;omega)).trans (heap_alloc_new w5 _))
           | (go_at_call 203;refine (hFC.out _ (by first | exact (Jb.refl [] wc).drew | exact ((Jb.refl [] wc).alloc _).drew)).mono ?_;rintro e w5 ⟨v5,rfl,⟨l5,hl5,hr5,ha5⟩,hk5⟩;obtain ⟨o5,c5,hv5⟩:=Jg hr5;subst hv5;have hkx:Jb [] wc w5:=(by first | exact ((Jb.refl [] wc).drew).trans hk5 | exact (((Jb.refl [] wc).alloc (.cells #[.int .i64 3,.string ⟨nm.toArray⟩,.slice none 0 0,.string ⟨#[]⟩] 117)).drew).trans hk5);have hkg:Jb (Value.slice o9 l9.length c9).ownBlock.toList wc w5:=hkx.up;have hat5: ∀ p∈l5,J6 w5 w.heap.size p:=(fun p hp=>(ha5 p hp).mono (by have:=hK9.out.size;first | omega | (simp;omega)));have hl5l:l5.length≤(JX ks).length:=(by have h9:=congrArg List.length hl5;simp at h9;omega);have HL5:=Ja hl5;clear hl5;(try have hb9:w5.heap[wc.heap.size]?=some (.cells #[.int .i64 3,.string ⟨nm.toArray⟩,.slice none 0 0,.string ⟨#[]⟩] 117 (0,0)):=(hk5.block _ (by simp) List.not_mem_nil).trans (heap_alloc_new wc _))))
        all_goals go_wp2_with fail
        all_goals (refine ⟨⟨k+1,l9++l5++[(⟨3,nm,[],[]⟩,.slice none 0 0)],by omega,by go_num,Ja (HO6.more (l2:=[(⟨3,nm,[],[]⟩,.slice none 0 0)]) hk8 (by rw [Jda];simpa [JT] using ho8) (fun p hp=>by simp at hp;subst hp;exact World.ownsRow_nil _ _ _ _)),Ja ?_,Ja ?_,Ja (JF hK9.out hkg8 (fun g hg hlt2=>by have:=(hO9.out.row.lt g (by simpa using hg)).1;omega))⟩,?_⟩)
        all_goals first
         | (rw [←Hf.out];simp [hL9.out,HL5.out,e1,hE])
         | (simp;omega)
         | (simp [intOf];omega)
       ·rw [hE] at hie;have hks:ks=[]:=HEM.out.1 hE;have HN:Hid (l9.map (·.1)++JX (ns.drop (k+1))=R):=Ja (by rw [←Hf.out,hL9.out,hks];simp [e1,hE,JX]);have HZ:Hid (l9.length+2 * JD (ns.drop (k+1))≤4000000):=Ja (by have:=Hz.out;omega);clear hks;go_wp2_with fail;refine (hie.out _).mono ?_;rintro e w2 ⟨rfl,h2⟩;obtain rfl:wc=w2:=h2.symm;go_wp2_with fail;go_roundw
        case rel=>exact ⟨k+1,l9,by omega,by go_num,hO9,HN,HZ,hK9⟩
        case measure=>simp [intOf];omega
    ·have he:k=nl.length:=by omega
     subst he;have hf9:=hf.out;rw [Hll.out,List.drop_length] at hf9;simp only [JX,List.append_nil] at hf9;have HF9:=Ja hf9;clear hf9 hf hz;go_wp2_with fail;go_ret;exact ⟨_,rfl,⟨l,HF9.out,hO.out.row,hO.out.attrs⟩,hkr.out⟩
end Go.Proofs.YtlcljanibjdejaaGreat
