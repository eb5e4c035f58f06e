/- ShelfTells holds: the law returns true for every input, and each argument reads behind the call as it read before; no condition. A part of its proof. -/
import Derived.Test.YtlcljanibjdejaaGreatSt08
import Derived.RegionDies
import Derived.Lib.FieldsP
import Derived.Lib.SpaceUEq
import Derived.Lib.TrimAscii
import Derived.Lib.MapLaws
import Derived.Lib.Join
import Derived.Lib.Strings
import Derived.Laws.RangeAny
set_option maxHeartbeats 64000000
namespace Go.Proofs.YtlcljanibjdejaaGreat
open Go.RowKit Go.Maps
def Yf (r:Nat) (allv textv:Value):List Nat:=r::(textv.ownBlock.toList++allv.ownBlock.toList)
structure Ls (w:World) (B r:Nat) (allv textv:Value) (l:List Pn) (text:List UInt8):Prop where
 blk:w.heap[r]?=some (.cells #[allv,textv] 199 (0,0))
 all:w.ownsRow B 45 4 allv l.length (Jk l)
 txt:w.ownsRow B 5 1 textv text.length (Lib.byteCells text)
 done: ∀ q∈l,QB w (Qp B (Yf r allv textv)) q.av q.nd.attrs.length 2 (Jj q.nd.attrs)∧Ns w (Qp B (Yf r allv textv)) q.kv q.nd.kids
 hr:B≤r
 pos:0<B
section
variable {w w':World} {B r:Nat} {allv textv:Value} {l:List Pn} {text:List UInt8}
theorem Jbw {g:Nat}:g∈Yf r allv textv↔g=r∨textv.ownBlock=some g∨allv.ownBlock=some g:=by simp [Yf]
theorem Ls.lt (h:Ls w B r allv textv l text):r<w.heap.size:=lt_of_block h.blk
theorem Ls.cell0 (h:Ls w B r allv textv l text):w.cell? ⟨r,0,none⟩=some allv:=Jd h.blk 0
theorem Ls.cell1 (h:Ls w B r allv textv l text):w.cell? ⟨r,1,none⟩=some textv:=Jd h.blk 1
theorem Ls.free (h:Ls w B r allv textv l text) (j:Nat):w.frozen? ⟨r,j,none⟩=false:=Jn h.blk j
theorem Ls.keepsNil (h:Ls w B r allv textv l text) (hk:Jb [] w w'):Ls w' B r allv textv l text:=
 ⟨by rw [hk.block r h.lt List.not_mem_nil];exact h.blk,hk.owns h.all (fun _ _=>List.not_mem_nil),hk.owns h.txt (fun _ _=>List.not_mem_nil),fun q hq=>⟨(h.done q hq).1.keeps hk (fun _ _=>List.not_mem_nil),(h.done q hq).2.keeps hk (fun _ _=>List.not_mem_nil)⟩,h.hr,h.pos⟩
theorem Ls.ge (h:Ls w B r allv textv l text): ∀ g,g∈Yf r allv textv→B≤g∧g<w.heap.size:=fun g hg=>by
 rcases Jbw.1 hg with rfl | hg | hg
 ·exact ⟨h.hr,h.lt⟩
 ·exact h.txt.lt g hg
 ·exact h.all.lt g hg
theorem Ls.setText (h:Ls w B r allv textv l text) (hk:Jb textv.ownBlock.toList w w') {tv:Value} {tx:List UInt8} (ho:w'.ownsRow B 5 1 tv tx.length (Lib.byteCells tx)) (hw:tv.ownBlock=textv.ownBlock∨ ∃ n,tv.ownBlock=some n∧w.heap.size≤n):
  Ls (w'.setCell ⟨r,1,none⟩ tv) B r allv tv l tx∧Stp w (Yf r allv textv) (w'.setCell ⟨r,1,none⟩ tv) (Yf r allv tv):=by
 have hrt:r∉textv.ownBlock.toList:=fun hm=>Jt h.txt h.blk (by decide) (by simpa using hm);have hks:Jb [r] w' (w'.setCell ⟨r,1,none⟩ tv):=(Jb.refl [r] w').setCell (.inl (by simp)) _;have hblk':w'.heap[r]?=some (.cells #[allv,textv] 199 (0,0)):=by rw [hk.block r h.lt hrt];exact h.blk
 have hkk:Jb (r::textv.ownBlock.toList) w (w'.setCell ⟨r,1,none⟩ tv):=(hk.to (by simp;exact fun _ h=>.inr h)).trans (hks.to (by simp));have hS: ∀ g,g∈r::textv.ownBlock.toList→g∈Yf r allv textv:=by
  intro g hg;rw [Jbw];simp at hg;rcases hg with hg | hg
  ·exact .inl hg
  ·exact .inr (.inl hg)
 have hT: ∀ g,g<w.heap.size→g∈Yf r allv tv→g∈Yf r allv textv:=by
  intro g hg hm;rw [Jbw] at hm ⊢;rcases hm with hm | hm | hm
  ·exact .inl hm
  ·rcases hw with hw | ⟨n,hw,hn⟩
   ·exact .inr (.inl (hw ▸ hm))
   ·rw [hw] at hm;simp at hm;omega
  ·exact .inr (.inr hm)
 refine ⟨⟨?_,?_,hks.owns ho (fun g hg hm=>by simp at hm;subst hm;exact Jt ho hblk' (by decide) hg),fun q hq=>⟨(h.done q hq).1.move hkk hS hT,(h.done q hq).2.move hkk hS hT⟩,h.hr,h.pos⟩,hkk.to hS,fun g hm hg=>hT g hg hm⟩
 ·simp [World.setCell,Array.getElem?_modify,hblk']
 ·refine hkk.owns h.all (fun g hg hm=>?_);simp at hm;rcases hm with hm | hm
  ·subst hm;exact Jt h.all h.blk (by decide) hg
  ·exact Qk h.all h.txt (by decide) hg hm
theorem Ls.push {q:Pn} (h:Ls w B r allv textv l text) (hk:Jb allv.ownBlock.toList w w') {av:Value} (ho:w'.ownsRow B 45 4 av (l.length+1) (Jk l++Qd q)) (hw:av.ownBlock=allv.ownBlock∨ ∃ n,av.ownBlock=some n∧w.heap.size≤n)
  (hqa:QB w (Qp B (Yf r allv textv)) q.av q.nd.attrs.length 2 (Jj q.nd.attrs)) (hqk:Ns w (Qp B (Yf r allv textv)) q.kv q.nd.kids):
  Ls (w'.setCell ⟨r,0,none⟩ av) B r av textv (l++[q]) text∧Stp w (Yf r allv textv) (w'.setCell ⟨r,0,none⟩ av) (Yf r av textv):=by
 have hro:r∉allv.ownBlock.toList:=fun hm=>Jt h.all h.blk (by decide) (by simpa using hm);have hks:Jb [r] w' (w'.setCell ⟨r,0,none⟩ av):=(Jb.refl [r] w').setCell (.inl (by simp)) _;have hblk':w'.heap[r]?=some (.cells #[allv,textv] 199 (0,0)):=by rw [hk.block r h.lt hro];exact h.blk
 have hkk:Jb (r::allv.ownBlock.toList) w (w'.setCell ⟨r,0,none⟩ av):=(hk.to (by simp;exact fun _ h=>.inr h)).trans (hks.to (by simp));have hS: ∀ g,g∈r::allv.ownBlock.toList→g∈Yf r allv textv:=by
  intro g hg;rw [Jbw];simp at hg;rcases hg with hg | hg
  ·exact .inl hg
  ·exact .inr (.inr hg)
 have hT: ∀ g,g<w.heap.size→g∈Yf r av textv→g∈Yf r allv textv:=by
  intro g hg hm;rw [Jbw] at hm ⊢;rcases hm with hm | hm | hm
  ·exact .inl hm
  ·exact .inr (.inl hm)
  ·rcases hw with hw | ⟨n,hw,hn⟩
   ·exact .inr (.inr (hw ▸ hm))
   ·rw [hw] at hm;simp at hm;omega
 have ec:Jk (l++[q])=Jk l++Qd q:=by simp [Jk]
 refine ⟨⟨?_,?_,?_,fun p hp=>?_,h.hr,h.pos⟩,hkk.to hS,fun g hm hg=>hT g hg hm⟩
 ·simp [World.setCell,Array.getElem?_modify,hblk']
 ·rw [ec,List.length_append,List.length_singleton];exact hks.owns ho (fun g hg hm=>by simp at hm;subst hm;exact Jt ho hblk' (by decide) hg)
 ·refine hkk.owns h.txt (fun g hg hm=>?_);simp at hm;rcases hm with hm | hm
  ·subst hm;exact Jt h.txt h.blk (by decide) hg
  ·exact Qk h.txt h.all (by decide) hg hm
 ·rcases List.mem_append.1 hp with hp | hp
  ·exact ⟨(h.done p hp).1.move hkk hS hT,(h.done p hp).2.move hkk hS hT⟩
  ·simp at hp;subst hp;exact ⟨hqa.move hkk hS hT,hqk.move hkk hS hT⟩
end
def LsT (w:World) (B r:Nat) (s:Lst) (T:List Nat):Prop:= ∃ allv textv l,T=Yf r allv textv∧l.map Pn.nd=s.all∧Ls w B r allv textv l s.text
theorem LsT.keepsNil {w w':World} {B r:Nat} {s:Lst} {T:List Nat} (h:LsT w B r s T) (hk:Jb [] w w'):LsT w' B r s T:=by
 obtain ⟨a,t,l,e1,e2,h⟩:=h;exact ⟨a,t,l,e1,e2,h.keepsNil hk⟩
theorem LsT.ge {w:World} {B r:Nat} {s:Lst} {T:List Nat} (h:LsT w B r s T):(∀ g,g∈T→B≤g∧g<w.heap.size)∧B≤w.heap.size:=by
 obtain ⟨a,t,l,rfl,e2,h⟩:=h;exact ⟨h.ge,Nat.le_trans h.hr (Nat.le_of_lt h.lt)⟩
def JjS (w:World) (g:Nat) (n:List UInt8) (av:Value) (t:List UInt8) (kv:Value):Prop:=
 w.cell? ⟨g,0,none⟩=some (.string ⟨n.toArray⟩)∧w.cell? ⟨g,1,none⟩=some av∧w.cell? ⟨g,2,none⟩=some (.string ⟨t.toArray⟩)∧w.cell? ⟨g,3,none⟩=some kv
theorem JjS.keeps {w w':World} {S:List Nat} {g:Nat} {n t:List UInt8} {av kv:Value} (h:JjS w g n av t kv) (hk:Jb S w w') (hg:g∉S):JjS w' g n av t kv:=
 ⟨JE hk hg h.1,JE hk hg h.2.1,JE hk hg h.2.2.1,JE hk hg h.2.2.2⟩
theorem JjS.of {w:World} {g:Nat} {n t:List UInt8} {av kv:Value} {ty:TypeId} (h:w.heap[g]?=some (.cells #[.string ⟨n.toArray⟩,av,.string ⟨t.toArray⟩,kv] ty (0,0))):JjS w g n av t kv:=
 ⟨Jd h 0,Jd h 1,Jd h 2,Jd h 3⟩
structure Kp (w:World) (B q:Nat) (n:List UInt8) (av:Value) (kl:List Jw):Prop where
 blk:w.heap[q]?=some (.cells #[.string ⟨n.toArray⟩,av,.string ⟨#[]⟩,.slice none 0 0] 45 (0,0))
 row:w.ownsRow B 52 2 av kl.length (Jj kl)
theorem Kp.ne {w:World} {B q:Nat} {n:List UInt8} {av:Value} {kl:List Jw} (h:Kp w B q n av kl):q∉av.ownBlock.toList:=fun hm=>Jt h.row h.blk (by decide) (by simpa using hm)
theorem Kp.keeps {w w':World} {B q:Nat} {n:List UInt8} {av:Value} {kl:List Jw} {S:List Nat} (h:Kp w B q n av kl) (hk:Jb S w w') (hq:q∉S) (ha: ∀ g,av.ownBlock=some g→g∉S):Kp w' B q n av kl:=
 ⟨by rw [hk.block q (lt_of_block h.blk) hq];exact h.blk,hk.owns h.row ha⟩
theorem Kp.grow {w w':World} {B q:Nat} {n:List UInt8} {av:Value} {kl:List Jw} (h:Kp w B q n av kl) (hk:Jb av.ownBlock.toList w w') {av':Value} {p:Jw} (ho:w'.ownsRow B 52 2 av' (kl.length+1) (Jj kl++[.string ⟨p.1.toArray⟩,.string ⟨p.2.toArray⟩])):
  Kp (w'.setCell ⟨q,1,none⟩ av') B q n av' (kl++[p]):=by
 have hb:w'.heap[q]?=some (.cells #[.string ⟨n.toArray⟩,av,.string ⟨#[]⟩,.slice none 0 0] 45 (0,0)):=(hk.block q (lt_of_block h.blk) h.ne).trans h.blk;refine ⟨?_,?_⟩
 ·simp [World.setCell,Array.getElem?_modify,hb]
 ·have e:Jj (kl++[p])=Jj kl++[.string ⟨p.1.toArray⟩,.string ⟨p.2.toArray⟩]:=by simp [Jj]
  rw [e,List.length_append,List.length_singleton];exact X3 ho (Jt ho hb (by decide)) _
theorem LsT.ns {w:World} {B r:Nat} {s:Lst} {T:List Nat} (h:LsT w B r s T): ∃ allv textv,w.heap[r]?=some (.cells #[allv,textv] 199 (0,0))∧(∃ o n c,allv=.slice o n c)∧Ns w (fun g=>B≤g) allv s.all:=by
 obtain ⟨allv,textv,l,rfl,e2,h⟩:=h;obtain ⟨o,c,ho⟩:=Jg h.all;refine ⟨allv,textv,h.blk,⟨o,_,c,ho⟩,.mk _ l _ e2 (QB.of_row h.all (fun g hg=>(h.all.lt g hg).1)) (fun p hp=>(h.done p hp).1.mono (fun _ _ hg=>hg.1)) (fun p hp=>(h.done p hp).2.mono (fun _ _ hg=>hg.1))⟩
def JkO:List Nd→Nat
 | []=>0
 | .mk _ _ t k::r=>1+t.length+JkO k+JkO r
def YR:List Nd→Prop
 | []=>True
 | .mk _ a _ k::r=>(a.length≤1000000∧ ∀ p∈a,p.2.length≤maxLen)∧YR k∧YR r
theorem YR.at {n:Nd}:{ns:List Nd}→YR ns→n∈ns→n.attrs.length≤1000000∧(∀ p∈n.attrs,p.2.length≤maxLen)∧YR n.kids
 | .mk _ a _ k::r,h,hm=>by
   rw [YR] at h;rcases List.mem_cons.1 hm with rfl | hm
   ·exact ⟨h.1.1,h.1.2,h.2.1⟩
   ·exact YR.at h.2.2 hm
def wT (t:Tok):Nat:=if t.kind=2 then 2 else if t.kind=1 then 1 else 0
def wL (ts:List Tok):Nat:=(ts.map wT).sum
theorem Jk4 (a b:List Tok):wL (a++b)=wL a+wL b:=by simp [wL]
theorem JoK (raw:List UInt8):wL (Xp raw)=if raw=[] then 0 else 1:=by
 unfold Xp;split
 ·rfl
 ·simp [wL,wT,XG]
def ZT (k:Nat) (raw:List UInt8) (out:List Tok):Prop:=wL out+(if raw=[] then 0 else 1)≤k
theorem ZT.tag {k k':Nat} {raw:List UInt8} {out:List Tok} (h:ZT k raw out) (t:Tok) (hk:k+wT t≤k'):ZT k' [] (out++Xp raw++[t]):=by
 unfold ZT at h ⊢;rw [Jk4,Jk4,JoK];have:wL [t]=wT t:=by simp [wL]
 rw [this,if_pos rfl];omega
theorem ZT.on {k k':Nat} {raw raw':List UInt8} {out:List Tok} (h:ZT k raw out) (hk:k<k'):ZT k' raw' out:=by
 unfold ZT at h ⊢;split
 ·omega
 ·omega
theorem JrD {N:List UInt8} (h:JB (Jx N)=true):1≤N.length:=by
 unfold JB at h;simp [Jx] at h;omega
theorem JlH {l:List UInt8} {k:Nat} {raw:List UInt8} {out:List Tok} {k':Nat} {raw':List UInt8} {out':List Tok} (h:Qa l k raw out=some (k',raw',out')) (hk:k<l.length) (hg:ZT k raw out):ZT k' raw' out':=by
 have hb:=(Xr h hk).1;unfold Qa at h;split at h
 ·unfold Jaq at h;split at h
  ·simp at h
  ·rename_i a k2 ha;have hk2:=JcV _ _ _ _ _ _ ha;split at h
   ·rename_i hn;have hp:=JrD hn;simp only [Option.some.injEq,Prod.mk.injEq] at h;obtain ⟨rfl,rfl,rfl⟩:=h;refine hg.tag _ ?_;have e0:JY ([]:List Jw)=0:=rfl;rw [e0] at hk2;have:wT ⟨2,Jx ((l.drop (k+1)).takeWhile QJ),a,[]⟩=2:=rfl;rw [this];omega
   ·simp only [Option.some.injEq,Prod.mk.injEq] at h;obtain ⟨rfl,rfl,rfl⟩:=h;exact hg.on hb
 split at h
 ·unfold Zc at h;split at h
  ·simp at h
  ·split at h
   ·simp only [Option.some.injEq,Prod.mk.injEq] at h;obtain ⟨rfl,rfl,rfl⟩:=h;refine hg.tag _ ?_;have:wT ⟨3,Jx ((l.drop (k+2)).takeWhile QJ),[],[]⟩=0:=rfl;rw [this];omega
   ·simp only [Option.some.injEq,Prod.mk.injEq] at h;obtain ⟨rfl,rfl,rfl⟩:=h;exact hg.on hb
 split at h
 ·unfold Jd0 at h;split at h
  ·simp at h
  ·simp only [Option.some.injEq,Prod.mk.injEq] at h;obtain ⟨rfl,rfl,rfl⟩:=h;exact hg.on hb
 split at h
 ·unfold Jbl at h;split at h
  ·simp at h
  ·simp only [Option.some.injEq,Prod.mk.injEq] at h;obtain ⟨rfl,rfl,rfl⟩:=h;exact hg.on hb
 ·unfold Jaw at h;simp only [Option.some.injEq,Prod.mk.injEq] at h;obtain ⟨rfl,rfl,rfl⟩:=h;exact hg.on hb
theorem JiX {k:Nat} {raw:List UInt8} {out:List Tok} (h:ZT k raw out):wL (out++Xp raw)≤k:=by
 unfold ZT at h;rw [Jk4,JoK];exact h
theorem Jdd (l:List UInt8): ∀ (f k:Nat) (raw:List UInt8) (out:List Tok),k≤l.length→ZT k raw out→wL (Xl l f k raw out)≤l.length
 | 0,k,raw,out,hk,hg=>Nat.le_trans (JiX hg) hk
 | f+1,k,raw,out,hk,hg=>by
   by_cases he:l.length≤k
   ·rw [Yn he];exact Nat.le_trans (JiX hg) hk
   ·have hlt:k<l.length:=by omega
    cases hp:Qa l k raw out with
    | none=>
      rw [Y7 hlt hp];exact Jdd l f _ _ _ (Nat.le_refl _) (hg.on hlt)
    | some q=>
      obtain ⟨k',raw',out'⟩:=q;rw [XI hlt hp];exact Jdd l f _ _ _ (Xr hp hlt).2.1 (JlH hp hlt hg)
theorem Jgr (l:List UInt8):wL (JL l)≤l.length:=Jdd l _ 0 [] [] (Nat.zero_le _) (by simp [ZT,wL])
theorem Jrl (a b:List Nd):JX (a++b)=JX a++JX b:=by
 induction a with
 | nil=>simp [JX]
 | cons n a ih=>rw [List.cons_append,Jbn,Jbn,ih,List.append_assoc]
def wN (ns:List Nd):Nat:=(JX ns).length
theorem JfK (a b:List Nd):wN (a++b)=wN a+wN b:=by simp [wN,Jrl]
theorem Jcm:wN []=0:=by simp [wN,JX]
theorem Jmq (t:List UInt8):wN [Xn t]=1:=by simp [wN,JX,Xn]
theorem Jiw (n:Nd) (r:List Nd):wN (n::r)=(if n.name.isEmpty=true then 1 else 1+wN n.kids+(if Qm n.name=true then 0 else 1))+wN r:=by
 unfold wN;rw [Jbn,List.length_append];split
 ·rfl
 ·split<;>simp<;>omega
theorem JqS (n:Nd):wN [n]≤2+wN n.kids:=by
 rw [Jiw,Jcm];split
 ·omega
 ·split<;>omega
def St.wt (s:St):Nat:=(s.all.map fun o=>wN o.kids).sum+2 * s.up.length+if s.text=[] then 0 else 1
theorem JbG (s:St):(s.all.map fun o=>wN o.kids).sum=(s.up.map fun o=>wN o.kids).sum+wN s.cur.kids:=by
 simp [St.all,List.sum_reverse]
theorem JeC (s:St):s.endText.wt=s.wt:=by
 unfold St.endText;split
 ·rfl
 ·next h=>
  unfold St.wt;rw [JbG,JbG];simp only [Op.put,JfK,Jmq,h,if_true,if_false];omega
theorem JtE (s:St):s.pop.wt≤s.wt:=by
 rw [←JeC s];have h1:=QG s;have h2:=QD s;unfold St.pop;split
 ·exact Nat.le_refl _
 ·next o up h=>
  unfold St.wt;rw [JbG,JbG,h1,h,h2];have:=JqS s.endText.cur.nd;have e:s.endText.cur.nd.kids=s.endText.cur.kids:=rfl;rw [e] at this;simp only [Op.put,JfK,List.map_cons,List.sum_cons,List.length_cons,if_true];omega
theorem JgY (k:Nat) (s:St):(s.close k).wt≤s.wt:=by
 induction k generalizing s with
 | zero=>exact Nat.le_refl _
 | succ k ih=>rw [St.close];exact Nat.le_trans (ih _) (JtE s)
theorem Jtd (s:St) (t:Tok):(s.step t).wt≤s.wt+wT t:=by
 unfold St.step wT;by_cases h1:t.kind=1
 ·rw [if_pos h1,if_neg (by rw [h1];decide),if_pos h1];unfold St.wt;simp only [St.all];split<;>split<;>omega
 ·rw [if_neg h1];by_cases h2:t.kind=2
  ·rw [if_pos h2,if_pos h2];unfold St.openTag;have hc:=JgY (s.up.length+1 - Jm s.names t.name) s;split
   ·exact Nat.le_trans hc (by omega)
   ·unfold St.closeFrom;generalize s.close (s.up.length+1 - Jm s.names t.name)=s1 at hc;rw [←JeC s1] at hc;refine Nat.le_trans ?_ (Nat.add_le_add_right hc 2);have h1:=QG s1;have h2:=QD s1;unfold St.openIn;split
    ·unfold St.wt;rw [JbG,JbG];have:=JqS (.mk t.name t.attrs [] []);have e:wN (Nd.mk t.name t.attrs [] []).kids=0:=Jcm;rw [e] at this;simp only [St.put,Op.put,JfK,h2];omega
    ·unfold St.wt;rw [JbG,JbG,h1,h2];simp only [List.map_cons,List.sum_cons,List.length_cons,Jcm,if_true];omega
  ·rw [if_neg h2,if_neg h2,if_neg h1];exact Nat.le_trans (JgY _ s) (by omega)
theorem Jtb (ts:List Tok) (s:St):(ts.foldl St.step s).wt≤s.wt+wL ts:=by
 induction ts generalizing s with
 | nil=>simp [wL]
 | cons t ts ih=>
   rw [List.foldl_cons,show wL (t::ts)=wT t+wL ts from by simp [wL]];have:=ih (s.step t);have:=Jtd s t;omega
theorem Jk5 (ts:List Tok):wN (JP ts)≤wL ts:=by
 have h1:=Jtb ts St.start;have h0:St.start.wt=0:=by simp [St.wt,St.all,St.start,Jcm]
 rw [h0] at h1;unfold JP St.closeFrom;have h2:=JgY ((ts.foldl St.step St.start).up.length+1 - 1) (ts.foldl St.step St.start);generalize (ts.foldl St.step St.start).close ((ts.foldl St.step St.start).up.length+1 - 1)=u at *;rw [←JeC] at h2;have h3:wN u.endText.cur.kids≤u.endText.wt:=by unfold St.wt;rw [JbG];omega
 omega
def Lst.wt (s:Lst):Nat:=wN s.all+if s.text.isEmpty=true then 0 else 1
theorem Jiy (s:Lst):wN s.done=s.wt:=by
 unfold Lst.done Lst.wt;split
 ·rfl
 ·rw [JfK,Jmq]
theorem Jtc (s:Lst) (n:Nd) (hn: ¬ n.name.isEmpty=true):(s.put n).wt=s.wt+wN [n]:=by
 unfold Lst.put;rw [if_neg hn];unfold Lst.wt;simp only;rw [JfK,Jiy];simp [Lst.wt]
theorem Z2 (base:List UInt8): ∀ (l:List Nd) (s:Lst),(JJ base s l).wt≤s.wt+wN l
 | [],s=>by rw [JJ,Jcm];exact Nat.le_refl _
 | .mk n a t k::r,s=>by
   rw [JJ,Jiw];have e1:(Nd.mk n a t k).name=n:=rfl;have e2:(Nd.mk n a t k).kids=k:=rfl;rw [e1,e2];by_cases h1:n.isEmpty=true
   ·rw [if_pos h1,if_pos h1];have:=Z2 base r (s.put (.mk n a t k));have h2:(s.put (.mk n a t k)).wt≤s.wt+1:=by
     unfold Lst.put;rw [if_pos (show (Nd.mk n a t k).name.isEmpty=true from h1)];unfold Lst.wt;simp only;split<;>omega
    omega
   ·rw [if_neg h1,if_neg h1];by_cases h2:Jhp n=true
    ·rw [if_pos h2];have:=Z2 base r s;omega
    ·rw [if_neg h2];by_cases h3:JO n=false
     ·rw [if_pos h3];have:=Z2 base r (JJ base s k);have:=Z2 base k s;omega
     ·rw [if_neg h3];by_cases h4:QY n (XW base n a)=0
      ·rw [if_pos h4];have g1:=Z2 base r (s.put (.mk n (XW base n a) [] (JJ base ⟨[],[]⟩ k).done));have g2:=Jtc s (.mk n (XW base n a) [] (JJ base ⟨[],[]⟩ k).done) h1;have g3:=Z2 base k ⟨[],[]⟩;have g4:=Jiy (JJ base ⟨[],[]⟩ k);have g5:(⟨[],[]⟩:Lst).wt=0:=by simp [Lst.wt,Jcm]
       rw [Jiw,Jcm] at g2;have e3:(Nd.mk n (XW base n a) [] (JJ base ⟨[],[]⟩ k).done).name=n:=rfl;have e4:(Nd.mk n (XW base n a) [] (JJ base ⟨[],[]⟩ k).done).kids=(JJ base ⟨[],[]⟩ k).done:=rfl;rw [e3,e4,if_neg h1] at g2;omega
      ·rw [if_neg h4];have:=Z2 base r s;omega
theorem JoD (base:List UInt8) (l:List Nd):wN (Zb base l)≤wN l:=by
 have:=Z2 base l ⟨[],[]⟩;unfold Zb;rw [Jiy];have h5:(⟨[],[]⟩:Lst).wt=0:=by simp [Lst.wt,Jcm]
 omega
theorem Jro (base s:List UInt8):(JX (Zb base (JP (JL s)))).length≤s.length:=
 Nat.le_trans (JoD base _) (Nat.le_trans (Jk5 _) (Jgr s))
theorem Jm8 {base v:List UInt8}:(Jkt base v).length≤v.length+3000:=by
 unfold Jkt;split
 ·omega
 ·cases h:JdN base v with
  | none=>rw [Option.getD_none];omega
  | some r=>have:=(Jql h).2.2;rw [Option.getD_some];omega
def Jbg:List Nd→Nat
 | []=>0
 | .mk _ a _ k::r=>a.length+Jbg k+Jbg r
theorem JiW (base n:List UInt8): ∀ l:List Jw,JY (XW base n l)≤JY l+3000 * l.length
 | []=>by simp [XW,JY]
 | a::l=>by
   have h:=JiW base n l;have ea:JY (a::l)=(a.1.length+a.2.length+2)+JY l:=by simp [JY]
   have h1:(JaU base a).2.length≤a.2.length+3000:=by
    unfold JaU;split
    ·exact Jm8
    ·omega
   have h2:(JaU base a).1.length=a.1.length:=by rw [JfI]
   unfold XW at h ⊢;rw [List.map_cons,List.filter_cons,ea,List.length_cons];split
   ·have e2:JY (JaU base a::(l.map (JaU base)).filter (fun a=>YB n a==0))=((JaU base a).1.length+(JaU base a).2.length+2)+JY ((l.map (JaU base)).filter (fun a=>YB n a==0)):=by simp [JY]
    rw [e2];omega
   ·omega
def Lst.bulk (s:Lst):Nat:=J1 s.all+if s.text.isEmpty=true then 0 else s.text.length+3
theorem Jei (s:Lst):J1 s.done=s.bulk:=by
 unfold Lst.done Lst.bulk;split
 ·rfl
 ·rw [ZG];simp [Xn,J1,Ja3]
theorem Jm6 (s:Lst) (n:List UInt8) (a:List Jw) (t:List UInt8) (k:List Nd) (hn:n.isEmpty=true):(s.put (.mk n a t k)).bulk≤s.bulk+t.length+3:=by
 unfold Lst.put;rw [if_pos (show (Nd.mk n a t k).name.isEmpty=true from hn)];unfold Lst.bulk;simp only [Nd.text];cases s.text<;>cases t<;>simp<;>omega
theorem Jm5 (s:Lst) (n:Nd) (hn: ¬ n.name.isEmpty=true):(s.put n).bulk=s.bulk+J1 [n]:=by
 unfold Lst.put;rw [if_neg hn];unfold Lst.bulk;simp only;rw [ZG,Jei];simp [Lst.bulk]
theorem YT (base:List UInt8): ∀ (l:List Nd) (s:Lst),(JJ base s l).bulk≤s.bulk+(J1 l+3000 * Jbg l)
 | [],s=>by rw [JJ];exact Nat.le_add_right _ _
 | .mk n a t k::r,s=>by
   rw [JJ,J1,Jbg];by_cases h1:n.isEmpty=true
   ·rw [if_pos h1];have:=YT base r (s.put (.mk n a t k));have:=Jm6 s n a t k h1;omega
   ·rw [if_neg h1];by_cases h2:Jhp n=true
    ·rw [if_pos h2];have:=YT base r s;omega
    ·rw [if_neg h2];by_cases h3:JO n=false
     ·rw [if_pos h3];have:=YT base r (JJ base s k);have:=YT base k s;omega
     ·rw [if_neg h3];by_cases h4:QY n (XW base n a)=0
      ·rw [if_pos h4];have g1:=YT base r (s.put (.mk n (XW base n a) [] (JJ base ⟨[],[]⟩ k).done));have g2:=Jm5 s (.mk n (XW base n a) [] (JJ base ⟨[],[]⟩ k).done) h1;have g3:=YT base k ⟨[],[]⟩;have g4:=Jei (JJ base ⟨[],[]⟩ k);have g5:(⟨[],[]⟩:Lst).bulk=0:=by simp [Lst.bulk,J1]
       have g6:=JiW base n a;rw [J1,J1] at g2;simp only [List.length_nil] at g2;omega
      ·rw [if_neg h4];have:=YT base r s;omega
theorem Jlf (base:List UInt8) (l:List Nd):J1 (Zb base l)≤J1 l+3000 * Jbg l:=by
 have:=YT base l ⟨[],[]⟩;unfold Zb;rw [Jei];have h5:(⟨[],[]⟩:Lst).bulk=0:=by simp [Lst.bulk,J1]
 omega
def Q8:List Nd→Nat
 | []=>0
 | .mk n _ _ k::r=>n.length+5+Q8 k+Q8 r
theorem Jbx:(ns:List Nd)→Q8 ns≤2 * J1 ns
 | []=>by simp [Q8]
 | .mk n a t k::r=>by
   have h1:=Jbx k;have h2:=Jbx r;rw [Q8,J1];omega
theorem JiZ (a b:List Nd):Q8 (a++b)=Q8 a+Q8 b:=by
 induction a with
 | nil=>simp [Q8]
 | cons n a ih=>cases n;rw [List.cons_append,Q8,Q8,ih];omega
theorem Jbo:(ns:List Nd)→Qh (JX ns)≤J1 ns+Q8 ns
 | []=>by simp [JX,Qh]
 | .mk n a t k::r=>by
   have h1:=Jbo k;have h2:=Jbo r;rw [JX,J1,Q8,YS];split
   ·have e1:Qh [⟨1,[],[],t⟩]=t.length+4:=by simp [Qh,Yc,Ja3]
    omega
   ·rw [show (⟨2,n,a,[]⟩::(JX k++if Qm n=true then [] else [⟨3,n,[],[]⟩]):List Tok)=[⟨2,n,a,[]⟩]++(JX k++if Qm n=true then [] else [⟨3,n,[],[]⟩]) from rfl,YS,YS];have e1:Qh [⟨2,n,a,[]⟩]=n.length+JY a+4:=by simp [Qh,Yc]
    have e2:Qh (if Qm n=true then [] else [⟨3,n,[],[]⟩])≤n.length+4:=by
     split
     ·simp [Qh]
     ·simp [Qh,Yc,Ja3]
    omega
def Lst.nm (s:Lst):Nat:=Q8 s.all+if s.text.isEmpty=true then 0 else 5
theorem Jii (s:Lst):Q8 s.done=s.nm:=by
 unfold Lst.done Lst.nm;split
 ·rfl
 ·rw [JiZ];simp [Xn,Q8]
theorem Z1 (base:List UInt8): ∀ (l:List Nd) (s:Lst),(JJ base s l).nm≤s.nm+Q8 l
 | [],s=>by rw [JJ];exact Nat.le_add_right _ _
 | .mk n a t k::r,s=>by
   rw [JJ,Q8];by_cases h1:n.isEmpty=true
   ·rw [if_pos h1];have:=Z1 base r (s.put (.mk n a t k));have h2:(s.put (.mk n a t k)).nm≤s.nm+5:=by
     unfold Lst.put;rw [if_pos (show (Nd.mk n a t k).name.isEmpty=true from h1)];unfold Lst.nm;simp only;split<;>omega
    omega
   ·rw [if_neg h1];by_cases h2:Jhp n=true
    ·rw [if_pos h2];have:=Z1 base r s;omega
    ·rw [if_neg h2];by_cases h3:JO n=false
     ·rw [if_pos h3];have:=Z1 base r (JJ base s k);have:=Z1 base k s;omega
     ·rw [if_neg h3];by_cases h4:QY n (XW base n a)=0
      ·rw [if_pos h4];have g1:=Z1 base r (s.put (.mk n (XW base n a) [] (JJ base ⟨[],[]⟩ k).done));have g2:(s.put (.mk n (XW base n a) [] (JJ base ⟨[],[]⟩ k).done)).nm=s.nm+(n.length+5+Q8 (JJ base ⟨[],[]⟩ k).done):=by
        unfold Lst.put;rw [if_neg (show ¬ (Nd.mk n (XW base n a) [] (JJ base ⟨[],[]⟩ k).done).name.isEmpty=true from h1)];unfold Lst.nm;simp only;rw [JiZ,Jii,Q8,Q8];simp [Lst.nm]
       have g3:=Z1 base k ⟨[],[]⟩;have g4:=Jii (JJ base ⟨[],[]⟩ k);have g5:(⟨[],[]⟩:Lst).nm=0:=by simp [Lst.nm,Q8]
       omega
      ·rw [if_neg h4];have:=Z1 base r s;omega
theorem JoC (base:List UInt8) (l:List Nd):Q8 (Zb base l)≤Q8 l:=by
 have:=Z1 base l ⟨[],[]⟩;unfold Zb;rw [Jii];have h5:(⟨[],[]⟩:Lst).nm=0:=by simp [Lst.nm,Q8]
 omega
theorem Jl6 (a b:List Nd):Xb (a++b)↔Xb a∧Xb b:=by
 induction a with
 | nil=>simp [Xb]
 | cons n a ih=>cases n;simp [Xb,ih,and_assoc]
theorem Jkc (a b:List Nd):Qw (a++b)↔Qw a∧Qw b:=by
 induction a with
 | nil=>simp [Qw]
 | cons n a ih=>cases n;simp [Qw,ih,and_assoc]
theorem Jkb (t:List UInt8):Xb [Xn t]∧Qw [Xn t]:=by simp [Xb,Qw,Xn,JjR]
theorem JgF {s:Lst} (h:Xb s.all∧Qw s.all):Xb s.done∧Qw s.done:=by
 unfold Lst.done;split
 ·exact h
 ·exact ⟨(Jl6 _ _).2 ⟨h.1,(Jkb _).1⟩,(Jkc _ _).2 ⟨h.2,(Jkb _).2⟩⟩
theorem Zj (base:List UInt8): ∀ (l:List Nd) (s:Lst),Xb l→Qw l→Xb s.all∧Qw s.all→Xb (JJ base s l).all∧Qw (JJ base s l).all
 | [],s,_,_,h=>by rw [JJ];exact h
 | .mk n a t k::r,s,h1,h2,h=>by
   rw [Xb] at h1;rw [Qw] at h2;rw [JJ];split
   ·rename_i hn;refine Zj base r _ h1.2.2 h2.2.2 ?_;unfold Lst.put;rw [if_pos (show (Nd.mk n a t k).name.isEmpty=true from hn)];exact h
   ·rename_i hn;split
    ·exact Zj base r s h1.2.2 h2.2.2 h
    ·split
     ·exact Zj base r _ h1.2.2 h2.2.2 (Zj base k s h1.2.1 h2.2.1 h)
     ·split
      ·have hk:=JgF (Zj base k ⟨[],[]⟩ h1.2.1 h2.2.1 (by simp [Xb,Qw]));refine Zj base r _ h1.2.2 h2.2.2 ?_;unfold Lst.put;rw [if_neg (show ¬ (Nd.mk n (XW base n a) [] (JJ base ⟨[],[]⟩ k).done).name.isEmpty=true from hn)];have hd:=JgF h;refine ⟨(Jl6 _ _).2 ⟨hd.1,?_⟩,(Jkc _ _).2 ⟨hd.2,?_⟩⟩
       ·simp only [Xb];exact ⟨Nat.le_trans (Nat.le_trans (List.length_filter_le _ _) (by simp)) h1.1,hk.1,trivial⟩
       ·simp only [Qw];refine ⟨⟨h2.1.1,fun p hp=>?_⟩,hk.2,trivial⟩;obtain ⟨b,hb,rfl⟩:=List.mem_map.1 (List.mem_filter.1 hp).1;rw [JfI];exact h2.1.2 b hb
      ·exact Zj base r s h1.2.2 h2.2.2 h
theorem JmD (base:List UInt8) (l:List Nd) (h1:Xb l) (h2:Qw l):Xb (Zb base l)∧Qw (Zb base l):=JgF (Zj base l ⟨[],[]⟩ h1 h2 (by simp [Xb,Qw]))
theorem Jgz:(ns:List Nd)→J1 ns≤1100000→YR ns∧JkO ns≤J1 ns
 | [],_=>by simp [YR,JkO]
 | .mk n a t k::r,h=>by
   rw [J1] at h;have h1:=Jgz k (by omega);have h2:=Jgz r (by omega);have h3:=Jdg a;have h4: ∀ p∈a,p.2.length≤JY a:=fun p hp=>by
    clear h h1 h2 h3
    induction a with
    | nil=>simp at hp
    | cons q a ih=>
      have ea:JY (q::a)=(q.1.length+q.2.length+2)+JY a:=by simp [JY]
      rw [ea];rcases List.mem_cons.1 hp with rfl | hp
      ·omega
      ·have:=ih hp;omega
   have h5:2 * a.length≤JY a:=by
    have h6: ∀ b:List Jw,2 * b.length≤JY b:=fun b=>by
     induction b with
     | nil=>simp [JY]
     | cons q b ih=>
       have ea:JY (q::b)=(q.1.length+q.2.length+2)+JY b:=by simp [JY]
       rw [ea,List.length_cons];omega
    exact h6 a
   rw [YR,JkO,J1];exact ⟨⟨⟨by omega,fun p hp=>by have:=h4 p hp;unfold maxLen;omega⟩,h1.1,h2.1⟩,by omega⟩
theorem JhC: ∀ (l:List Jw) (met:List (List UInt8)),QR l met=0→3 * l.length≤JY l
 | [],_,_=>by simp
 | p::l,met,h=>by
   unfold QR at h;split at h
   ·simp at h
   ·rename_i hn;split at h
    ·simp at h
    ·have:=JhC l _ h;have ea:JY (p::l)=(p.1.length+p.2.length+2)+JY l:=by simp [JY]
     have hp:p.1≠[]:=Z9 (by simpa using hn);have:=List.length_pos_iff.2 hp;rw [ea,List.length_cons];omega
theorem Jb1: ∀ (ns:List Nd) (ar:List (List UInt8)) (prev:Bool),Rt ar prev ns→3 * Jbg ns≤J1 ns
 | [],_,_,_=>by simp [Jbg]
 | .mk n a t k::r,ar,prev,h=>by
   rw [Rt] at h;rw [Jbg,J1];by_cases hn:n=[]
   ·rw [if_pos hn] at h;obtain ⟨_,ha,hk,_,hr⟩:=h;subst ha hk;have:=Jb1 r ar true hr;simp [Jbg,J1,Ja3];omega
   ·rw [if_neg hn] at h;obtain ⟨_,_,hc,_,_,_,hk,hr⟩:=h;have h1:=Jb1 k _ _ hk;have h2:=Jb1 r ar false hr;have h3:=JhC a [] hc;omega
def Jan (base s:List UInt8):List Nd:=Zb base (JP (JL s))
theorem Jec (base s:List UInt8) (hs:s.length≤3000):
  Ya (JL s)=0∧Qh (JL s)≤36000∧XN (JP (JL s))=0∧J1 (JP (JL s))≤36000∧XN (Jan base s)=0∧Ya (JX (Jan base s))=0∧Qh (JX (Jan base s))≤38000000∧Xb (Jan base s)∧Qw (Jan base s)∧JD (Jan base s)≤3000:=by
 have h1:=JnE s hs;have h2:=JnD s;have h3:=JoA _ h1;have h4:=JmB (JL s);have h5:=(Jbi _).1 h3;have h6:=Jj2 base _ h5.2;have h7:=Jlg base (JP (JL s));have h8:XN (Jan base s)=0:=(Jbi _).2 ⟨by unfold Jan;omega,h6⟩;have h9:=Jro base s;have h10:Ya (JX (Jan base s))=0:=Jj1 _ h6 (by unfold Jan;omega);have h11:=Jbo (Jan base s);have h12:=Jlf base (JP (JL s));have h13:=JoC base (JP (JL s));have h14:=Jbx (JP (JL s));have h15:=Jb1 (JP (JL s)) _ _ h5.2;have h16:=Jaz (JP (JL s)) (by omega);have h17:=JmD base _ h16.2 h16.1;exact ⟨h1,by omega,h3,by omega,h8,h10,by unfold Jan at h11 ⊢;omega,h17.1,h17.2,by unfold Jan;omega⟩
def isE:List Nd→Int
 | []=>0
 | .mk n a _ k::r=>if QY n a=0 then (if isE k=0 then isE r else isE k) else QY n a
theorem Jrr (n:Nd) (r:List Nd):isE (n::r)=if QY n.name n.attrs=0 then (if isE n.kids=0 then isE r else isE n.kids) else QY n.name n.attrs:=by
 obtain ⟨n,a,t,k⟩:=n;rw [isE];rfl
theorem Jeh: ∀ l:List Nd,isE l=0↔JfN l
 | []=>by simp [isE,JfN]
 | .mk n a _ k::r=>by
   rw [isE,JfN, ←Jeh k, ←Jeh r];by_cases h1:QY n a=0
   ·rw [if_pos h1];by_cases h2:isE k=0
    ·rw [if_pos h2];simp [h1,h2]
    ·rw [if_neg h2];simp [h2]
   ·rw [if_neg h1];simp [h1]
theorem ZL {ops:Array Oper} {o:Oper} {a:Act} {w:World} {K:Act→World→Prop} {Q:Exit→Act→World→Prop} {E:Prop} (hg:Region.wanted o (yielded ops a.tmps)=true)
  (c:Operand) (xs:Array Operand) (ts:Array TypeId) (hop:o.op=.call { callee:=.value c,args:=xs,argTypes:=ts }) (f:FuncId) (caps:Array Value) (hc:a.eval c=.func (.func f) #[] caps) (hE:Jy f) (args:Array Value) (hxs:xs.map a.eval=args)
  {R:Ending→World→Prop} (hcl:Calls Tryz.prog f (args++caps) w R) (hK: ∀ e w',R e w'→ ∃ ch,e=.panicked ch∧Q (.panic ch) a w'):
  if Region.wanted o (yielded ops a.tmps)=true then Oper.wp Tryz.prog o a w K Q else E:=by
 rw [if_pos hg];have hr:(execOp a.eval o).run Tryz.prog w=.ok (.enter f (args++caps)) w:=by
  have hE':=hE (args++caps) w;simp [execOp,hop,resolve,invoke,hc,Deferred.ofValue,hxs,hE']
 unfold Oper.wp;rw [hr,Oper.upon_enter];refine hcl.mono fun e w' h=>?_;obtain ⟨v,rfl,hk⟩:=hK e w' h;exact hk
theorem Jd6:Jy 88:=JC Tryz.func88 (by kernel_rfl) (by kernel_rfl)
set_option maxRecDepth 4000 in
theorem JnO (w:World) (P:Nat→Prop) (v:Value) (ns:List Nd) (i:Nat) (av:Value) (hM:JW w) (hN:Ns w P v ns) (hi:i<ns.length) (hV:YR ns):
  Calls Tryz.prog 88 #[v,.int .i64 i,av] w fun e w'=>(QY ns[i].name ns[i].attrs=0∧e=.returned (.bool true)∨QY ns[i].name ns[i].attrs≠0∧e=.panicked (X4 (QY ns[i].name ns[i].attrs)))∧Jb [] w w':=by
 cases hN with
 | mk _ l _ hns hl ha hk=>
 subst hns;rw [List.length_map] at hi;obtain ⟨o,c',rfl,h1,h2⟩:=hl.lies.form;obtain ⟨g,x,rfl,hcl⟩:=hl.lies.addr (by omega);obtain ⟨a0,a1,a2,a3⟩:=YJ hcl i hi;have hm:=List.getElem_mem hi;have hla:=(ha _ hm).lies;obtain ⟨oa,ca,hav⟩:=(ha _ hm).form;obtain ⟨ok,ck,hkv⟩:=(hk _ hm).form;have hv:=(YR.at hV (List.mem_map_of_mem (f:=Pn.nd) hm)).2.1;rw [hav] at a1 hla;rw [hkv] at a3;rw [List.getElem_map];clear hcl hav hkv ha hk hl hm hV;generalize l[i].nd=nd at *;have hms:=Ja (JjC nd.name nd.text nd.attrs oa nd.attrs.length ca (.slice ok nd.kids.length ck) w hM hla hv ⟨_,_,_,rfl⟩);clear hla hv;generalize QY nd.name nd.attrs=E at *;unfold maxLen at h2;go_enter Tryz.func88,Tryz.ntmps88;go_wp2_with fail;refine hms.out.mono ?_;rintro e w1 ⟨⟨hE,rfl⟩ | ⟨hE,rfl⟩,hk1⟩
 ·go_wp2_with fail;go_ret
  first | exact ⟨.inl ⟨hE,rfl⟩,hk1⟩ | exact ⟨.inl ⟨trivial,rfl⟩,hk1⟩
 ·exact ⟨rfl,.inr ⟨hE,rfl⟩,hk1⟩
set_option maxRecDepth 8000 in
theorem JqT (P:Nat→Prop) (B1:Nat) (h0:0<B1) (hP: ∀ g,P g→g<B1) (w0:World) (v:Value) (ns:List Nd) (h:Ns w0 P v ns): ∀ (w:World) (L:List Nat),Jb L w0 w→(∀ g,P g→g∉L)→JW w→ ∀ (av:Value) (pl:List Pn),w.ownsRow B1 45 4 av pl.length (Jk pl)→B1≤w.heap.size→pl.length+JD ns≤2000000→YR ns→
  Calls Tryz.prog 171 #[v,av,.func (.func 88) #[] #[]] w fun e w'=>(isE ns=0∧e=.returned (.bool true)∨isE ns≠0∧e=.panicked (X4 (isE ns)))∧w'.ownsRow B1 45 4 av pl.length (Jk pl)∧Jb av.ownBlock.toList w w':=by
 induction h with
 | mk v l ns hns hl ha hk ih=>
   intro w L hkw hPL hM av pl hrow hB1 hsz hF;have hNs:Ns w P v ns:=(Ns.mk v l ns hns hl ha hk).keeps hkw hPL;obtain ⟨R,hR⟩: ∃ R,isE ns=R:=⟨_,rfl⟩;rw [hR];have hlw:=hl.keeps hkw hPL;obtain ⟨o,c,rfl,h1,h2⟩:=hlw.lies.form;obtain ⟨ao,ac,hav⟩:=Jg hrow;subst hav;unfold maxLen at h2;have hll:l.length=ns.length:=by rw [←hns,List.length_map]
   have hE:=Jd6;unfold Jy at hE;obtain ⟨i0,hi,hz0,hz1,hz2⟩:=info_parts Jbs;have hpl:pl.length≤2000000:=by omega
   have HNs:=Ja hNs;have HL:=Ja hlw;have HI:=Ja ih;have HKW:=Ja hkw;have HR:=Ja hR;have Hns:=Ja hns;have Hll:=Ja hll;have Hsz:=Ja hsz;have HF:=Ja hF;have HA:=Ja ha;have HPL:=Ja hPL;have HKD:=Ja hk;have HP:=Ja hP;have HM:=Ja hM;clear hNs hlw ih hkw hR hns hll hsz hl ha hk hPL hF hP hM;go_enter Tryz.func171,Tryz.ntmps171;go_wp2_with fail;go_loopw [11] (fun i wr=> ∃ (k:Nat),k≤l.length∧i=.int .i64 k∧Hid (wr.ownsRow B1 45 4 (.slice ao pl.length ac) pl.length (Jk pl))∧Hid (Jb (Value.slice ao pl.length ac).ownBlock.toList w wr)∧Hid (isE (ns.drop k)=R)) (fun i _=>l.length - (intOf i).toNat)
   case atStart=>exact ⟨0,Nat.zero_le _,rfl,hrow,Jb.refl _ _,HR⟩
   case round=>
    obtain ⟨k,hk,rfl,hrow',hkr,hW⟩:=hrel;clear HR hrow;have hPc: ∀ g,P g→g∉(Value.slice ao pl.length ac).ownBlock.toList:=fun g hg hm=>by
     have:=(hrow'.out.lt g (by simpa using hm)).1;have:=HP.out g hg;omega
    have HMr:=Ja (HM.out.keeps hkr.out (fun hm=>by have:=(hrow'.out.lt 0 (by simpa using hm)).1;omega));by_cases hlt:k<l.length
    ·obtain ⟨g,x,hoo,hcl⟩:=(HL.out.keeps hkr.out hPc).lies.addr (by omega);subst hoo;obtain ⟨a0,a1,a2,a3⟩:=YJ hcl k hlt;have hkn:k<ns.length:=by rw [←Hll.out];exact hlt
     have hpn:l[k].nd=ns[k]:=by
      have h9:(l.map Pn.nd)[k]?=ns[k]?:=by rw [Hns.out]
      simpa [List.getElem?_eq_getElem hlt,List.getElem?_eq_getElem hkn] using h9
     have hW1:=hW.out;rw [List.drop_eq_getElem_cons hkn,Jrr, ←hpn] at hW1;have hpk:=HI.out l[k] (List.getElem_mem hlt);have hak:=(((HA.out l[k] (List.getElem_mem hlt)).keeps HKW.out HPL.out).keeps hkr.out hPc);have hszk:JD l[k].nd.kids<JD ns:=Jew (by rw [hpn];exact List.getElem_mem hkn);have hFk:=(YR.at HF.out (show l[k].nd∈ns from by rw [hpn];exact List.getElem_mem hkn)).2.2;have hkf:=(HKD.out l[k] (List.getElem_mem hlt)).form;have hvis0: ∀ (W':World),Jb [] wr W'→Calls Tryz.prog 88 #[.slice (some ⟨g,x,none⟩) l.length c,.int .i64 k,.slice ao pl.length ac] W' fun e w'=>(QY l[k].nd.name l[k].nd.attrs=0∧e=.returned (.bool true)∨QY l[k].nd.name l[k].nd.attrs≠0∧e=.panicked (X4 (QY l[k].nd.name l[k].nd.attrs)))∧Jb [] W' w':=fun W' hkk=>by
      rw [hpn];exact JnO W' P _ ns k _ (HMr.out.keeps hkk List.not_mem_nil) ((HNs.out.keeps hkr.out hPc).keeps0 hkk) hkn HF.out
     clear hcl hW;generalize l[k]=p at *;obtain ⟨nd,pav,pkv⟩:=p;simp only at a0 a1 a2 a3 hpn hW1 hpk hak hszk hkf hFk hvis0;clear hpn;obtain ⟨qo,qc,hq⟩:=hak.form;subst hq;obtain ⟨ko,kc,hkv⟩:=hkf;subst hkv;obtain ⟨Wb,hWb⟩: ∃ Wb,wr.alloc (.cells #[.string ⟨nd.name.toArray⟩,.slice qo nd.attrs.length qc,.string ⟨nd.text.toArray⟩,.slice ko nd.kids.length kc] 45)=Wb:=⟨_,rfl⟩;have hka:Jb [] wr Wb:=by rw [←hWb];exact (Jb.refl [] wr).alloc _
     have hbx:Wb.heap[wr.heap.size]?=some (.cells #[.string ⟨nd.name.toArray⟩,.slice qo nd.attrs.length qc,.string ⟨nd.text.toArray⟩,.slice ko nd.kids.length kc] 45 (0,0)):=by rw [←hWb];exact heap_alloc_new wr _
     have hBr:B1≤wr.heap.size:=Nat.le_trans hB1 hkr.out.size;have hbl:wr.heap.size<Wb.heap.size:=lt_of_block hbx;have hrb: ∀ g,(Value.slice ao pl.length ac).ownBlock=some g→g<wr.heap.size:=fun g hg=>(hrow'.out.lt g hg).2;have hend:=Ja (fun (Wx:World) (hkx:Jb [] wr Wx) {W2:World} (hS2:Jb [] Wx W2)=>(⟨hS2.owns (hkx.owns hrow'.out (fun _ _=>List.not_mem_nil)) (fun _ _=>List.not_mem_nil),QN (QN hkr.out hkx (by simp)) hS2 (by simp)⟩:W2.ownsRow B1 45 4 (.slice ao pl.length ac) pl.length (Jk pl)∧Jb (Value.slice ao pl.length ac).ownBlock.toList w W2));obtain ⟨D1,hD1⟩: ∃ D1,QY nd.name nd.attrs=D1:=⟨_,rfl⟩;obtain ⟨D2,hD2⟩: ∃ D2,isE nd.kids=D2:=⟨_,rfl⟩;rw [hD1] at hvis0;rw [hD1,hD2] at hW1;rw [hD2] at hpk;clear hD1 hD2;by_cases hd1:D1=0
     ·have hvis:=Ja (fun (W':World) (hkk:Jb [] Wb W')=>(hvis0 W' (hka.trans hkk)).mono (R':=fun e w'=>e=.returned (.bool true)∧Jb [] W' w') (fun e w' h=>⟨h.1.elim (fun h=>h.2) (fun h=>absurd hd1 h.1),h.2⟩));rw [if_pos hd1] at hW1;have hin:=Ja (fun (W':World) (L':List Nat) (hkk:Jb L' w0 W') (hPL': ∀ g,P g→g∉L') (hM':JW W') (av':Value) (hrow9:W'.ownsRow B1 45 4 av' (pl++[(⟨nd,.slice qo nd.attrs.length qc,.slice ko nd.kids.length kc⟩:Pn)]).length (Jk (pl++[(⟨nd,.slice qo nd.attrs.length qc,.slice ko nd.kids.length kc⟩:Pn)]))) (hB9:B1≤W'.heap.size)=>hpk W' L' hkk hPL' hM' av' (pl++[(⟨nd,.slice qo nd.attrs.length qc,.slice ko nd.kids.length kc⟩:Pn)]) hrow9 hB9 (by have:=Hsz.out;simp;omega) hFk);simp only [List.length_append,List.length_singleton] at hin;have e0:Jk (pl++[(⟨nd,.slice qo nd.attrs.length qc,.slice ko nd.kids.length kc⟩:Pn)])=Jk pl++Qd ⟨nd,.slice qo nd.attrs.length qc,.slice ko nd.kids.length kc⟩:=by simp [Jk]
      rw [e0] at hin;clear e0 hpk hvis0 hd1;by_cases hd2:D2=0
      ·rw [if_pos hd2] at hW1;have HW:=Ja hW1;have HD0:=Ja hd2;clear hW1 hd2;go_upto_region 4 with fail;refine wp_region_any (by kernel_rfl) ?_;change wpAny _ _ _ _ _ _ _ (World.drew _);refine wpAny_take (i:=0) (v:=.func (.func 88) #[] #[]) rfl (by kernel_rfl) (by kernel_rfl) (by kernel_rfl) (fun _ _ _ h=>h) (Or.inl ⟨by rfl,by intro w;go_simp⟩) ?_;simp only [List.getElem_toArray,List.getElem_cons_zero,Act.put,List.setIfInBounds_toArray,List.set];refine wpAny_take (i:=1) (v:=.slice (some ⟨g,x,none⟩) l.length c) rfl (by kernel_rfl) (by kernel_rfl) (by kernel_rfl) (fun _ _ _ h=>h) (Or.inl ⟨by rfl,by intro w;go_simp⟩) ?_;simp only [List.getElem_toArray,List.getElem_cons_zero,List.getElem_cons_succ,Act.put,List.setIfInBounds_toArray,List.set];refine wpAny_take (i:=2) (v:=.int .i64 k) rfl (by kernel_rfl) (by kernel_rfl) (by kernel_rfl) (fun _ _ _ h=>h) (Or.inl ⟨by rfl,by intro w;go_simp⟩) ?_;simp only [List.getElem_toArray,List.getElem_cons_zero,List.getElem_cons_succ,Act.put,List.setIfInBounds_toArray,List.set];refine wpAny_take (i:=3) (v:=.slice ao pl.length ac) rfl (by kernel_rfl) (by kernel_rfl) (by kernel_rfl) (fun _ _ _ h=>h) (Or.inl ⟨by rfl,by intro w;go_simp⟩) ?_;simp only [List.getElem_toArray,List.getElem_cons_zero,List.getElem_cons_succ,Act.put,List.setIfInBounds_toArray,List.set];refine wpAny_ready (rs:=[4]) (by kernel_rfl) (by simp) ?_;refine AllReady.cons rfl (fun K9 hK9=>?_) AllReady.nil;refine XC (by simp [Region.wanted]) (.tmp 16) _ _ rfl 88 #[] rfl Jd6 #[.slice (some ⟨g,x,none⟩) l.length c,.int .i64 k,.slice ao pl.length ac] (by first | (simp [Act.eval];done) | (simp [Act.eval,Act.put];done)) (hvis.out _ ((Jb.refl [] _).drew)) ?_;rintro e w2 ⟨rfl,hS2⟩;refine ⟨_,rfl,?_⟩;refine hK9 _ _ ?_;clear hK9 K9;simp only [List.getElem_toArray,List.getElem_cons_zero,List.getElem_cons_succ,Act.put,List.setIfInBounds_toArray,List.set];have hbx2:w2.heap[wr.heap.size]?=some (.cells #[.string ⟨nd.name.toArray⟩,.slice qo nd.attrs.length qc,.string ⟨nd.text.toArray⟩,.slice ko nd.kids.length kc] 45 (0,0)):=(hS2.block _ hbl List.not_mem_nil).trans hbx;have hrow2:=(hend.out _ (hka.trans ((Jb.refl [] _).drew)) hS2).1;have hkp2:=(hend.out _ (hka.trans ((Jb.refl [] _).drew)) hS2).2;have hM2:JW w2:=(HMr.out.keeps hka List.not_mem_nil).keeps (((Jb.refl [] _).drew).trans hS2) List.not_mem_nil;have k0:w2.cell? ⟨wr.heap.size,0,none⟩=some (.string ⟨nd.name.toArray⟩):=Jd hbx2 0;have k1:w2.cell? ⟨wr.heap.size,1,none⟩=some (.slice qo nd.attrs.length qc):=Jd hbx2 1;have k2:w2.cell? ⟨wr.heap.size,2,none⟩=some (.string ⟨nd.text.toArray⟩):=Jd hbx2 2;have k3:w2.cell? ⟨wr.heap.size,3,none⟩=some (.slice ko nd.kids.length kc):=Jd hbx2 3;have hbl2:wr.heap.size<w2.heap.size:=lt_of_block hbx2;have k3a: ∀ o',(w2.alloc o').cell? ⟨wr.heap.size,3,none⟩=some (.slice ko nd.kids.length kc):=fun o'=>(JI (a:=⟨wr.heap.size,3,none⟩) hbl2 o').trans k3;have hB2:B1≤w2.heap.size:=by omega
       refine wpAny_take (i:=5) (v:=.bool false) rfl (by kernel_rfl) (by kernel_rfl) (by kernel_rfl) (fun _ _ _ h=>h) (Or.inl ⟨by rfl,by intro w;go_simp⟩) ?_;simp only [List.getElem_toArray,List.getElem_cons_zero,List.getElem_cons_succ,Act.put,List.setIfInBounds_toArray,List.set];refine wpAny_take (i:=6) (v:=.bool false) rfl (by kernel_rfl) (by kernel_rfl) (by kernel_rfl) (fun _ _ _ h=>h) (Or.inl ⟨by rfl,by intro w;go_simp⟩) ?_;simp only [List.getElem_toArray,List.getElem_cons_zero,List.getElem_cons_succ,Act.put,List.setIfInBounds_toArray,List.set];refine wpAny_take (i:=7) (v:=.pointer (some ⟨wr.heap.size,3,none⟩)) rfl (by kernel_rfl) (by kernel_rfl) (by kernel_rfl) (fun _ _ _ h=>h) (Or.inl ⟨Ji rfl rfl rfl rfl,by intro w;go_simp⟩) ?_;simp only [List.getElem_toArray,List.getElem_cons_zero,List.getElem_cons_succ,Act.put,List.setIfInBounds_toArray,List.set];refine wpAny_take (i:=9) (v:=.slice ao pl.length ac) rfl (by kernel_rfl) (by kernel_rfl) (by kernel_rfl) (fun _ _ _ h=>h) (Or.inl ⟨Ji rfl rfl rfl rfl,by intro w;go_simp⟩) ?_;simp only [List.getElem_toArray,List.getElem_cons_zero,List.getElem_cons_succ,Act.put,List.setIfInBounds_toArray,List.set];refine wpAny_take (i:=13) (v:=.func (.func 88) #[] #[]) rfl (by kernel_rfl) (by kernel_rfl) (by kernel_rfl) (fun _ _ _ h=>h) (Or.inl ⟨Ji rfl rfl rfl rfl,by intro w;go_simp⟩) ?_;simp only [List.getElem_toArray,List.getElem_cons_zero,List.getElem_cons_succ,Act.put,List.setIfInBounds_toArray,List.set];have hdeep:Hid (∀ (w4:World) (o4:Option Addr) (c4:Nat),w4.ownsRow B1 45 4 (.slice o4 (pl.length+1) c4) (pl.length+1) (Jk pl++Qd (⟨nd,.slice qo nd.attrs.length qc,.slice ko nd.kids.length kc⟩:Pn))→(w2.alloc (.cells #[.string ⟨nd.name.toArray⟩,.slice qo nd.attrs.length qc,.string ⟨nd.text.toArray⟩,.slice ko nd.kids.length kc] 45)).grownBy w4 (Value.slice ao pl.length ac).ownBlock→((∃ g cap,Value.slice ao pl.length ac=.slice (some ⟨g,0,none⟩) pl.length cap∧Value.slice o4 (pl.length+1) c4=.slice (some ⟨g,0,none⟩) (pl.length+1) cap)∨((Value.slice o4 (pl.length+1) c4).ownBlock=some (w2.alloc (.cells #[.string ⟨nd.name.toArray⟩,.slice qo nd.attrs.length qc,.string ⟨nd.text.toArray⟩,.slice ko nd.kids.length kc] 45)).heap.size∧Jb [] (w2.alloc (.cells #[.string ⟨nd.name.toArray⟩,.slice qo nd.attrs.length qc,.string ⟨nd.text.toArray⟩,.slice ko nd.kids.length kc] 45)) w4))→Calls Tryz.prog 171 (#[.slice ko nd.kids.length kc,.slice o4 (pl.length+1) c4,.func (.func 88) #[] #[]]++#[]) w4 fun e w5=>e=.returned (.bool true)∧w5.ownsRow B1 45 4 (.slice ao pl.length ac) pl.length (Jk pl)∧Jb (Value.slice ao pl.length ac).ownBlock.toList w w5):=by
        intro w4 o4 c4 ho4 hg4 hc4;have hk4:Jb (Value.slice ao pl.length ac).ownBlock.toList w2 w4:=((Jb.refl _ w2).alloc _).grown hg4 (fun i e=>.inl (by simp [e]));have hk24:Jb (Value.slice ao pl.length ac).ownBlock.toList w w4:=hkp2.trans hk4;have hM4:JW w4:=hM2.keeps hk4 (fun hm=>by have:=(hrow2.lt 0 (by simpa using hm)).1;omega);refine (hin.out w4 (L++(Value.slice ao pl.length ac).ownBlock.toList) ((HKW.out.to (fun g hg=>List.mem_append_left _ hg)).trans (hk24.to (fun g hg=>List.mem_append_right _ hg))) (fun g hg hm=>(List.mem_append.1 hm).elim (HPL.out g hg) (hPc g hg)) hM4 (.slice o4 (pl.length+1) c4) ho4 (Nat.le_trans hB2 hk4.size)).mono ?_;rintro e w5 ⟨h9,hrow5,hk5⟩;have h8:=h9.elim (fun h=>h.2) (fun h=>absurd HD0.out h.1);clear h9;subst h8;rcases hc4 with ⟨g4,cap4,e1,e2⟩ | ⟨e1,hk34⟩
        ·rw [e1];rw [e2] at hrow5 hk5;rw [e1] at hk24;refine ⟨rfl,Jeu (Yq pl) hrow5,QN hk24 hk5 (fun g hg _=>?_)⟩;exact hg
        ·have hr4:=hk34.owns (hrow2.alloc (.cells #[.string ⟨nd.name.toArray⟩,.slice qo nd.attrs.length qc,.string ⟨nd.text.toArray⟩,.slice ko nd.kids.length kc] 45)) (fun _ _=>List.not_mem_nil);have hsz9:(w2.alloc (.cells #[.string ⟨nd.name.toArray⟩,.slice qo nd.attrs.length qc,.string ⟨nd.text.toArray⟩,.slice ko nd.kids.length kc] 45)).heap.size=w2.heap.size+1:=by simp
         rw [hsz9] at e1;refine ⟨rfl,hk5.owns hr4 (fun g hg hm=>?_),QN hk24 hk5 (fun g hg hlt=>?_)⟩
         ·rw [e1] at hm;simp at hm;have:=(hrow2.lt g hg).2;omega
         ·rw [e1] at hg;simp at hg;have:=hkp2.size;omega
       refine wpAny_ready (rs:=[8,10]) (by kernel_rfl) (by simp) ?_;refine AllReady.cons rfl (fun K9 hK9=>?_) (AllReady.cons rfl (fun K9 hK9=>?_) AllReady.nil)
       ·refine Qt (v:=.slice ko nd.kids.length kc) (w':=w2) (Ji rfl rfl rfl rfl) (by go_simp) ?_;refine hK9 _ _ ?_;clear hK9 K9;simp only [List.getElem_toArray,List.getElem_cons_zero,List.getElem_cons_succ,Act.put,List.setIfInBounds_toArray,List.set];refine wpAny_ready (rs:=[10]) (by kernel_rfl) (by simp) ?_;refine AllReady.cons rfl (fun K9 hK9=>?_) AllReady.nil
        ·refine Qt (v:=.agg #[.string ⟨nd.name.toArray⟩,.slice qo nd.attrs.length qc,.string ⟨nd.text.toArray⟩,.slice ko nd.kids.length kc]) (w':=w2) (Ji rfl rfl rfl rfl) (by go_simp) ?_;refine hK9 _ _ ?_;clear hK9 K9;simp only [List.getElem_toArray,List.getElem_cons_zero,List.getElem_cons_succ,Act.put,List.setIfInBounds_toArray,List.set];refine wpAny_ready (rs:=[11]) (by kernel_rfl) (by simp) ?_;refine AllReady.cons rfl (fun K9 hK9=>?_) AllReady.nil
         ·refine Qt (v:=.slice (some ⟨w2.heap.size,0,none⟩) 1 1) (w':=w2.alloc (.cells #[.string ⟨nd.name.toArray⟩,.slice qo nd.attrs.length qc,.string ⟨nd.text.toArray⟩,.slice ko nd.kids.length kc] 45)) (Ji rfl rfl rfl rfl) (by go_simp) ?_;refine hK9 _ _ ?_;clear hK9 K9;simp only [List.getElem_toArray,List.getElem_cons_zero,List.getElem_cons_succ,Act.put,List.setIfInBounds_toArray,List.set];refine wpAny_ready (rs:=[12]) (by kernel_rfl) (by simp) ?_;refine AllReady.cons rfl (fun K9 hK9=>?_) AllReady.nil
          ·refine X8 (Ji rfl rfl rfl rfl) _ _ 29 rfl B1 45 i0 _ 4 80 Tryz.underlying29 hi hz0 hz1 hz2 (by kernel_rfl) (by decide) (.slice ao pl.length ac) pl.length (Jk pl) rfl (hrow2.alloc _) ⟨w2.heap.size,0,none⟩ 1 (Qd (⟨nd,.slice qo nd.attrs.length qc,.slice ko nd.kids.length kc⟩:Pn)) rfl rfl (J9 w2 _ 45) ZI (by unfold maxLen;omega) (by omega) (Nat.le_trans hB2 (by simp)) ?_;intro v4 w4 ho4 hg4 hc4;obtain ⟨o4,c4,hv4⟩:=Jg ho4;subst hv4;have hk4:Jb (Value.slice ao pl.length ac).ownBlock.toList w2 w4:=((Jb.refl _ w2).alloc _).grown hg4 (fun i e=>.inl (by simp [e]));have k3b:=JE hk4 (a:=⟨wr.heap.size,3,none⟩) (fun hm=>by have:=hrb _ (by simpa using hm);simp at this) k3;refine hK9 _ _ ?_;clear hK9 K9;simp only [List.getElem_toArray,List.getElem_cons_zero,List.getElem_cons_succ,Act.put,List.setIfInBounds_toArray,List.set];refine wpAny_ready (rs:=[14]) (by kernel_rfl) (by simp) ?_;refine AllReady.cons rfl (fun K9 hK9=>?_) AllReady.nil
           ·refine XC (Ji rfl rfl rfl rfl) (.func 171) _ _ rfl 171 #[] rfl X6 #[.slice ko nd.kids.length kc,.slice o4 (pl.length+1) c4,.func (.func 88) #[] #[]] (by simp [Act.eval]) (hdeep.out w4 _ _ ho4 hg4 hc4) ?_;rintro e w5 ⟨rfl,hrow5,hk5⟩;refine ⟨_,rfl,?_⟩;refine hK9 _ _ ?_;clear hK9 K9;simp only [List.getElem_toArray,List.getElem_cons_zero,List.getElem_cons_succ,Act.put,List.setIfInBounds_toArray,List.set];refine wpAny_take (i:=15) (v:=.bool false) rfl (by kernel_rfl) (by kernel_rfl) (by kernel_rfl) (fun _ _ _ h=>h) (Or.inl ⟨Ji rfl rfl rfl rfl,by intro w;go_simp⟩) ?_;simp only [List.getElem_toArray,List.getElem_cons_zero,List.getElem_cons_succ,Act.put,List.setIfInBounds_toArray,List.set];refine wpAny_take (i:=16) (v:=.bool false) rfl (by kernel_rfl) (by kernel_rfl) (by kernel_rfl) (fun _ _ _ h=>h) (Or.inl ⟨by rfl,by intro w;go_simp⟩) ?_;simp only [List.getElem_toArray,List.getElem_cons_zero,List.getElem_cons_succ,Act.put,List.setIfInBounds_toArray,List.set];refine wpAny_done (by kernel_rfl) ?_ _;go_wp2_with fail;go_roundw
            case rel=>exact ⟨k+1,by omega,by go_num,hrow5,hk5,HW.out⟩
            case measure=>simp [intOf];omega
       ·refine Qt (v:=.agg #[.string ⟨nd.name.toArray⟩,.slice qo nd.attrs.length qc,.string ⟨nd.text.toArray⟩,.slice ko nd.kids.length kc]) (w':=w2) (Ji rfl rfl rfl rfl) (by go_simp) ?_;refine hK9 _ _ ?_;clear hK9 K9;simp only [List.getElem_toArray,List.getElem_cons_zero,List.getElem_cons_succ,Act.put,List.setIfInBounds_toArray,List.set];refine wpAny_ready (rs:=[8,11]) (by kernel_rfl) (by simp) ?_;refine AllReady.cons rfl (fun K9 hK9=>?_) (AllReady.cons rfl (fun K9 hK9=>?_) AllReady.nil)
        ·refine Qt (v:=.slice ko nd.kids.length kc) (w':=w2) (Ji rfl rfl rfl rfl) (by go_simp) ?_;refine hK9 _ _ ?_;clear hK9 K9;simp only [List.getElem_toArray,List.getElem_cons_zero,List.getElem_cons_succ,Act.put,List.setIfInBounds_toArray,List.set];refine wpAny_ready (rs:=[11]) (by kernel_rfl) (by simp) ?_;refine AllReady.cons rfl (fun K9 hK9=>?_) AllReady.nil
         ·refine Qt (v:=.slice (some ⟨w2.heap.size,0,none⟩) 1 1) (w':=w2.alloc (.cells #[.string ⟨nd.name.toArray⟩,.slice qo nd.attrs.length qc,.string ⟨nd.text.toArray⟩,.slice ko nd.kids.length kc] 45)) (Ji rfl rfl rfl rfl) (by go_simp) ?_;refine hK9 _ _ ?_;clear hK9 K9;simp only [List.getElem_toArray,List.getElem_cons_zero,List.getElem_cons_succ,Act.put,List.setIfInBounds_toArray,List.set];refine wpAny_ready (rs:=[12]) (by kernel_rfl) (by simp) ?_;refine AllReady.cons rfl (fun K9 hK9=>?_) AllReady.nil
          ·refine X8 (Ji rfl rfl rfl rfl) _ _ 29 rfl B1 45 i0 _ 4 80 Tryz.underlying29 hi hz0 hz1 hz2 (by kernel_rfl) (by decide) (.slice ao pl.length ac) pl.length (Jk pl) rfl (hrow2.alloc _) ⟨w2.heap.size,0,none⟩ 1 (Qd (⟨nd,.slice qo nd.attrs.length qc,.slice ko nd.kids.length kc⟩:Pn)) rfl rfl (J9 w2 _ 45) ZI (by unfold maxLen;omega) (by omega) (Nat.le_trans hB2 (by simp)) ?_;intro v4 w4 ho4 hg4 hc4;obtain ⟨o4,c4,hv4⟩:=Jg ho4;subst hv4;have hk4:Jb (Value.slice ao pl.length ac).ownBlock.toList w2 w4:=((Jb.refl _ w2).alloc _).grown hg4 (fun i e=>.inl (by simp [e]));have k3b:=JE hk4 (a:=⟨wr.heap.size,3,none⟩) (fun hm=>by have:=hrb _ (by simpa using hm);simp at this) k3;refine hK9 _ _ ?_;clear hK9 K9;simp only [List.getElem_toArray,List.getElem_cons_zero,List.getElem_cons_succ,Act.put,List.setIfInBounds_toArray,List.set];refine wpAny_ready (rs:=[14]) (by kernel_rfl) (by simp) ?_;refine AllReady.cons rfl (fun K9 hK9=>?_) AllReady.nil
           ·refine XC (Ji rfl rfl rfl rfl) (.func 171) _ _ rfl 171 #[] rfl X6 #[.slice ko nd.kids.length kc,.slice o4 (pl.length+1) c4,.func (.func 88) #[] #[]] (by simp [Act.eval]) (hdeep.out w4 _ _ ho4 hg4 hc4) ?_;rintro e w5 ⟨rfl,hrow5,hk5⟩;refine ⟨_,rfl,?_⟩;refine hK9 _ _ ?_;clear hK9 K9;simp only [List.getElem_toArray,List.getElem_cons_zero,List.getElem_cons_succ,Act.put,List.setIfInBounds_toArray,List.set];refine wpAny_take (i:=15) (v:=.bool false) rfl (by kernel_rfl) (by kernel_rfl) (by kernel_rfl) (fun _ _ _ h=>h) (Or.inl ⟨Ji rfl rfl rfl rfl,by intro w;go_simp⟩) ?_;simp only [List.getElem_toArray,List.getElem_cons_zero,List.getElem_cons_succ,Act.put,List.setIfInBounds_toArray,List.set];refine wpAny_take (i:=16) (v:=.bool false) rfl (by kernel_rfl) (by kernel_rfl) (by kernel_rfl) (fun _ _ _ h=>h) (Or.inl ⟨by rfl,by intro w;go_simp⟩) ?_;simp only [List.getElem_toArray,List.getElem_cons_zero,List.getElem_cons_succ,Act.put,List.setIfInBounds_toArray,List.set];refine wpAny_done (by kernel_rfl) ?_ _;go_wp2_with fail;go_roundw
            case rel=>exact ⟨k+1,by omega,by go_num,hrow5,hk5,HW.out⟩
            case measure=>simp [intOf];omega
        ·refine Qt (v:=.slice (some ⟨w2.heap.size,0,none⟩) 1 1) (w':=w2.alloc (.cells #[.string ⟨nd.name.toArray⟩,.slice qo nd.attrs.length qc,.string ⟨nd.text.toArray⟩,.slice ko nd.kids.length kc] 45)) (Ji rfl rfl rfl rfl) (by go_simp) ?_;refine hK9 _ _ ?_;clear hK9 K9;simp only [List.getElem_toArray,List.getElem_cons_zero,List.getElem_cons_succ,Act.put,List.setIfInBounds_toArray,List.set];refine wpAny_ready (rs:=[8,12]) (by kernel_rfl) (by simp) ?_;refine AllReady.cons rfl (fun K9 hK9=>?_) (AllReady.cons rfl (fun K9 hK9=>?_) AllReady.nil)
         ·refine Qt (v:=.slice ko nd.kids.length kc) (w':=w2.alloc (.cells #[.string ⟨nd.name.toArray⟩,.slice qo nd.attrs.length qc,.string ⟨nd.text.toArray⟩,.slice ko nd.kids.length kc] 45)) (Ji rfl rfl rfl rfl) (by go_simp) ?_;refine hK9 _ _ ?_;clear hK9 K9;simp only [List.getElem_toArray,List.getElem_cons_zero,List.getElem_cons_succ,Act.put,List.setIfInBounds_toArray,List.set];refine wpAny_ready (rs:=[12]) (by kernel_rfl) (by simp) ?_;refine AllReady.cons rfl (fun K9 hK9=>?_) AllReady.nil
          ·refine X8 (Ji rfl rfl rfl rfl) _ _ 29 rfl B1 45 i0 _ 4 80 Tryz.underlying29 hi hz0 hz1 hz2 (by kernel_rfl) (by decide) (.slice ao pl.length ac) pl.length (Jk pl) rfl (hrow2.alloc _) ⟨w2.heap.size,0,none⟩ 1 (Qd (⟨nd,.slice qo nd.attrs.length qc,.slice ko nd.kids.length kc⟩:Pn)) rfl rfl (J9 w2 _ 45) ZI (by unfold maxLen;omega) (by omega) (Nat.le_trans hB2 (by simp)) ?_;intro v4 w4 ho4 hg4 hc4;obtain ⟨o4,c4,hv4⟩:=Jg ho4;subst hv4;have hk4:Jb (Value.slice ao pl.length ac).ownBlock.toList w2 w4:=((Jb.refl _ w2).alloc _).grown hg4 (fun i e=>.inl (by simp [e]));have k3b:=JE hk4 (a:=⟨wr.heap.size,3,none⟩) (fun hm=>by have:=hrb _ (by simpa using hm);simp at this) k3;refine hK9 _ _ ?_;clear hK9 K9;simp only [List.getElem_toArray,List.getElem_cons_zero,List.getElem_cons_succ,Act.put,List.setIfInBounds_toArray,List.set];refine wpAny_ready (rs:=[14]) (by kernel_rfl) (by simp) ?_;refine AllReady.cons rfl (fun K9 hK9=>?_) AllReady.nil
           ·refine XC (Ji rfl rfl rfl rfl) (.func 171) _ _ rfl 171 #[] rfl X6 #[.slice ko nd.kids.length kc,.slice o4 (pl.length+1) c4,.func (.func 88) #[] #[]] (by simp [Act.eval]) (hdeep.out w4 _ _ ho4 hg4 hc4) ?_;rintro e w5 ⟨rfl,hrow5,hk5⟩;refine ⟨_,rfl,?_⟩;refine hK9 _ _ ?_;clear hK9 K9;simp only [List.getElem_toArray,List.getElem_cons_zero,List.getElem_cons_succ,Act.put,List.setIfInBounds_toArray,List.set];refine wpAny_take (i:=15) (v:=.bool false) rfl (by kernel_rfl) (by kernel_rfl) (by kernel_rfl) (fun _ _ _ h=>h) (Or.inl ⟨Ji rfl rfl rfl rfl,by intro w;go_simp⟩) ?_;simp only [List.getElem_toArray,List.getElem_cons_zero,List.getElem_cons_succ,Act.put,List.setIfInBounds_toArray,List.set];refine wpAny_take (i:=16) (v:=.bool false) rfl (by kernel_rfl) (by kernel_rfl) (by kernel_rfl) (fun _ _ _ h=>h) (Or.inl ⟨by rfl,by intro w;go_simp⟩) ?_;simp only [List.getElem_toArray,List.getElem_cons_zero,List.getElem_cons_succ,Act.put,List.setIfInBounds_toArray,List.set];refine wpAny_done (by kernel_rfl) ?_ _;go_wp2_with fail;go_roundw
            case rel=>exact ⟨k+1,by omega,by go_num,hrow5,hk5,HW.out⟩
            case measure=>simp [intOf];omega
         ·refine X8 (Ji rfl rfl rfl rfl) _ _ 29 rfl B1 45 i0 _ 4 80 Tryz.underlying29 hi hz0 hz1 hz2 (by kernel_rfl) (by decide) (.slice ao pl.length ac) pl.length (Jk pl) rfl (hrow2.alloc _) ⟨w2.heap.size,0,none⟩ 1 (Qd (⟨nd,.slice qo nd.attrs.length qc,.slice ko nd.kids.length kc⟩:Pn)) rfl rfl (J9 w2 _ 45) ZI (by unfold maxLen;omega) (by omega) (Nat.le_trans hB2 (by simp)) ?_;intro v4 w4 ho4 hg4 hc4;obtain ⟨o4,c4,hv4⟩:=Jg ho4;subst hv4;have hk4:Jb (Value.slice ao pl.length ac).ownBlock.toList w2 w4:=((Jb.refl _ w2).alloc _).grown hg4 (fun i e=>.inl (by simp [e]));have k3b:=JE hk4 (a:=⟨wr.heap.size,3,none⟩) (fun hm=>by have:=hrb _ (by simpa using hm);simp at this) k3;refine hK9 _ _ ?_;clear hK9 K9;simp only [List.getElem_toArray,List.getElem_cons_zero,List.getElem_cons_succ,Act.put,List.setIfInBounds_toArray,List.set];refine wpAny_ready (rs:=[8]) (by kernel_rfl) (by simp) ?_;refine AllReady.cons rfl (fun K9 hK9=>?_) AllReady.nil
          ·refine Qt (v:=.slice ko nd.kids.length kc) (w':=w4) (Ji rfl rfl rfl rfl) (by go_simp) ?_;refine hK9 _ _ ?_;clear hK9 K9;simp only [List.getElem_toArray,List.getElem_cons_zero,List.getElem_cons_succ,Act.put,List.setIfInBounds_toArray,List.set];refine wpAny_ready (rs:=[14]) (by kernel_rfl) (by simp) ?_;refine AllReady.cons rfl (fun K9 hK9=>?_) AllReady.nil
           ·refine XC (Ji rfl rfl rfl rfl) (.func 171) _ _ rfl 171 #[] rfl X6 #[.slice ko nd.kids.length kc,.slice o4 (pl.length+1) c4,.func (.func 88) #[] #[]] (by simp [Act.eval]) (hdeep.out w4 _ _ ho4 hg4 hc4) ?_;rintro e w5 ⟨rfl,hrow5,hk5⟩;refine ⟨_,rfl,?_⟩;refine hK9 _ _ ?_;clear hK9 K9;simp only [List.getElem_toArray,List.getElem_cons_zero,List.getElem_cons_succ,Act.put,List.setIfInBounds_toArray,List.set];refine wpAny_take (i:=15) (v:=.bool false) rfl (by kernel_rfl) (by kernel_rfl) (by kernel_rfl) (fun _ _ _ h=>h) (Or.inl ⟨Ji rfl rfl rfl rfl,by intro w;go_simp⟩) ?_;simp only [List.getElem_toArray,List.getElem_cons_zero,List.getElem_cons_succ,Act.put,List.setIfInBounds_toArray,List.set];refine wpAny_take (i:=16) (v:=.bool false) rfl (by kernel_rfl) (by kernel_rfl) (by kernel_rfl) (fun _ _ _ h=>h) (Or.inl ⟨by rfl,by intro w;go_simp⟩) ?_;simp only [List.getElem_toArray,List.getElem_cons_zero,List.getElem_cons_succ,Act.put,List.setIfInBounds_toArray,List.set];refine wpAny_done (by kernel_rfl) ?_ _;go_wp2_with fail;go_roundw
            case rel=>exact ⟨k+1,by omega,by go_num,hrow5,hk5,HW.out⟩
            case measure=>simp [intOf];omega
      ·rw [if_neg hd2] at hW1;have HDR:=Ja hW1;have HR0:=Ja (show R≠0 from by rw [←hW1];exact hd2);have HD0:=Ja hd2;clear hW1 hd2;go_upto_region 4 with fail;refine wp_region_any (by kernel_rfl) ?_;change wpAny _ _ _ _ _ _ _ (World.drew _);refine wpAny_take (i:=0) (v:=.func (.func 88) #[] #[]) rfl (by kernel_rfl) (by kernel_rfl) (by kernel_rfl) (fun _ _ _ h=>h) (Or.inl ⟨by rfl,by intro w;go_simp⟩) ?_;simp only [List.getElem_toArray,List.getElem_cons_zero,Act.put,List.setIfInBounds_toArray,List.set];refine wpAny_take (i:=1) (v:=.slice (some ⟨g,x,none⟩) l.length c) rfl (by kernel_rfl) (by kernel_rfl) (by kernel_rfl) (fun _ _ _ h=>h) (Or.inl ⟨by rfl,by intro w;go_simp⟩) ?_;simp only [List.getElem_toArray,List.getElem_cons_zero,List.getElem_cons_succ,Act.put,List.setIfInBounds_toArray,List.set];refine wpAny_take (i:=2) (v:=.int .i64 k) rfl (by kernel_rfl) (by kernel_rfl) (by kernel_rfl) (fun _ _ _ h=>h) (Or.inl ⟨by rfl,by intro w;go_simp⟩) ?_;simp only [List.getElem_toArray,List.getElem_cons_zero,List.getElem_cons_succ,Act.put,List.setIfInBounds_toArray,List.set];refine wpAny_take (i:=3) (v:=.slice ao pl.length ac) rfl (by kernel_rfl) (by kernel_rfl) (by kernel_rfl) (fun _ _ _ h=>h) (Or.inl ⟨by rfl,by intro w;go_simp⟩) ?_;simp only [List.getElem_toArray,List.getElem_cons_zero,List.getElem_cons_succ,Act.put,List.setIfInBounds_toArray,List.set];refine wpAny_ready (rs:=[4]) (by kernel_rfl) (by simp) ?_;refine AllReady.cons rfl (fun K9 hK9=>?_) AllReady.nil;refine XC (by simp [Region.wanted]) (.tmp 16) _ _ rfl 88 #[] rfl Jd6 #[.slice (some ⟨g,x,none⟩) l.length c,.int .i64 k,.slice ao pl.length ac] (by first | (simp [Act.eval];done) | (simp [Act.eval,Act.put];done)) (hvis.out _ ((Jb.refl [] _).drew)) ?_;rintro e w2 ⟨rfl,hS2⟩;refine ⟨_,rfl,?_⟩;refine hK9 _ _ ?_;clear hK9 K9;simp only [List.getElem_toArray,List.getElem_cons_zero,List.getElem_cons_succ,Act.put,List.setIfInBounds_toArray,List.set];have hbx2:w2.heap[wr.heap.size]?=some (.cells #[.string ⟨nd.name.toArray⟩,.slice qo nd.attrs.length qc,.string ⟨nd.text.toArray⟩,.slice ko nd.kids.length kc] 45 (0,0)):=(hS2.block _ hbl List.not_mem_nil).trans hbx;have hrow2:=(hend.out _ (hka.trans ((Jb.refl [] _).drew)) hS2).1;have hkp2:=(hend.out _ (hka.trans ((Jb.refl [] _).drew)) hS2).2;have hM2:JW w2:=(HMr.out.keeps hka List.not_mem_nil).keeps (((Jb.refl [] _).drew).trans hS2) List.not_mem_nil;have k0:w2.cell? ⟨wr.heap.size,0,none⟩=some (.string ⟨nd.name.toArray⟩):=Jd hbx2 0;have k1:w2.cell? ⟨wr.heap.size,1,none⟩=some (.slice qo nd.attrs.length qc):=Jd hbx2 1;have k2:w2.cell? ⟨wr.heap.size,2,none⟩=some (.string ⟨nd.text.toArray⟩):=Jd hbx2 2;have k3:w2.cell? ⟨wr.heap.size,3,none⟩=some (.slice ko nd.kids.length kc):=Jd hbx2 3;have hbl2:wr.heap.size<w2.heap.size:=lt_of_block hbx2;have k3a: ∀ o',(w2.alloc o').cell? ⟨wr.heap.size,3,none⟩=some (.slice ko nd.kids.length kc):=fun o'=>(JI (a:=⟨wr.heap.size,3,none⟩) hbl2 o').trans k3;have hB2:B1≤w2.heap.size:=by omega
       refine wpAny_take (i:=5) (v:=.bool false) rfl (by kernel_rfl) (by kernel_rfl) (by kernel_rfl) (fun _ _ _ h=>h) (Or.inl ⟨by rfl,by intro w;go_simp⟩) ?_;simp only [List.getElem_toArray,List.getElem_cons_zero,List.getElem_cons_succ,Act.put,List.setIfInBounds_toArray,List.set];refine wpAny_take (i:=6) (v:=.bool false) rfl (by kernel_rfl) (by kernel_rfl) (by kernel_rfl) (fun _ _ _ h=>h) (Or.inl ⟨by rfl,by intro w;go_simp⟩) ?_;simp only [List.getElem_toArray,List.getElem_cons_zero,List.getElem_cons_succ,Act.put,List.setIfInBounds_toArray,List.set];refine wpAny_take (i:=7) (v:=.pointer (some ⟨wr.heap.size,3,none⟩)) rfl (by kernel_rfl) (by kernel_rfl) (by kernel_rfl) (fun _ _ _ h=>h) (Or.inl ⟨Ji rfl rfl rfl rfl,by intro w;go_simp⟩) ?_;simp only [List.getElem_toArray,List.getElem_cons_zero,List.getElem_cons_succ,Act.put,List.setIfInBounds_toArray,List.set];refine wpAny_take (i:=9) (v:=.slice ao pl.length ac) rfl (by kernel_rfl) (by kernel_rfl) (by kernel_rfl) (fun _ _ _ h=>h) (Or.inl ⟨Ji rfl rfl rfl rfl,by intro w;go_simp⟩) ?_;simp only [List.getElem_toArray,List.getElem_cons_zero,List.getElem_cons_succ,Act.put,List.setIfInBounds_toArray,List.set];refine wpAny_take (i:=13) (v:=.func (.func 88) #[] #[]) rfl (by kernel_rfl) (by kernel_rfl) (by kernel_rfl) (fun _ _ _ h=>h) (Or.inl ⟨Ji rfl rfl rfl rfl,by intro w;go_simp⟩) ?_;simp only [List.getElem_toArray,List.getElem_cons_zero,List.getElem_cons_succ,Act.put,List.setIfInBounds_toArray,List.set];have hdeep:Hid (∀ (w4:World) (o4:Option Addr) (c4:Nat),w4.ownsRow B1 45 4 (.slice o4 (pl.length+1) c4) (pl.length+1) (Jk pl++Qd (⟨nd,.slice qo nd.attrs.length qc,.slice ko nd.kids.length kc⟩:Pn))→(w2.alloc (.cells #[.string ⟨nd.name.toArray⟩,.slice qo nd.attrs.length qc,.string ⟨nd.text.toArray⟩,.slice ko nd.kids.length kc] 45)).grownBy w4 (Value.slice ao pl.length ac).ownBlock→((∃ g cap,Value.slice ao pl.length ac=.slice (some ⟨g,0,none⟩) pl.length cap∧Value.slice o4 (pl.length+1) c4=.slice (some ⟨g,0,none⟩) (pl.length+1) cap)∨((Value.slice o4 (pl.length+1) c4).ownBlock=some (w2.alloc (.cells #[.string ⟨nd.name.toArray⟩,.slice qo nd.attrs.length qc,.string ⟨nd.text.toArray⟩,.slice ko nd.kids.length kc] 45)).heap.size∧Jb [] (w2.alloc (.cells #[.string ⟨nd.name.toArray⟩,.slice qo nd.attrs.length qc,.string ⟨nd.text.toArray⟩,.slice ko nd.kids.length kc] 45)) w4))→Calls Tryz.prog 171 (#[.slice ko nd.kids.length kc,.slice o4 (pl.length+1) c4,.func (.func 88) #[] #[]]++#[]) w4 fun e w5=>e=.panicked (X4 R)∧w5.ownsRow B1 45 4 (.slice ao pl.length ac) pl.length (Jk pl)∧Jb (Value.slice ao pl.length ac).ownBlock.toList w w5):=by
        intro w4 o4 c4 ho4 hg4 hc4;have hk4:Jb (Value.slice ao pl.length ac).ownBlock.toList w2 w4:=((Jb.refl _ w2).alloc _).grown hg4 (fun i e=>.inl (by simp [e]));have hk24:Jb (Value.slice ao pl.length ac).ownBlock.toList w w4:=hkp2.trans hk4;have hM4:JW w4:=hM2.keeps hk4 (fun hm=>by have:=(hrow2.lt 0 (by simpa using hm)).1;omega);refine (hin.out w4 (L++(Value.slice ao pl.length ac).ownBlock.toList) ((HKW.out.to (fun g hg=>List.mem_append_left _ hg)).trans (hk24.to (fun g hg=>List.mem_append_right _ hg))) (fun g hg hm=>(List.mem_append.1 hm).elim (HPL.out g hg) (hPc g hg)) hM4 (.slice o4 (pl.length+1) c4) ho4 (Nat.le_trans hB2 hk4.size)).mono ?_;rintro e w5 ⟨h9,hrow5,hk5⟩;have h8:=h9.elim (fun h=>absurd h.1 HD0.out) (fun h=>h.2.trans (by rw [HDR.out]));clear h9;subst h8;rcases hc4 with ⟨g4,cap4,e1,e2⟩ | ⟨e1,hk34⟩
        ·rw [e1];rw [e2] at hrow5 hk5;rw [e1] at hk24;refine ⟨rfl,Jeu (Yq pl) hrow5,QN hk24 hk5 (fun g hg _=>?_)⟩;exact hg
        ·have hr4:=hk34.owns (hrow2.alloc (.cells #[.string ⟨nd.name.toArray⟩,.slice qo nd.attrs.length qc,.string ⟨nd.text.toArray⟩,.slice ko nd.kids.length kc] 45)) (fun _ _=>List.not_mem_nil);have hsz9:(w2.alloc (.cells #[.string ⟨nd.name.toArray⟩,.slice qo nd.attrs.length qc,.string ⟨nd.text.toArray⟩,.slice ko nd.kids.length kc] 45)).heap.size=w2.heap.size+1:=by simp
         rw [hsz9] at e1;refine ⟨rfl,hk5.owns hr4 (fun g hg hm=>?_),QN hk24 hk5 (fun g hg hlt=>?_)⟩
         ·rw [e1] at hm;simp at hm;have:=(hrow2.lt g hg).2;omega
         ·rw [e1] at hg;simp at hg;have:=hkp2.size;omega
       refine wpAny_ready (rs:=[8,10]) (by kernel_rfl) (by simp) ?_;refine AllReady.cons rfl (fun K9 hK9=>?_) (AllReady.cons rfl (fun K9 hK9=>?_) AllReady.nil)
       ·refine Qt (v:=.slice ko nd.kids.length kc) (w':=w2) (Ji rfl rfl rfl rfl) (by go_simp) ?_;refine hK9 _ _ ?_;clear hK9 K9;simp only [List.getElem_toArray,List.getElem_cons_zero,List.getElem_cons_succ,Act.put,List.setIfInBounds_toArray,List.set];refine wpAny_ready (rs:=[10]) (by kernel_rfl) (by simp) ?_;refine AllReady.cons rfl (fun K9 hK9=>?_) AllReady.nil
        ·refine Qt (v:=.agg #[.string ⟨nd.name.toArray⟩,.slice qo nd.attrs.length qc,.string ⟨nd.text.toArray⟩,.slice ko nd.kids.length kc]) (w':=w2) (Ji rfl rfl rfl rfl) (by go_simp) ?_;refine hK9 _ _ ?_;clear hK9 K9;simp only [List.getElem_toArray,List.getElem_cons_zero,List.getElem_cons_succ,Act.put,List.setIfInBounds_toArray,List.set];refine wpAny_ready (rs:=[11]) (by kernel_rfl) (by simp) ?_;refine AllReady.cons rfl (fun K9 hK9=>?_) AllReady.nil
         ·refine Qt (v:=.slice (some ⟨w2.heap.size,0,none⟩) 1 1) (w':=w2.alloc (.cells #[.string ⟨nd.name.toArray⟩,.slice qo nd.attrs.length qc,.string ⟨nd.text.toArray⟩,.slice ko nd.kids.length kc] 45)) (Ji rfl rfl rfl rfl) (by go_simp) ?_;refine hK9 _ _ ?_;clear hK9 K9;simp only [List.getElem_toArray,List.getElem_cons_zero,List.getElem_cons_succ,Act.put,List.setIfInBounds_toArray,List.set];refine wpAny_ready (rs:=[12]) (by kernel_rfl) (by simp) ?_;refine AllReady.cons rfl (fun K9 hK9=>?_) AllReady.nil
          ·refine X8 (Ji rfl rfl rfl rfl) _ _ 29 rfl B1 45 i0 _ 4 80 Tryz.underlying29 hi hz0 hz1 hz2 (by kernel_rfl) (by decide) (.slice ao pl.length ac) pl.length (Jk pl) rfl (hrow2.alloc _) ⟨w2.heap.size,0,none⟩ 1 (Qd (⟨nd,.slice qo nd.attrs.length qc,.slice ko nd.kids.length kc⟩:Pn)) rfl rfl (J9 w2 _ 45) ZI (by unfold maxLen;omega) (by omega) (Nat.le_trans hB2 (by simp)) ?_;intro v4 w4 ho4 hg4 hc4;obtain ⟨o4,c4,hv4⟩:=Jg ho4;subst hv4;have hk4:Jb (Value.slice ao pl.length ac).ownBlock.toList w2 w4:=((Jb.refl _ w2).alloc _).grown hg4 (fun i e=>.inl (by simp [e]));have k3b:=JE hk4 (a:=⟨wr.heap.size,3,none⟩) (fun hm=>by have:=hrb _ (by simpa using hm);simp at this) k3;refine hK9 _ _ ?_;clear hK9 K9;simp only [List.getElem_toArray,List.getElem_cons_zero,List.getElem_cons_succ,Act.put,List.setIfInBounds_toArray,List.set];refine wpAny_ready (rs:=[14]) (by kernel_rfl) (by simp) ?_;refine AllReady.cons rfl (fun K9 hK9=>?_) AllReady.nil
           ·refine ZL (Ji rfl rfl rfl rfl) (.func 171) _ _ rfl 171 #[] rfl X6 #[.slice ko nd.kids.length kc,.slice o4 (pl.length+1) c4,.func (.func 88) #[] #[]] (by simp [Act.eval]) (hdeep.out w4 _ _ ho4 hg4 hc4) ?_;rintro e w5 ⟨rfl,hrow5,hk5⟩;refine ⟨_,rfl,?_⟩;simp only [Exit.inBlock,Exit.then];exact ⟨rfl,.inr ⟨HR0.out,rfl⟩,hrow5,hk5⟩
       ·refine Qt (v:=.agg #[.string ⟨nd.name.toArray⟩,.slice qo nd.attrs.length qc,.string ⟨nd.text.toArray⟩,.slice ko nd.kids.length kc]) (w':=w2) (Ji rfl rfl rfl rfl) (by go_simp) ?_;refine hK9 _ _ ?_;clear hK9 K9;simp only [List.getElem_toArray,List.getElem_cons_zero,List.getElem_cons_succ,Act.put,List.setIfInBounds_toArray,List.set];refine wpAny_ready (rs:=[8,11]) (by kernel_rfl) (by simp) ?_;refine AllReady.cons rfl (fun K9 hK9=>?_) (AllReady.cons rfl (fun K9 hK9=>?_) AllReady.nil)
        ·refine Qt (v:=.slice ko nd.kids.length kc) (w':=w2) (Ji rfl rfl rfl rfl) (by go_simp) ?_;refine hK9 _ _ ?_;clear hK9 K9;simp only [List.getElem_toArray,List.getElem_cons_zero,List.getElem_cons_succ,Act.put,List.setIfInBounds_toArray,List.set];refine wpAny_ready (rs:=[11]) (by kernel_rfl) (by simp) ?_;refine AllReady.cons rfl (fun K9 hK9=>?_) AllReady.nil
         ·refine Qt (v:=.slice (some ⟨w2.heap.size,0,none⟩) 1 1) (w':=w2.alloc (.cells #[.string ⟨nd.name.toArray⟩,.slice qo nd.attrs.length qc,.string ⟨nd.text.toArray⟩,.slice ko nd.kids.length kc] 45)) (Ji rfl rfl rfl rfl) (by go_simp) ?_;refine hK9 _ _ ?_;clear hK9 K9;simp only [List.getElem_toArray,List.getElem_cons_zero,List.getElem_cons_succ,Act.put,List.setIfInBounds_toArray,List.set];refine wpAny_ready (rs:=[12]) (by kernel_rfl) (by simp) ?_;refine AllReady.cons rfl (fun K9 hK9=>?_) AllReady.nil
          ·refine X8 (Ji rfl rfl rfl rfl) _ _ 29 rfl B1 45 i0 _ 4 80 Tryz.underlying29 hi hz0 hz1 hz2 (by kernel_rfl) (by decide) (.slice ao pl.length ac) pl.length (Jk pl) rfl (hrow2.alloc _) ⟨w2.heap.size,0,none⟩ 1 (Qd (⟨nd,.slice qo nd.attrs.length qc,.slice ko nd.kids.length kc⟩:Pn)) rfl rfl (J9 w2 _ 45) ZI (by unfold maxLen;omega) (by omega) (Nat.le_trans hB2 (by simp)) ?_;intro v4 w4 ho4 hg4 hc4;obtain ⟨o4,c4,hv4⟩:=Jg ho4;subst hv4;have hk4:Jb (Value.slice ao pl.length ac).ownBlock.toList w2 w4:=((Jb.refl _ w2).alloc _).grown hg4 (fun i e=>.inl (by simp [e]));have k3b:=JE hk4 (a:=⟨wr.heap.size,3,none⟩) (fun hm=>by have:=hrb _ (by simpa using hm);simp at this) k3;refine hK9 _ _ ?_;clear hK9 K9;simp only [List.getElem_toArray,List.getElem_cons_zero,List.getElem_cons_succ,Act.put,List.setIfInBounds_toArray,List.set];refine wpAny_ready (rs:=[14]) (by kernel_rfl) (by simp) ?_;refine AllReady.cons rfl (fun K9 hK9=>?_) AllReady.nil
           ·refine ZL (Ji rfl rfl rfl rfl) (.func 171) _ _ rfl 171 #[] rfl X6 #[.slice ko nd.kids.length kc,.slice o4 (pl.length+1) c4,.func (.func 88) #[] #[]] (by simp [Act.eval]) (hdeep.out w4 _ _ ho4 hg4 hc4) ?_;rintro e w5 ⟨rfl,hrow5,hk5⟩;refine ⟨_,rfl,?_⟩;simp only [Exit.inBlock,Exit.then];exact ⟨rfl,.inr ⟨HR0.out,rfl⟩,hrow5,hk5⟩
        ·refine Qt (v:=.slice (some ⟨w2.heap.size,0,none⟩) 1 1) (w':=w2.alloc (.cells #[.string ⟨nd.name.toArray⟩,.slice qo nd.attrs.length qc,.string ⟨nd.text.toArray⟩,.slice ko nd.kids.length kc] 45)) (Ji rfl rfl rfl rfl) (by go_simp) ?_;refine hK9 _ _ ?_;clear hK9 K9;simp only [List.getElem_toArray,List.getElem_cons_zero,List.getElem_cons_succ,Act.put,List.setIfInBounds_toArray,List.set];refine wpAny_ready (rs:=[8,12]) (by kernel_rfl) (by simp) ?_;refine AllReady.cons rfl (fun K9 hK9=>?_) (AllReady.cons rfl (fun K9 hK9=>?_) AllReady.nil)
         ·refine Qt (v:=.slice ko nd.kids.length kc) (w':=w2.alloc (.cells #[.string ⟨nd.name.toArray⟩,.slice qo nd.attrs.length qc,.string ⟨nd.text.toArray⟩,.slice ko nd.kids.length kc] 45)) (Ji rfl rfl rfl rfl) (by go_simp) ?_;refine hK9 _ _ ?_;clear hK9 K9;simp only [List.getElem_toArray,List.getElem_cons_zero,List.getElem_cons_succ,Act.put,List.setIfInBounds_toArray,List.set];refine wpAny_ready (rs:=[12]) (by kernel_rfl) (by simp) ?_;refine AllReady.cons rfl (fun K9 hK9=>?_) AllReady.nil
          ·refine X8 (Ji rfl rfl rfl rfl) _ _ 29 rfl B1 45 i0 _ 4 80 Tryz.underlying29 hi hz0 hz1 hz2 (by kernel_rfl) (by decide) (.slice ao pl.length ac) pl.length (Jk pl) rfl (hrow2.alloc _) ⟨w2.heap.size,0,none⟩ 1 (Qd (⟨nd,.slice qo nd.attrs.length qc,.slice ko nd.kids.length kc⟩:Pn)) rfl rfl (J9 w2 _ 45) ZI (by unfold maxLen;omega) (by omega) (Nat.le_trans hB2 (by simp)) ?_;intro v4 w4 ho4 hg4 hc4;obtain ⟨o4,c4,hv4⟩:=Jg ho4;subst hv4;have hk4:Jb (Value.slice ao pl.length ac).ownBlock.toList w2 w4:=((Jb.refl _ w2).alloc _).grown hg4 (fun i e=>.inl (by simp [e]));have k3b:=JE hk4 (a:=⟨wr.heap.size,3,none⟩) (fun hm=>by have:=hrb _ (by simpa using hm);simp at this) k3;refine hK9 _ _ ?_;clear hK9 K9;simp only [List.getElem_toArray,List.getElem_cons_zero,List.getElem_cons_succ,Act.put,List.setIfInBounds_toArray,List.set];refine wpAny_ready (rs:=[14]) (by kernel_rfl) (by simp) ?_;refine AllReady.cons rfl (fun K9 hK9=>?_) AllReady.nil
           ·refine ZL (Ji rfl rfl rfl rfl) (.func 171) _ _ rfl 171 #[] rfl X6 #[.slice ko nd.kids.length kc,.slice o4 (pl.length+1) c4,.func (.func 88) #[] #[]] (by simp [Act.eval]) (hdeep.out w4 _ _ ho4 hg4 hc4) ?_;rintro e w5 ⟨rfl,hrow5,hk5⟩;refine ⟨_,rfl,?_⟩;simp only [Exit.inBlock,Exit.then];exact ⟨rfl,.inr ⟨HR0.out,rfl⟩,hrow5,hk5⟩
         ·refine X8 (Ji rfl rfl rfl rfl) _ _ 29 rfl B1 45 i0 _ 4 80 Tryz.underlying29 hi hz0 hz1 hz2 (by kernel_rfl) (by decide) (.slice ao pl.length ac) pl.length (Jk pl) rfl (hrow2.alloc _) ⟨w2.heap.size,0,none⟩ 1 (Qd (⟨nd,.slice qo nd.attrs.length qc,.slice ko nd.kids.length kc⟩:Pn)) rfl rfl (J9 w2 _ 45) ZI (by unfold maxLen;omega) (by omega) (Nat.le_trans hB2 (by simp)) ?_;intro v4 w4 ho4 hg4 hc4;obtain ⟨o4,c4,hv4⟩:=Jg ho4;subst hv4;have hk4:Jb (Value.slice ao pl.length ac).ownBlock.toList w2 w4:=((Jb.refl _ w2).alloc _).grown hg4 (fun i e=>.inl (by simp [e]));have k3b:=JE hk4 (a:=⟨wr.heap.size,3,none⟩) (fun hm=>by have:=hrb _ (by simpa using hm);simp at this) k3;refine hK9 _ _ ?_;clear hK9 K9;simp only [List.getElem_toArray,List.getElem_cons_zero,List.getElem_cons_succ,Act.put,List.setIfInBounds_toArray,List.set];refine wpAny_ready (rs:=[8]) (by kernel_rfl) (by simp) ?_;refine AllReady.cons rfl (fun K9 hK9=>?_) AllReady.nil
          ·refine Qt (v:=.slice ko nd.kids.length kc) (w':=w4) (Ji rfl rfl rfl rfl) (by go_simp) ?_;refine hK9 _ _ ?_;clear hK9 K9;simp only [List.getElem_toArray,List.getElem_cons_zero,List.getElem_cons_succ,Act.put,List.setIfInBounds_toArray,List.set];refine wpAny_ready (rs:=[14]) (by kernel_rfl) (by simp) ?_;refine AllReady.cons rfl (fun K9 hK9=>?_) AllReady.nil
           ·refine ZL (Ji rfl rfl rfl rfl) (.func 171) _ _ rfl 171 #[] rfl X6 #[.slice ko nd.kids.length kc,.slice o4 (pl.length+1) c4,.func (.func 88) #[] #[]] (by simp [Act.eval]) (hdeep.out w4 _ _ ho4 hg4 hc4) ?_;rintro e w5 ⟨rfl,hrow5,hk5⟩;refine ⟨_,rfl,?_⟩;simp only [Exit.inBlock,Exit.then];exact ⟨rfl,.inr ⟨HR0.out,rfl⟩,hrow5,hk5⟩
     ·have hvis:=Ja (fun (W':World) (hkk:Jb [] Wb W')=>(hvis0 W' (hka.trans hkk)).mono (R':=fun e w'=>e=.panicked (X4 D1)∧Jb [] W' w') (fun e w' h=>⟨h.1.elim (fun h=>absurd h.1 hd1) (fun h=>h.2),h.2⟩));rw [if_neg hd1] at hW1;subst hW1;have HR0:=Ja hd1;clear hd1 hvis0 hpk;go_upto_region 4 with fail;refine wp_region_any (by kernel_rfl) ?_;change wpAny _ _ _ _ _ _ _ (World.drew _);refine wpAny_take (i:=0) (v:=.func (.func 88) #[] #[]) rfl (by kernel_rfl) (by kernel_rfl) (by kernel_rfl) (fun _ _ _ h=>h) (Or.inl ⟨by rfl,by intro w;go_simp⟩) ?_;simp only [List.getElem_toArray,List.getElem_cons_zero,Act.put,List.setIfInBounds_toArray,List.set];refine wpAny_take (i:=1) (v:=.slice (some ⟨g,x,none⟩) l.length c) rfl (by kernel_rfl) (by kernel_rfl) (by kernel_rfl) (fun _ _ _ h=>h) (Or.inl ⟨by rfl,by intro w;go_simp⟩) ?_;simp only [List.getElem_toArray,List.getElem_cons_zero,List.getElem_cons_succ,Act.put,List.setIfInBounds_toArray,List.set];refine wpAny_take (i:=2) (v:=.int .i64 k) rfl (by kernel_rfl) (by kernel_rfl) (by kernel_rfl) (fun _ _ _ h=>h) (Or.inl ⟨by rfl,by intro w;go_simp⟩) ?_;simp only [List.getElem_toArray,List.getElem_cons_zero,List.getElem_cons_succ,Act.put,List.setIfInBounds_toArray,List.set];refine wpAny_take (i:=3) (v:=.slice ao pl.length ac) rfl (by kernel_rfl) (by kernel_rfl) (by kernel_rfl) (fun _ _ _ h=>h) (Or.inl ⟨by rfl,by intro w;go_simp⟩) ?_;simp only [List.getElem_toArray,List.getElem_cons_zero,List.getElem_cons_succ,Act.put,List.setIfInBounds_toArray,List.set];refine wpAny_ready (rs:=[4]) (by kernel_rfl) (by simp) ?_;refine AllReady.cons rfl (fun K9 hK9=>?_) AllReady.nil;refine ZL (by simp [Region.wanted]) (.tmp 16) _ _ rfl 88 #[] rfl Jd6 #[.slice (some ⟨g,x,none⟩) l.length c,.int .i64 k,.slice ao pl.length ac] (by first | (simp [Act.eval];done) | (simp [Act.eval,Act.put];done)) (hvis.out _ ((Jb.refl [] _).drew)) ?_;rintro e w2 ⟨rfl,hS2⟩;refine ⟨_,rfl,?_⟩;simp only [Exit.inBlock,Exit.then];exact ⟨rfl,.inr ⟨HR0.out,rfl⟩,(hend.out _ (hka.trans ((Jb.refl [] _).drew)) hS2).1,(hend.out _ (hka.trans ((Jb.refl [] _).drew)) hS2).2⟩
    ·have hRe:R=0:=by
      have:=hW.out;rw [List.drop_eq_nil_of_le (by rw [←Hll.out];omega),isE] at this;exact this.symm
     subst hRe;go_wp2_with fail;go_ret;exact ⟨rfl,hrow'.out,hkr.out⟩
theorem JqU (w:World) (P:Nat→Prop) (v:Value) (ns:List Nd) (h:Ns w P v ns) (hM:JW w) (hsz:JD ns≤2000000) (hV:YR ns):
  Calls Tryz.prog 87 #[v,.func (.func 88) #[] #[]] w fun e w'=>(isE ns=0∧e=.returned (.bool true)∨isE ns≠0∧e=.panicked (X4 (isE ns)))∧Jb [] w w':=by
 have hc:=Ja (JqT (fun g=>g<w.heap.size) w.heap.size hM.pos (fun _ h=>h) w v ns h.lt w [] (Jb.refl _ _) (fun _ _=>List.not_mem_nil) hM (.slice none 0 0) [] (World.ownsRow_nil _ _ _ _) (Nat.le_refl _) (by simpa using hsz) hV);obtain ⟨o,c,hv⟩:=h.form;subst hv;clear h hV;generalize isE ns=E at *;go_enter Tryz.func87,Tryz.ntmps87;go_wp2_with fail;refine hc.out.mono ?_;rintro e w1 ⟨⟨hE,rfl⟩ | ⟨hE,rfl⟩,_,hk⟩
 ·have hk':Jb [] w w1:=hk.mono (fun g hg _=>by simp [Value.ownBlock] at hg);go_wp2_with fail;go_ret
  first | exact ⟨.inl ⟨hE,rfl⟩,hk'⟩ | exact ⟨.inl ⟨trivial,rfl⟩,hk'⟩
 ·exact ⟨rfl,.inr ⟨hE,rfl⟩,hk.mono (fun g hg _=>by simp [Value.ownBlock] at hg)⟩
theorem Jre:Jy 86:=JC Tryz.func86 (by kernel_rfl) (by kernel_rfl)
theorem JsG (b:Nat) (w:World) (P:Nat→Prop) (v:Value) (ns:List Nd) (h:Ns w P v ns) (hb:w.heap[b]?=some (.cells #[v] 29 (0,0))) (hM:JW w) (hsz:JD ns≤2000000) (hV:YR ns):
  Calls Tryz.prog 86 #[.pointer (some ⟨b,0,none⟩)] w fun e w'=>(isE ns=0∧e=.returned (.tuple #[])∨isE ns≠0∧e=.panicked (X4 (isE ns)))∧Jb [] w w':=by
 have hc:=Ja (JqU w P v ns h hM hsz hV);obtain ⟨o,c,hv⟩:=h.form;subst hv;clear h hV;have c0:w.cell? ⟨b,0,none⟩=some (.slice o ns.length c):=Jd hb 0;generalize isE ns=E at *;go_enter Tryz.func86,Tryz.ntmps86;go_wp2_with fail;refine hc.out.mono ?_;rintro e w1 ⟨⟨hE,rfl⟩ | ⟨hE,rfl⟩,hk⟩
 ·go_wp2_with fail
  go_end0
  first | exact ⟨.inl ⟨hE,rfl⟩,hk⟩ | exact ⟨.inl ⟨trivial,rfl⟩,hk⟩
 ·exact ⟨rfl,.inr ⟨hE,rfl⟩,hk⟩
theorem Jle (w:World) (P:Nat→Prop) (v:Value) (ns:List Nd) (h:Ns w P v ns) (hM:JW w) (hsz:JD ns≤2000000) (hF:Qw ns) (hV:YR ns):
  Calls Tryz.prog 20 #[v] w fun e w'=>e=.returned (.tuple #[.bool (decide (XN ns=0)&&decide (isE ns=0)),.int .i64 (XN ns)])∧Jb [] w w':=by
 have hn:=Ja h;obtain ⟨o,c,hv⟩:=h.form;subst hv;obtain ⟨W,hW⟩: ∃ W,w.alloc (.cells #[.slice o ns.length c] 29)=W:=⟨_,rfl⟩;have hkW:Jb [] w W:=by rw [←hW];exact (Jb.refl [] w).alloc _
 have hb:W.heap[w.heap.size]?=some (.cells #[.slice o ns.length c] 29 (0,0)):=by rw [←hW];exact heap_alloc_new w _
 have c0:W.cell? ⟨w.heap.size,0,none⟩=some (.slice o ns.length c):=Jd hb 0;have nn: ∀ g,g∉([]:List Nat):=fun _=>List.not_mem_nil;have hck:=Ja (JeR W P _ ns (h.keeps0 hkW) hsz hF);have HB:=Ja hb;have hmf: ∀ (fn:Fn) (first cap:Array Value) (w:World),(Instr.makeFunc fn first cap).run Tryz.prog w=.ok (.func fn first cap) w:=fun _ _ _ _=>rfl
 have hca:=Ja (fun (w1:World) (hk1:Jb [] W w1)=>Jg6 86 #[.pointer (some ⟨w.heap.size,0,none⟩)] (fun _=>isE ns=0) (fun x _=>isE ns≠0∧x≠0) [] w1 Jre (fun _ h=>absurd h (nn _)) (fun _ _ _ h _=>h) (fun _ _ _ _ h _=>h)
  (fun w2 hk2 _=>(JsG w.heap.size w2 P _ ns (((hn.out.keeps0 hkW).keeps0 hk1).keeps0 hk2) (((hk1.trans hk2).block _ (lt_of_block HB.out) (nn _)).trans HB.out) (hM.keeps ((hkW.trans hk1).trans hk2) (nn _)) hsz hV).mono (fun e w3 h=>⟨h.1.elim (fun h=>.inl ⟨h.2,h.1⟩) (fun h=>.inr ⟨_,h.2,h.1,h.1⟩),h.2⟩)))
 clear h hb hF hV;generalize XN ns=C at *;by_cases hC:C=0
 ·subst hC;generalize isE ns=E at *;go_enter Tryz.func20,Tryz.ntmps20;go_wp2_with fail;refine hck.out.mono ?_;rintro e w1 ⟨rfl,hk1⟩;clear c0;go_wp2_with fail;refine (hca.out w1 hk1).mono ?_;rintro e w2 ⟨⟨rfl,hE⟩ | ⟨x,rfl,hE,hx⟩,hk2⟩
  ·go_wp2_with fail
   go_ret2
   exact ⟨by simp [hE],(hkW.trans hk1).trans hk2⟩
  ·have hxb:(x==0)=false:=by simpa using hx
   clear hx;go_wp2_with fail
   go_ret2
   exact ⟨by simp [hE],(hkW.trans hk1).trans hk2⟩
 ·have hCb:(C != 0)=true:=by simpa using hC
  have hd:decide (C=0)=false:=by simpa using hC
  rw [hd];clear hca hC;go_enter Tryz.func20,Tryz.ntmps20;go_wp2_with fail;refine hck.out.mono ?_;rintro e w1 ⟨rfl,hk1⟩;clear c0;go_wp2_with fail
  go_ret2
  exact ⟨by simp,hkW.trans hk1⟩
theorem JrL (a b:List UInt8):J0 (a++b)=J0 a++J0 b:=by simp [J0]
theorem Jqa (t:List UInt8) (k m:Nat):J0 (t.take (k+m))=J0 (t.take k)++J0 ((t.drop k).take m):=by
 rw [List.take_add,JrL]
set_option maxRecDepth 4000 in
theorem JeL (B b:Nat) (l t:List UInt8) (w:World) (h:XJ B b l w) (hBw:B≤w.heap.size) (ht:t.length≤38000000) (hl:l.length≤700000000):
  Calls Tryz.prog 142 #[.pointer (some ⟨b,0,none⟩),.string ⟨t.toArray⟩] w fun e w'=>e=.returned (.tuple #[])∧XJ B b (l++J0 t) w'∧J4 B b w w':=by
 go_enter Tryz.func142,Tryz.ntmps142;go_wp2_with fail
 go_loopg [1] (t.length+1) (fun g v wr=> ∃ (k:Nat) (X:ByteArray),k≤t.length∧t.length+1≤g+k∧v=.string X∧Hid (X.data.toList=t.drop k)∧X.size+k=t.length∧XJ B b (l++J0 (t.take k)) wr∧J4 B b w wr)
 case atStart=>exact ⟨0,⟨t.toArray⟩,Nat.zero_le _,by omega,rfl,rfl,rfl,by simpa [J0] using h,J4.refl _ _ _⟩
 case round=>
  obtain ⟨k,X,hk,hg,rfl,hX,hXs,hbk,hkw⟩:=hrel;by_cases hz:X.size=0
  ·have hkt:k=t.length:=by omega
   have htk:t.take k=t:=List.take_of_length_le (by omega);rw [htk] at hbk;clear hkt htk;have hgt:decide ((0:Int)<(X.size:Int))=false:=by rw [hz];rfl
   go_wp2_with fail
   go_end0
   exact ⟨rfl,hbk,hkw⟩
  ·obtain ⟨f,rfl⟩: ∃ f,gk=f+1:=⟨gk - 1,by omega⟩;obtain ⟨m,hm⟩: ∃ m,m=min X.size 3000:=⟨_,rfl⟩;have hm1:1≤m:=by omega
   have hm2:m≤X.size:=by omega
   have hm3:m≤3000:=by omega
   have hmin:min (X.size:Int) 3000=(m:Int):=by omega
   have hgt:decide ((0:Int)<(X.size:Int))=true:=by simp;omega
   have hpos:0<X.size:=by omega
   clear hm;have hPd:(X.extract 0 m).data.toList=(t.drop k).take m:=by
    rw [Lib.extract_data,hX.out];simp
   have hPl:((t.drop k).take m).length=m:=by
    have:=Js X;rw [hX.out] at this;rw [List.length_take,this];omega
   have hRd:(X.extract m X.size).data.toList=t.drop (k+m):=by
    rw [Lib.extract_to_end,hX.out,List.drop_drop]
   have hRs:(X.extract m X.size).size+(k+m)=t.length:=by simp;omega
   have hPs:(X.extract 0 m).size=m:=by simp;omega
   have hput:=Ja (fun w=>JsP (X.extract 0 m) w (by unfold maxLen;omega));have hans:JhN (X.extract 0 m).data.toList=(J0 ((t.drop k).take m),0):=by
    unfold JhN;rw [hPd,if_neg (by omega)]
   rw [hans] at hput;have hpl1:=Jat (t.take k);have hpl2:=Jat ((t.drop k).take m);have htl:(t.take k).length≤38000000:=by rw [List.length_take];omega
   have hwr:=Ja (fun (w:World) h hB=>Jah B b (l++J0 (t.take k)) (J0 ((t.drop k).take m)) w h (by rw [List.length_append];omega) hB);have HT:=Ja (Jqa t k m);have HRd:=Ja hRd;have hBr:=Nat.le_trans hBw hkw.size;clear hPd hRd hPl hans hpl1 hpl2 htl;generalize J0 ((t.drop k).take m)=T at *;generalize J0 (t.take k)=Y at *;go_wp2_with fail;refine (hput.out _).mono ?_;rintro e w2 ⟨rfl,hk2⟩;unfold two;go_wp2_with fail;refine (hwr.out _ (hbk.keeps hk2) (Nat.le_trans hBr hk2.size)).mono ?_;rintro e w3 ⟨rfl,hb3,hk3⟩;have hb3':XJ B b (l++J0 (t.take (k+m))) w3:=by rw [HT.out, ←List.append_assoc];exact hb3
   have hkw3:J4 B b w w3:=(hkw.trans (J4.of hk2)).trans hk3;go_wp2_with fail
   go_roundg f
   case measure=>omega
   case rel=>exact ⟨k+m,X.extract m X.size,by omega,by omega,rfl,HRd,hRs,hb3',hkw3⟩
end Go.Proofs.YtlcljanibjdejaaGreat
