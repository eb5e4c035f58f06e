/- ShelfTells holds: the law returns true for every input, and each argument reads behind the call as it read before; no condition. A part of its proof. -/
import Derived.Test.YtlcljanibjdejaaGreatSt03
import Derived.Laws.OwnMore
import Derived.WalkSmall
set_option maxHeartbeats 64000000
namespace Go.Proofs.YtlcljanibjdejaaGreat
open Go.RowKit Go.Maps
inductive Nd where
 | mk (name:List UInt8) (attrs:List Jw) (text:List UInt8) (kids:List Nd)
def Nd.name:Nd→List UInt8 | .mk n _ _ _=>n
def Nd.attrs:Nd→List Jw | .mk _ a _ _=>a
def Nd.text:Nd→List UInt8 | .mk _ _ t _=>t
def Nd.kids:Nd→List Nd | .mk _ _ _ k=>k
def Jhp (n:List UInt8):Bool:=(n==[115,99,114,105,112,116]) || (n==[115,116,121,108,101]) || (n==[116,101,109,112,108,97,116,101])
structure Op where
 name:List UInt8
 attrs:List Jw
 kids:List Nd
def Op.nd (o:Op):Nd:=.mk o.name o.attrs [] o.kids
def Op.put (o:Op) (n:Nd):Op:={ o with kids:=o.kids++[n] }
structure St where
 up:List Op
 cur:Op
 text:List UInt8
def St.all (s:St):List Op:=s.up.reverse++[s.cur]
def St.names (s:St):List (List UInt8):=s.all.map Op.name
def Xn (t:List UInt8):Nd:=.mk [] [] t []
def St.put (s:St) (n:Nd):St:={ s with cur:=s.cur.put n }
def St.endText (s:St):St:=if s.text=[] then s else ⟨s.up,s.cur.put (Xn s.text),[]⟩
def St.pop (s:St):St:=
 match s.up with
 | []=>s.endText
 | o::up=>⟨up,o.put s.endText.cur.nd,[]⟩
def St.close:Nat→St→St
 | 0,s=>s
 | k+1,s=>St.close k s.pop
def St.closeFrom (s:St) (a:Nat):St:=s.close (s.up.length+1 - a)
def St.openIn (s:St) (t:Tok):St:=
 if Qm t.name=true then s.endText.put (.mk t.name t.attrs [] []) else ⟨s.endText.cur::s.up,⟨t.name,t.attrs,[]⟩,[]⟩
def St.openTag (s:St) (t:Tok):St:=
 if 8<(s.closeFrom (Jm s.names t.name)).up.length+1 then s.closeFrom (Jm s.names t.name) else (s.closeFrom (Jm s.names t.name)).openIn t
def St.closeTag (s:St) (n:List UInt8):St:=s.closeFrom (JZ (· ==n) (fun _=>false) s.names)
def St.step (s:St) (t:Tok):St:=if t.kind=1 then { s with text:=s.text++t.text } else if t.kind=2 then s.openTag t else s.closeTag t.name
def St.start:St:=⟨[],⟨[],[],[]⟩,[]⟩
def JP (ts:List Tok):List Nd:=((ts.foldl St.step St.start).closeFrom 1).endText.cur.kids
theorem QD (s:St):s.endText.text=[]:=by unfold St.endText;split<;>simp [*]
theorem QG (s:St):s.endText.up=s.up:=by unfold St.endText;split<;>rfl
theorem Jcl (s:St):s.pop.up=s.up.tail:=by
 unfold St.pop;split
 ·next h=>rw [QG,h];rfl
 ·next h=>rw [h];rfl
theorem JdY (k:Nat) (s:St):(s.close k).up=s.up.drop k:=by
 induction k generalizing s with
 | zero=>rfl
 | succ k ih=>rw [St.close,ih,Jcl];simp
theorem JoB (p:Int) (ts:List Tok) (h:Qi p ts=0): ∀ t∈ts,Xi t=0:=by
 induction ts generalizing p with
 | nil=>simp
 | cons t ts ih=>
   unfold Qi at h;split at h
   ·next hc=>exact absurd h hc
   ·next hc=>
    have hc':Xi t=0:=Decidable.not_not.1 hc;split at h
    ·simp at h
    ·intro u hu;rcases List.mem_cons.1 hu with rfl | hu
     ·exact hc'
     ·exact ih _ h u hu
theorem Je5 (ts:List Tok) (h:Ya ts=0): ∀ t∈ts,Xi t=0:=by
 unfold Ya at h;split at h
 ·simp at h
 ·exact JoB 0 ts h
def QB (w:World) (P:Nat→Prop) (v:Value) (n z:Nat) (xs:List Value):Prop:=
 xs.length=n * z∧((n=0∧ ∃ a c,v=.slice a 0 c∧c≤maxLen)∨(∃ g o c,v=.slice (some ⟨g,o,none⟩) n c∧n≤c∧c≤maxLen∧g<w.heap.size∧P g∧ ∀ j u,xs[j]?=some u→w.cell? ⟨g,o+j,none⟩=some u))
theorem QB.lies {w:World} {P:Nat→Prop} {v:Value} {n z:Nat} {xs:List Value} (h:QB w P v n z xs):Jh w v n z xs:=by
 refine ⟨h.1,?_⟩;rcases h.2 with ⟨h0,a,c,rfl,h1⟩ | ⟨g,o,c,rfl,h1,h2,_,_,h3⟩
 ·exact .inr (.inr ⟨h0,a,c,rfl,h1⟩)
 ·exact .inr (.inl ⟨g,o,c,rfl,h1,h2,h3⟩)
theorem QB.mono {w:World} {P Q:Nat→Prop} {v:Value} {n z:Nat} {xs:List Value} (h:QB w P v n z xs) (hPQ: ∀ g,g<w.heap.size→P g→Q g):QB w Q v n z xs:=by
 refine ⟨h.1,?_⟩;rcases h.2 with h0 | ⟨g,o,c,e,h1,h2,h3,h4,h5⟩
 ·exact .inl h0
 ·exact .inr ⟨g,o,c,e,h1,h2,h3,hPQ g h3 h4,h5⟩
theorem JE {S:List Nat} {w w':World} (hk:Jb S w w') {a:Addr} {u:Value} (ha:a.block∉S) (h:w.cell? a=some u):w'.cell? a=some u:=by
 have hlt:a.block<w.heap.size:=by
  rcases Nat.lt_or_ge a.block w.heap.size with h' | h'
  ·exact h'
  ·unfold World.cell? at h;rw [Array.getElem?_eq_none h'] at h;simp at h
 exact (World.cell?_of_block (hk.block _ hlt ha)).trans h
theorem QB.keeps {w w':World} {S:List Nat} {P:Nat→Prop} {v:Value} {n z:Nat} {xs:List Value} (h:QB w P v n z xs) (hk:Jb S w w') (hS: ∀ g,P g→g∉S):QB w' P v n z xs:=by
 refine ⟨h.1,?_⟩;rcases h.2 with h0 | ⟨g,o,c,e,h1,h2,h3,h4,h5⟩
 ·exact .inl h0
 ·exact .inr ⟨g,o,c,e,h1,h2,Nat.lt_of_lt_of_le h3 hk.size,h4,fun j u hj=>JE hk (hS g h4) (h5 j u hj)⟩
theorem QB.of_row {w:World} {B:Nat} {e:TypeId} {z:Nat} {v:Value} {n:Nat} {xs:List Value} {P:Nat→Prop} (h:w.ownsRow B e z v n xs) (hP: ∀ g,v.ownBlock=some g→P g):QB w P v n z xs:=by
 refine ⟨h.1,?_⟩;have hlt:=h.lt;rcases h.2 with ⟨rfl,h0⟩ | ⟨g,cap,cur,rfl,hb,hg,h3,h4,_⟩
 ·exact .inl ⟨h0,none,0,rfl,by simp [maxLen]⟩
 ·refine .inr ⟨g,0,cap,rfl,h3,h4,(hlt g rfl).2,hP g rfl,fun j u hj=>?_⟩;have:=h.cells (g:=g) rfl j u hj;rw [ZY] at this;rw [Nat.zero_add];exact this
structure Pn where
 nd:Nd
 av:Value
 kv:Value
def Qd (p:Pn):List Value:=[.string ⟨p.nd.name.toArray⟩,p.av,.string ⟨p.nd.text.toArray⟩,p.kv]
def Jk (l:List Pn):List Value:=l.flatMap Qd
theorem Yq (l:List Pn):(Jk l).length=l.length * 4:=by
 induction l with
 | nil=>rfl
 | cons p l ih=>simp only [Jk,List.flatMap_cons,List.length_append] at ih ⊢;rw [ih];simp [Qd];omega
inductive Ns (w:World) (P:Nat→Prop):Value→List Nd→Prop
 | mk (v:Value) (l:List Pn) (ns:List Nd) (e:l.map Pn.nd=ns) (h:QB w P v l.length 4 (Jk l)) (ha: ∀ p∈l,QB w P p.av p.nd.attrs.length 2 (Jj p.nd.attrs)) (hk: ∀ p∈l,Ns w P p.kv p.nd.kids):Ns w P v ns
theorem Ns.mono {w:World} {P Q:Nat→Prop} {v:Value} {ns:List Nd} (h:Ns w P v ns) (hPQ: ∀ g,g<w.heap.size→P g→Q g):Ns w Q v ns:=by
 induction h with
 | mk v l ns e h ha hk ih=>exact .mk v l ns e (h.mono hPQ) (fun p hp=>(ha p hp).mono hPQ) ih
theorem Ns.keeps {w w':World} {S:List Nat} {P:Nat→Prop} {v:Value} {ns:List Nd} (h:Ns w P v ns) (hk:Jb S w w') (hS: ∀ g,P g→g∉S):Ns w' P v ns:=by
 induction h with
 | mk v l ns e h ha _ ih=>exact .mk v l ns e (h.keeps hk hS) (fun p hp=>(ha p hp).keeps hk hS) ih
theorem Ns.nil (w:World) (P:Nat→Prop) (a:Option Addr) (c:Nat) (hc:c≤maxLen):Ns w P (.slice a 0 c) []:=.mk _ [] _ rfl ⟨rfl,.inl ⟨rfl,a,c,rfl,hc⟩⟩ (by simp) (by simp)
theorem JhK (l:List Pn) (k j:Nat) (hk:k<l.length) (hj:j<4):(Jk l)[k * 4+j]?=(Qd l[k])[j]?:=by
 induction l generalizing k with
 | nil=>simp at hk
 | cons p l ih=>
   have e:Jk (p::l)=Qd p++Jk l:=by simp [Jk]
   have h4:(Qd p).length=4:=rfl;rw [e];cases k with
   | zero=>rw [Nat.zero_mul,Nat.zero_add,List.getElem?_append_left (by omega)];rfl
   | succ k=>
     rw [List.getElem?_append_right (by omega),h4,show (k+1) * 4+j - 4=k * 4+j from by omega];exact ih k (by simpa using hk)
theorem YJ {w:World} {g o:Nat} {l:List Pn} (h: ∀ j u,(Jk l)[j]?=some u→w.cell? ⟨g,o+j,none⟩=some u) (k:Nat) (hk:k<l.length):
  w.cell? ⟨g,o+k * 4,none⟩=some (.string ⟨l[k].nd.name.toArray⟩)∧w.cell? ⟨g,o+k * 4+1,none⟩=some l[k].av∧w.cell? ⟨g,o+k * 4+2,none⟩=some (.string ⟨l[k].nd.text.toArray⟩)∧w.cell? ⟨g,o+k * 4+3,none⟩=some l[k].kv:=by
 have e: ∀ j,j<4→o+k * 4+j=o+(k * 4+j):=fun j _=>by omega
 refine ⟨?_,?_,?_,?_⟩
 ·exact h (k * 4) _ ((JhK l k 0 hk (by omega)).trans rfl)
 ·rw [e 1 (by omega)];exact h _ _ ((JhK l k 1 hk (by omega)).trans rfl)
 ·rw [e 2 (by omega)];exact h _ _ ((JhK l k 2 hk (by omega)).trans rfl)
 ·rw [e 3 (by omega)];exact h _ _ ((JhK l k 3 hk (by omega)).trans rfl)
structure Po where
 o:Op
 av:Value
 kv:Value
 ks:List Pn
def Ja8 (p:Po):List Value:=[.string ⟨p.o.name.toArray⟩,p.av,.string ⟨#[]⟩,p.kv]
def Xs (l:List Po):List Value:=l.flatMap Ja8
theorem Zh (l:List Po):(Xs l).length=l.length * 4:=by
 induction l with
 | nil=>rfl
 | cons p l ih=>simp only [Xs,List.flatMap_cons,List.length_append] at ih ⊢;rw [ih];simp [Ja8];omega
theorem Jab (l:List Po) (p:Po):Xs (l++[p])=Xs l++Ja8 p:=by simp [Xs]
def Zk (l:List Po):List Nat:=l.flatMap fun p=>p.kv.ownBlock.toList
def JU (r:Nat) (openv textv:Value) (l:List Po):List Nat:=r::(textv.ownBlock.toList++(openv.ownBlock.toList++Zk l))
def Qp (B:Nat) (T:List Nat) (g:Nat):Prop:=B≤g∧g∉T
def Stp (w:World) (T:List Nat) (w':World) (T':List Nat):Prop:=Jb T w w'∧ ∀ g,g∈T'→g<w.heap.size→g∈T
theorem Stp.refl (w:World) (T:List Nat):Stp w T w T:=⟨Jb.refl _ _,fun _ h _=>h⟩
theorem Stp.trans {w w1 w2:World} {T T1 T2:List Nat} (h:Stp w T w1 T1) (k:Stp w1 T1 w2 T2):Stp w T w2 T2:=
 ⟨⟨k.1.os.trans h.1.os,k.1.tape.trans h.1.tape,k.1.output.trans h.1.output,Nat.le_trans h.1.size k.1.size,fun i hi hT=>(k.1.block i (Nat.lt_of_lt_of_le hi h.1.size) (fun hm=>hT (h.2 i hm hi))).trans (h.1.block i hi hT)⟩,
   fun g hg hlt=>h.2 g (k.2 g hg (Nat.lt_of_lt_of_le hlt h.1.size)) hlt⟩
theorem Stp.nil {w w':World} (h:Jb [] w w') (T:List Nat):Stp w T w' T:=⟨h.mono (fun _ hm=>absurd hm List.not_mem_nil),fun _ h _=>h⟩
theorem Stp.below {w w':World} {T T':List Nat} {B:Nat} (h:Stp w T w' T') (hT: ∀ g,g∈T→B≤g) (hB:B≤w.heap.size):Below B w w':=h.1.below hB hT
structure Bd (w:World) (B r:Nat) (openv textv:Value) (l:List Po) (text:List UInt8):Prop where
 blk:w.heap[r]?=some (.cells #[openv,textv] 115 (0,0))
 opn:w.ownsRow B 45 4 openv l.length (Xs l)
 txt:w.ownsRow B 5 1 textv text.length (Lib.byteCells text)
 kids: ∀ p∈l,p.ks.map Pn.nd=p.o.kids∧w.ownsRow B 45 4 p.kv p.ks.length (Jk p.ks)
 attrs: ∀ p∈l,QB w (Qp B (JU r openv textv l)) p.av p.o.attrs.length 2 (Jj p.o.attrs)
 done: ∀ p∈l, ∀ q∈p.ks,QB w (Qp B (JU r openv textv l)) q.av q.nd.attrs.length 2 (Jj q.nd.attrs)∧Ns w (Qp B (JU r openv textv l)) q.kv q.nd.kids
 apart:(openv.ownBlock.toList++Zk l).Nodup
 hr:B≤r
 pos:0<B
section
variable {w w':World} {B r:Nat} {openv textv:Value} {l:List Po} {text:List UInt8}
theorem Bd.lt (h:Bd w B r openv textv l text):r<w.heap.size:=by
 rcases Nat.lt_or_ge r w.heap.size with h' | h'
 ·exact h'
 ·have:=h.blk;rw [Array.getElem?_eq_none h'] at this;simp at this
theorem Bd.cell0 (h:Bd w B r openv textv l text):w.cell? ⟨r,0,none⟩=some openv:=by
 have:=h.blk;simp [World.cell?,this]
theorem Bd.cell1 (h:Bd w B r openv textv l text):w.cell? ⟨r,1,none⟩=some textv:=by
 have:=h.blk;simp [World.cell?,this]
theorem Bd.free (h:Bd w B r openv textv l text) (j:Nat):w.frozen? ⟨r,j,none⟩=false:=by
 have:=h.blk;simp [World.frozen?,this]
theorem Bd.form {p:Po} (h:Bd w B r openv textv (l++[p]) text): ∃ go cap,openv=.slice (some ⟨go,0,none⟩) (l.length+1) cap∧B≤go∧go<w.heap.size∧l.length+1≤cap∧cap≤maxLen:=by
 have h1:=h.opn;have hlt:=h1.lt;rcases h1.2 with ⟨_,h0⟩ | ⟨g,cap,cur,e,hb,_,h3,h4,_⟩
 ·simp at h0
 ·subst e;have:=(hlt g rfl).2;simp only [List.length_append,List.length_singleton] at h3 ⊢;exact ⟨g,cap,rfl,hb,this,h3,h4⟩
theorem Bd.keepsNil (h:Bd w B r openv textv l text) (hk:Jb [] w w'):Bd w' B r openv textv l text:=by
 have n0: ∀ g,Qp B (JU r openv textv l) g→g∉([]:List Nat):=fun _ _=>List.not_mem_nil;refine ⟨?_,hk.owns h.opn (fun _ _=>List.not_mem_nil),hk.owns h.txt (fun _ _=>List.not_mem_nil),fun p hp=>⟨(h.kids p hp).1,hk.owns (h.kids p hp).2 (fun _ _=>List.not_mem_nil)⟩,fun p hp=>(h.attrs p hp).keeps hk n0,fun p hp q hq=>⟨(h.done p hp q hq).1.keeps hk n0,(h.done p hp q hq).2.keeps hk n0⟩,h.apart,h.hr,h.pos⟩;rw [hk.block r h.lt List.not_mem_nil];exact h.blk
theorem Yw {g:Nat}:g∈Zk l↔ ∃ p∈l,p.kv.ownBlock=some g:=by
 simp [Zk]
theorem Xw (p:Po):Zk (l++[p])=Zk l++p.kv.ownBlock.toList:=by simp [Zk]
theorem ZJ (l:List Po) (p:Po) (j:Nat) (hj:j<4):(Xs (l++[p]))[l.length * 4+j]?=(Ja8 p)[j]?:=by
 rw [Jab,List.getElem?_append_right (by rw [Zh];omega),Zh]
 congr 1
 omega
theorem JkD (l:List Po) (p:Po) (kv:Value) (o:Op) (ks:List Pn) (ho:o.name=p.o.name):(Xs (l++[p])).set (l.length * 4+3) kv=Xs (l++[⟨o,p.av,kv,ks⟩]):=by
 rw [Jab,Jab,List.set_append_right _ _ (by rw [Zh];omega),Zh]
 congr 1
 rw [show l.length * 4+3 - l.length * 4=3 from by omega];simp [Ja8,ho]
theorem Bd.put {p:Po} {q:Pn} {kv3:Value} {go cap:Nat} (h:Bd w B r openv textv (l++[p]) text) (hk:Jb p.kv.ownBlock.toList w w') (ho:w'.ownsRow B 45 4 kv3 (p.ks.length+1) (Jk p.ks++Qd q))
  (hw:kv3.ownBlock=p.kv.ownBlock∨ ∃ n,kv3.ownBlock=some n∧w.heap.size≤n) (hqa:QB w (Qp B (JU r openv textv (l++[p]))) q.av q.nd.attrs.length 2 (Jj q.nd.attrs)) (hqk:Ns w (Qp B (JU r openv textv (l++[p]))) q.kv q.nd.kids)
  (hv:openv=.slice (some ⟨go,0,none⟩) (l.length+1) cap):
  Bd (w'.setCell ⟨go,l.length * 4+3,none⟩ kv3) B r openv textv (l++[⟨p.o.put q.nd,p.av,kv3,p.ks++[q]⟩]) text∧Stp w (JU r openv textv (l++[p])) (w'.setCell ⟨go,l.length * 4+3,none⟩ kv3) (JU r openv textv (l++[⟨p.o.put q.nd,p.av,kv3,p.ks++[q]⟩])):=by
 have hap:=h.apart;rw [Xw] at hap;have hgo:openv.ownBlock=some go:=by rw [hv];rfl
 rw [hgo] at hap;simp only [Option.toList_some,List.cons_append,List.nil_append,List.nodup_cons,List.mem_append,not_or] at hap;obtain ⟨⟨hgl,hgp⟩,hnd⟩:=hap;rw [List.nodup_append] at hnd;obtain ⟨hnl,_,hlp⟩:=hnd;have hS: ∀ g,p.kv.ownBlock=some g↔g∈p.kv.ownBlock.toList:=fun g=>by simp
 have hpl:=(h.kids p (by simp)).2
 -- the blocks in w'
 have hgo':go∉p.kv.ownBlock.toList:=hgp;have opn':w'.ownsRow B 45 4 openv (l.length+1) (Xs (l++[p])):=by
  have:=hk.owns h.opn (fun g hg=>by rw [hgo] at hg;simp at hg;subst hg;exact hgo');simpa using this
 have txt':=hk.owns h.txt (fun g hg hm=>Qk h.txt hpl (by decide) hg (by simpa using hm));have kid': ∀ u∈l,w'.ownsRow B 45 4 u.kv u.ks.length (Jk u.ks):=fun u hu=>hk.owns (h.kids u (by simp [hu])).2 (fun g hg hm=>hlp g (Yw.2 ⟨u,hu,hg⟩) g hm rfl);have hT: ∀ g,Qp B (JU r openv textv (l++[p])) g→g∉p.kv.ownBlock.toList:=fun g hg hm=>hg.2 (by simp only [JU,Xw,List.mem_cons,List.mem_append];exact .inr (.inr (.inr (.inr hm))));have hTgo: ∀ g,Qp B (JU r openv textv (l++[p])) g→g≠go:=fun g hg e=>hg.2 (by simp only [JU,hgo,List.mem_cons,List.mem_append];exact .inr (.inr (.inl (by simp [e]))))
 -- kv3's block is not the open row's
 have hlt_go:go<w.heap.size:=(h.opn.lt go hgo).2;have h3go:kv3.ownBlock≠some go:=by
  rcases hw with hw | ⟨n,hw,hn⟩
  ·rw [hw];intro e;exact hgp (by simp [e])
  ·rw [hw];intro e;simp at e;omega
 -- the store
 subst hv;obtain ⟨hst,hgr⟩:=opn'.stored (l.length * 4+3) kv3;rw [JkD l p kv3 (p.o.put q.nd) (p.ks++[q]) rfl] at hst;have hks:Jb [go] w' (w'.setCell ⟨go,l.length * 4+3,none⟩ kv3):=(Jb.refl [go] w').setCell (.inl (by simp)) _;have hBgo:B≤go:=(h.opn.lt go hgo).1
 -- done blocks stay done
 have hD: ∀ g,g<w.heap.size→Qp B (JU r (.slice (some ⟨go,0,none⟩) (l.length+1) cap) textv (l++[p])) g→Qp B (JU r (.slice (some ⟨go,0,none⟩) (l.length+1) cap) textv (l++[⟨p.o.put q.nd,p.av,kv3,p.ks++[q]⟩])) g:=fun g hg hd=>⟨hd.1,fun hm=>by
  simp only [JU,Xw,List.mem_cons,List.mem_append] at hm;have hd2:=hd.2;simp only [JU,Xw,List.mem_cons,List.mem_append,not_or] at hd2;rcases hm with hm | hm | hm | hm | hm
  ·exact hd2.1 hm
  ·exact hd2.2.1 hm
  ·exact hd2.2.2.1 hm
  ·exact hd2.2.2.2.1 hm
  ·rcases hw with hw | ⟨n,hw,hn⟩
   ·rw [hw] at hm;exact hd2.2.2.2.2 hm
   ·rw [hw] at hm;simp at hm;omega⟩
 have liesUp: ∀ {v:Value} {n z:Nat} {xs:List Value},QB w (Qp B (JU r (.slice (some ⟨go,0,none⟩) (l.length+1) cap) textv (l++[p]))) v n z xs→QB (w'.setCell ⟨go,l.length * 4+3,none⟩ kv3) (Qp B (JU r (.slice (some ⟨go,0,none⟩) (l.length+1) cap) textv (l++[⟨p.o.put q.nd,p.av,kv3,p.ks++[q]⟩]))) v n z xs:=fun hL=>
  ((((hL.keeps hk hT).keeps hks (fun g hg=>by simpa using hTgo g hg))).mono (Q:=fun g=>Qp B (JU r (.slice (some ⟨go,0,none⟩) (l.length+1) cap) textv (l++[p])) g) (fun _ _ h=>h)) |> fun h9=>by
    have hb:=hL;refine ⟨h9.1,?_⟩;rcases h9.2 with h0 | ⟨g,o,c,e,h1,h2,h3,h4,h5⟩
    ·exact .inl h0
    ·rcases hb.2 with ⟨hz,a,c',e',_⟩ | ⟨g',o',c',e',_,_,h3',_,_⟩
     ·subst e';simp only [Value.slice.injEq] at e;exact .inl ⟨hz,a,c',rfl,by omega⟩
     ·rw [e] at e';simp only [Value.slice.injEq,Option.some.injEq,Addr.mk.injEq,and_true] at e';obtain ⟨⟨rfl,rfl⟩,_,rfl⟩:=e';exact .inr ⟨g,o,c,e,h1,h2,h3,hD g h3' h4,h5⟩
 have nsUp: ∀ {v:Value} {ns:List Nd},Ns w (Qp B (JU r (.slice (some ⟨go,0,none⟩) (l.length+1) cap) textv (l++[p]))) v ns→Ns (w'.setCell ⟨go,l.length * 4+3,none⟩ kv3) (Qp B (JU r (.slice (some ⟨go,0,none⟩) (l.length+1) cap) textv (l++[⟨p.o.put q.nd,p.av,kv3,p.ks++[q]⟩]))) v ns:=fun hN=>by
  induction hN with
  | mk v l' ns e h ha _ ih=>exact .mk v l' ns e (liesUp h) (fun p hp=>liesUp (ha p hp)) ih
 have hrgo:r≠go:=fun e=>Jt h.opn (b:=r) h.blk (by decide) (by rw [e];rfl);have hrkv:r∉p.kv.ownBlock.toList:=fun hm=>Jt hpl h.blk (by decide) (by simpa using hm);refine ⟨⟨?_,?_,?_,?_,?_,?_,?_,h.hr,h.pos⟩,?_⟩
 ·rw [hks.block r (Nat.lt_of_lt_of_le h.lt hk.size) (by simpa using hrgo),hk.block r h.lt hrkv];exact h.blk
 ·simpa using hst
 ·exact hks.owns txt' (fun g hg hm=>by simp at hm;subst hm;exact Qk txt' opn' (by decide) hg rfl)
 ·intro u hu;rcases List.mem_append.1 hu with hu | hu
  ·refine ⟨(h.kids u (by simp [hu])).1,hks.owns (kid' u hu) (fun g hg hm=>?_)⟩;simp at hm;subst hm;exact hgl (Yw.2 ⟨u,hu,hg⟩)
  ·simp at hu;subst hu;refine ⟨by simp [Op.put,(h.kids p (by simp)).1],?_⟩;have:w'.ownsRow B 45 4 kv3 (p.ks++[q]).length (Jk (p.ks++[q])):=by
    have e:Jk (p.ks++[q])=Jk p.ks++Qd q:=by simp [Jk]
    rw [e];simpa using ho
   exact hks.owns this (fun g hg hm=>by simp at hm;subst hm;exact h3go hg)
 ·intro u hu;rcases List.mem_append.1 hu with hu | hu
  ·exact liesUp (h.attrs u (by simp [hu]))
  ·simp at hu;subst hu;exact liesUp (h.attrs p (by simp))
 ·intro u hu x hx;rcases List.mem_append.1 hu with hu | hu
  ·have:=h.done u (by simp [hu]) x hx;exact ⟨liesUp this.1,nsUp this.2⟩
  ·simp at hu;subst hu;simp at hx;rcases hx with hx | hx
   ·have:=h.done p (by simp) x hx;exact ⟨liesUp this.1,nsUp this.2⟩
   ·subst hx;exact ⟨liesUp hqa,nsUp hqk⟩
 ·rw [Xw,hgo];simp only [Option.toList_some,List.cons_append,List.nil_append,List.nodup_cons,List.mem_append,not_or];refine ⟨⟨hgl,?_⟩,?_⟩
  ·intro hm;exact h3go (by simpa using hm)
  ·rw [List.nodup_append];refine ⟨hnl,?_,?_⟩
   ·cases kv3.ownBlock<;>simp
   ·intro a ha b hb e;subst e;rcases hw with hw | ⟨n,hw,hn⟩
    ·rw [hw] at hb;exact hlp a ha a hb rfl
    ·rw [hw] at hb;simp at hb;subst hb;obtain ⟨u,hu,hub⟩:=Yw.1 ha;have:=((h.kids u (by simp [hu])).2.lt _ hub).2;omega
 ·refine ⟨(hk.mono (fun g hg _=>?_)).trans (hks.mono (fun g hg _=>?_)),fun g hg hlt=>?_⟩
  ·simp only [JU,Xw,List.mem_cons,List.mem_append];exact .inr (.inr (.inr (.inr hg)))
  ·simp at hg;subst hg;simp only [JU,hgo,List.mem_cons,List.mem_append];exact .inr (.inr (.inl (by simp)))
  ·simp only [JU,Xw,List.mem_cons,List.mem_append] at hg ⊢;rcases hg with hm | hm | hm | hm | hm
   ·exact .inl hm
   ·exact .inr (.inl hm)
   ·exact .inr (.inr (.inl hm))
   ·exact .inr (.inr (.inr (.inl hm)))
   ·rcases hw with hw | ⟨n,hw,hn⟩
    ·rw [hw] at hm;exact .inr (.inr (.inr (.inr hm)))
    ·rw [hw] at hm;simp at hm;omega
end
theorem Jbs:(Tryz.prog.info? 45).map (fun i=>(i.zero,i.size,i.bytes))=some (some (.agg #[.string ⟨#[]⟩,.slice none 0 0,.string ⟨#[]⟩,.slice none 0 0]),4,80):=by kernel_rfl
def Jcn:List Value:=[.string ⟨#[]⟩,.slice none 0 0,.string ⟨#[]⟩,.slice none 0 0]
theorem JiT {w:World} {B n:Nat} {v:Value} {xs:List Value} (h:w.ownsRow B 45 4 v (n+1) (xs++Jcn)) (hx:xs.length=n * 4):
  ∃ g c,v=.slice (some ⟨g,0,none⟩) (n+1) c∧n+1≤c∧c≤maxLen∧B≤g∧g<w.heap.size∧(∀ j,j<4→w.cell? ⟨g,n * 4+j,none⟩=Jcn[j]?)∧ ∀ j,w.frozen? ⟨g,j,none⟩=false:=by
 have hlt:=h.lt;rcases h.2 with ⟨_,h0⟩ | ⟨g,cap,cur,e,hb,_,h3,h4,_⟩
 ·omega
 ·subst e;refine ⟨g,cap,rfl,h3,h4,hb,(hlt g rfl).2,fun j hj=>?_,fun j=>h.frozenAt j⟩;rw [h.cellAt _ (by omega),List.getElem?_append_right (by omega),hx]
  congr 1
  omega
theorem Jqb {ko:Option Addr} {n kc g3 m c3 go s t:Nat} (hgo:go∉(Value.slice ko n kc).ownBlock.toList) (hw:(Value.slice (some ⟨g3,0,none⟩) m c3).ownBlock=(Value.slice ko n kc).ownBlock∨(Value.slice (some ⟨g3,0,none⟩) m c3).ownBlock=some t) (hs:go<s) (ht:s≤t:=by simp):g3≠go:=by
 rcases hw with hw | hw
 ·intro e;rw [←hw] at hgo;simp [Value.ownBlock,e] at hgo
 ·simp [Value.ownBlock] at hw;omega
theorem Yr (w:World) {a b:Addr} (h:a.block≠b.block) (u v:Value):(w.setCell a u).setCell b v=(w.setCell b v).setCell a u:=by
 unfold World.setCell
 congr 1
 apply Array.ext_getElem?;intro i;simp only [Array.getElem?_modify];by_cases h1:a.block=i<;>by_cases h2:b.block=i
 ·exact absurd (h1.trans h2.symm) h
 ·simp [h1,h2]
 ·simp [h1,h2]
 ·simp [h1,h2]
theorem Jmm {w:World} {B n g c:Nat} {xs:List Value} (h:w.ownsRow B 45 4 (.slice (some ⟨g,0,none⟩) (n+1) c) (n+1) (xs++Jcn)) (hx:xs.length=n * 4) (u0 u1 u2 u3:Value):
  ((((w.setCell ⟨g,n * 4,none⟩ u0).setCell ⟨g,n * 4+1,none⟩ u1).setCell ⟨g,n * 4+2,none⟩ u2).setCell ⟨g,n * 4+3,none⟩ u3).ownsRow B 45 4 (.slice (some ⟨g,0,none⟩) (n+1) c) (n+1) (xs++[u0,u1,u2,u3]):=by
 have h4:=((((h.stored (n * 4) u0).1.stored (n * 4+1) u1).1.stored (n * 4+2) u2).1.stored (n * 4+3) u3).1;have e:((((xs++Jcn).set (n * 4) u0).set (n * 4+1) u1).set (n * 4+2) u2).set (n * 4+3) u3=xs++[u0,u1,u2,u3]:=by
  rw [List.set_append_right _ _ (by omega),List.set_append_right _ _ (by omega),List.set_append_right _ _ (by omega),List.set_append_right _ _ (by omega),hx];rw [show n * 4 - n * 4=0 from by omega,show n * 4+1 - n * 4=1 from by omega,show n * 4+2 - n * 4=2 from by omega,show n * 4+3 - n * 4=3 from by omega];rfl
 rw [e] at h4;exact h4
theorem Jpy {S:List Nat} {a w:World} (h:Jb S a w) {g n:Nat} (hg:g∈S∨a.heap.size≤g) (u0 u1 u2 u3:Value):
  Jb S a ((((w.setCell ⟨g,n * 4,none⟩ u0).setCell ⟨g,n * 4+1,none⟩ u1).setCell ⟨g,n * 4+2,none⟩ u2).setCell ⟨g,n * 4+3,none⟩ u3):=
 (((h.setCell hg u0).setCell hg u1).setCell hg u2).setCell hg u3
theorem JpV {ko:Option Addr} {n kc g3 m c3 s t:Nat} (hw:(Value.slice (some ⟨g3,0,none⟩) m c3).ownBlock=(Value.slice ko n kc).ownBlock∨(Value.slice (some ⟨g3,0,none⟩) m c3).ownBlock=some t) (ht:s≤t):g3∈(Value.slice ko n kc).ownBlock.toList∨s≤g3:=by
 rcases hw with hw | hw
 ·left;rw [←hw];simp [Value.ownBlock]
 ·simp [Value.ownBlock] at hw;right;omega
theorem Jmh {ko:Option Addr} {n kc g3 m c3 s t:Nat} (hw:(Value.slice (some ⟨g3,0,none⟩) m c3).ownBlock=(Value.slice ko n kc).ownBlock∨(Value.slice (some ⟨g3,0,none⟩) m c3).ownBlock=some t) (ht:s≤t):(Value.slice (some ⟨g3,0,none⟩) m c3).ownBlock=(Value.slice ko n kc).ownBlock∨ ∃ k,(Value.slice (some ⟨g3,0,none⟩) m c3).ownBlock=some k∧s≤k:=by
 rcases hw with hw | hw
 ·exact .inl hw
 ·exact .inr ⟨t,hw,ht⟩
set_option maxRecDepth 4000 in
theorem JgO (B r:Nat) (openv textv:Value) (l:List Po) (p:Po) (text:List UInt8) (w:World) (h:Bd w B r openv textv (l++[p]) text) (hl:l.length≤100000) (hks:p.ks.length≤100000)
  (nd:Nd) (oa ok:Option Addr) (na ca nk ck:Nat) (hqa:QB w (Qp B (JU r openv textv (l++[p]))) (.slice oa na ca) nd.attrs.length 2 (Jj nd.attrs)) (hqk:Ns w (Qp B (JU r openv textv (l++[p]))) (.slice ok nk ck) nd.kids):
  Calls Tryz.prog 167 #[.pointer (some ⟨r,0,none⟩),.agg #[.string ⟨nd.name.toArray⟩,.slice oa na ca,.string ⟨nd.text.toArray⟩,.slice ok nk ck]] w fun e w'=>
   e=.returned (.tuple #[])∧ ∃ kv3,Bd w' B r openv textv (l++[⟨p.o.put nd,p.av,kv3,p.ks++[⟨nd,.slice oa na ca,.slice ok nk ck⟩]⟩]) text∧Stp w (JU r openv textv (l++[p])) w' (JU r openv textv (l++[⟨p.o.put nd,p.av,kv3,p.ks++[⟨nd,.slice oa na ca,.slice ok nk ck⟩]⟩])):=by
 obtain ⟨i0,hi,hz0,hz1,hz2⟩:=info_parts Jbs;obtain ⟨go,cap,hv,hgB,hgl,hc1,hc2⟩:=h.form;subst hv;unfold maxLen at hc2;obtain ⟨po,pav,pkv,pks⟩:=p;have hkid0:=(h.kids _ (List.mem_append_right _ List.mem_cons_self)).2;simp only at hks hkid0;obtain ⟨ko,kc,hkv⟩:=Jg hkid0;subst hkv;clear hkid0;have c0:=h.cell0;have c0a: ∀ o,(w.alloc o).cell? ⟨r,0,none⟩=some (.slice (some ⟨go,0,none⟩) (l.length+1) cap):=fun o=>(JI (a:=⟨r,0,none⟩) h.lt o).trans c0;go_enter Tryz.func167,Tryz.ntmps167;go_upto_region 1 with fail
 go_quiet (fail)
 obtain ⟨W,hW⟩: ∃ W,(w.alloc (.cells #[.string ⟨nd.name.toArray⟩,.slice oa na ca,.string ⟨nd.text.toArray⟩,.slice ok nk ck] 45)).drewN nq=W:=⟨_,rfl⟩;have hkW:Jb [] w W:=by rw [←hW];exact ((Jb.refl [] w).alloc _).drewN _
 have hbx:W.heap[w.heap.size]?=some (.cells #[.string ⟨nd.name.toArray⟩,.slice oa na ca,.string ⟨nd.text.toArray⟩,.slice ok nk ck] 45 (0,0)):=by rw [←hW];exact heap_alloc_new w _
 rw [hW];clear hW c0 c0a;have h1:=h.keepsNil hkW;have b0:W.cell? ⟨w.heap.size,0,none⟩=some (.string ⟨nd.name.toArray⟩):=by unfold World.cell?;simp only;rw [hbx];rfl
 have b1:W.cell? ⟨w.heap.size,1,none⟩=some (.slice oa na ca):=by unfold World.cell?;simp only;rw [hbx];rfl
 have b2:W.cell? ⟨w.heap.size,2,none⟩=some (.string ⟨nd.text.toArray⟩):=by unfold World.cell?;simp only;rw [hbx];rfl
 have b3:W.cell? ⟨w.heap.size,3,none⟩=some (.slice ok nk ck):=by unfold World.cell?;simp only;rw [hbx];rfl
 have hbl:w.heap.size<W.heap.size:=lt_of_block hbx;have b0a: ∀ o,(W.alloc o).cell? ⟨w.heap.size,0,none⟩=some (.string ⟨nd.name.toArray⟩):=fun o=>(JI (a:=⟨w.heap.size,0,none⟩) hbl o).trans b0;have b1a: ∀ o,(W.alloc o).cell? ⟨w.heap.size,1,none⟩=some (.slice oa na ca):=fun o=>(JI (a:=⟨w.heap.size,1,none⟩) hbl o).trans b1;have b2a: ∀ o,(W.alloc o).cell? ⟨w.heap.size,2,none⟩=some (.string ⟨nd.text.toArray⟩):=fun o=>(JI (a:=⟨w.heap.size,2,none⟩) hbl o).trans b2;have b3a: ∀ o,(W.alloc o).cell? ⟨w.heap.size,3,none⟩=some (.slice ok nk ck):=fun o=>(JI (a:=⟨w.heap.size,3,none⟩) hbl o).trans b3;have hop:=h1.opn;rw [List.length_append,List.length_singleton] at hop;have k3:W.cell? ⟨go,l.length * 4+3,none⟩=some (.slice ko pks.length kc):=by
  rw [hop.cellAt _ (by omega),ZJ _ _ _ (by omega)];rfl
 have k3a: ∀ o,(W.alloc o).cell? ⟨go,l.length * 4+3,none⟩=some (.slice ko pks.length kc):=fun o=>(JI (a:=⟨go,l.length * 4+3,none⟩) (Nat.lt_of_lt_of_le hgl hkW.size) o).trans k3;have hkid:=(h1.kids _ (List.mem_append_right _ List.mem_cons_self)).2;simp only at hkid;have hBW:B≤W.heap.size:=Nat.le_trans (Nat.le_trans hgB (Nat.le_of_lt hgl)) hkW.size;have hlt1:(pks.length:Int)<pks.length+1:=by omega
 have hgoK:go∉(Value.slice ko pks.length kc).ownBlock.toList:=by
  have hap:=h1.apart;rw [Xw] at hap;intro hm;have:=(List.nodup_append.1 hap).2.2 go (by simp [Value.ownBlock]) go (List.mem_append_right _ hm);exact this rfl
 have hgW:go<W.heap.size:=Nat.lt_of_lt_of_le hgl hkW.size;go_upto_region 2 with fail
 go_region_law (refine JaN rfl _ _ 29 rfl B 45 i0 _ 4 80 Tryz.underlying29 hi hz0 hz1 hz2 (by kernel_rfl) (by decide) (.slice ko pks.length kc) pks.length (Jk pks) rfl ((hkid.alloc _).drew) ⟨W.heap.size,0,none⟩ 1 1 Jcn rfl rfl (J9 W _ 45) (by intro u hu;simp [Jcn] at hu;rcases hu with rfl | rfl | rfl | rfl<;>rfl) (by unfold maxLen;omega) (by omega) (Nat.le_trans hBW (by simp)) ?_;intro v3 w3 ho3 hg3 hw3;obtain ⟨g3,c3,hv3,hc31,hc32,hB3,hl3,hcl3,hfr3⟩:=JiT ho3 (Yq pks);subst hv3;unfold maxLen at hc32;have n0:w3.cell? ⟨g3,pks.length * 4,none⟩=some (.string ⟨#[]⟩):=hcl3 0 (by decide);have n1:w3.cell? ⟨g3,pks.length * 4+1,none⟩=some (.slice none 0 0):=hcl3 1 (by decide);have n2:w3.cell? ⟨g3,pks.length * 4+2,none⟩=some (.string ⟨#[]⟩):=hcl3 2 (by decide);have n3:w3.cell? ⟨g3,pks.length * 4+3,none⟩=some (.slice none 0 0):=hcl3 3 (by decide);clear hcl3;have hk3:Jb (Value.slice ko pks.length kc).ownBlock.toList W w3:=(((Jb.refl _ W).alloc _).drew).grown hg3 (fun i e=>.inl (by simp [e]));have hne:g3≠go:=Jqb hgoK hw3 hgW;have z0:=hfr3 (pks.length * 4);have z1:=hfr3 (pks.length * 4+1);have z2:=hfr3 (pks.length * 4+2);have z3:=hfr3 (pks.length * 4+3);have d3:=JE hk3 (a:=⟨go,l.length * 4+3,none⟩) hgoK k3;have e3:w3.frozen? ⟨go,l.length * 4+3,none⟩=false:=((hk3.owns hop (fun g hg=>by simp [Value.ownBlock] at hg;subst hg;exact hgoK)).frozenAt _))
 all_goals go_end0
 all_goals have hW1:W.heap.size≤((W.alloc (.cells #[.string ⟨#[]⟩,.slice none 0 0,.string ⟨#[]⟩,.slice none 0 0] 45)).drew).heap.size:=by simp
 all_goals have hqa1:=hqa.keeps hkW (fun _ _=>List.not_mem_nil)
 all_goals have hqk1:=hqk.keeps hkW (fun _ _=>List.not_mem_nil)
 all_goals have hfin:=h1.put (q:=⟨nd,.slice oa na ca,.slice ok nk ck⟩) (Jpy hk3 (JpV hw3 hW1) (.string ⟨nd.name.toArray⟩) (.slice oa na ca) (.string ⟨nd.text.toArray⟩) (.slice ok nk ck)) (Jmm ho3 (Yq pks) _ _ _ _) (Jmh hw3 hW1) hqa1 hqk1 rfl
 all_goals try rw [Yr w3 (a:=⟨go,l.length * 4+3,none⟩) (b:=⟨g3,pks.length * 4,none⟩) hne.symm,Yr _ (a:=⟨go,l.length * 4+3,none⟩) (b:=⟨g3,pks.length * 4+1,none⟩) hne.symm,Yr _ (a:=⟨go,l.length * 4+3,none⟩) (b:=⟨g3,pks.length * 4+2,none⟩) hne.symm,Yr _ (a:=⟨go,l.length * 4+3,none⟩) (b:=⟨g3,pks.length * 4+3,none⟩) hne.symm]
 all_goals exact ⟨rfl,_,hfin.1,(Stp.nil hkW _).trans hfin.2⟩
theorem QB.move {w w':World} {B:Nat} {S T T':List Nat} {v:Value} {n z:Nat} {xs:List Value} (h:QB w (Qp B T) v n z xs) (hk:Jb S w w') (hS: ∀ g,g∈S→g∈T) (hT: ∀ g,g<w.heap.size→g∈T'→g∈T):QB w' (Qp B T') v n z xs:=
 ((h.mono (Q:=fun g=>Qp B T g∧Qp B T' g) (fun g hg hd=>⟨hd,hd.1,fun hm=>hd.2 (hT g hg hm)⟩)).keeps hk (fun g hg hm=>hg.1.2 (hS g hm))).mono (fun _ _ hg=>hg.2)
theorem Ns.move {w w':World} {B:Nat} {S T T':List Nat} {v:Value} {ns:List Nd} (h:Ns w (Qp B T) v ns) (hk:Jb S w w') (hS: ∀ g,g∈S→g∈T) (hT: ∀ g,g<w.heap.size→g∈T'→g∈T):Ns w' (Qp B T') v ns:=
 ((h.mono (Q:=fun g=>Qp B T g∧Qp B T' g) (fun g hg hd=>⟨hd,hd.1,fun hm=>hd.2 (hT g hg hm)⟩)).keeps hk (fun g hg hm=>hg.1.2 (hS g hm))).mono (fun _ _ hg=>hg.2)
section
variable {w w':World} {B r:Nat} {openv textv:Value} {l:List Po} {text:List UInt8}
theorem Zl {g:Nat}:g∈JU r openv textv l↔g=r∨textv.ownBlock=some g∨openv.ownBlock=some g∨ ∃ p∈l,p.kv.ownBlock=some g:=by
 simp [JU,Yw]
theorem Bd.setText (h:Bd w B r openv textv l text) (hk:Jb textv.ownBlock.toList w w') {tv:Value} {tx:List UInt8} (ho:w'.ownsRow B 5 1 tv tx.length (Lib.byteCells tx)) (hw:tv.ownBlock=textv.ownBlock∨ ∃ n,tv.ownBlock=some n∧w.heap.size≤n):
  Bd (w'.setCell ⟨r,1,none⟩ tv) B r openv tv l tx∧Stp w (JU r openv textv l) (w'.setCell ⟨r,1,none⟩ tv) (JU r openv tv l):=by
 have hB:B≤w.heap.size:=Nat.le_trans h.hr (Nat.le_of_lt h.lt);have hrt:r∉textv.ownBlock.toList:=fun hm=>Jt h.txt h.blk (by decide) (by simpa using hm);have hks:Jb [r] w' (w'.setCell ⟨r,1,none⟩ tv):=(Jb.refl [r] w').setCell (.inl (by simp)) _;have hblk':w'.heap[r]?=some (.cells #[openv,textv] 115 (0,0)):=by rw [hk.block r h.lt hrt];exact h.blk
 have hkk:Jb (r::textv.ownBlock.toList) w (w'.setCell ⟨r,1,none⟩ tv):=(hk.to (by simp;exact fun _ h=>.inr h)).trans (hks.to (by simp));have hS: ∀ g,g∈r::textv.ownBlock.toList→g∈JU r openv textv l:=by
  intro g hg;rw [Zl];simp at hg;rcases hg with hg | hg
  ·exact .inl hg
  ·exact .inr (.inl hg)
 have hT: ∀ g,g<w.heap.size→g∈JU r openv tv l→g∈JU r openv textv l:=by
  intro g hg hm;rw [Zl] at hm ⊢;rcases hm with hm | hm | hm | hm
  ·exact .inl hm
  ·rcases hw with hw | ⟨n,hw,hn⟩
   ·exact .inr (.inl (hw ▸ hm))
   ·rw [hw] at hm;simp at hm;omega
  ·exact .inr (.inr (.inl hm))
  ·exact .inr (.inr (.inr hm))
 have nd1: ∀ {v:Value} {n:Nat} {xs:List Value},w.ownsRow B 45 4 v n xs→(w'.setCell ⟨r,1,none⟩ tv).ownsRow B 45 4 v n xs:=fun hv=>hkk.owns hv (fun g hg hm=>by
  simp at hm;rcases hm with hm | hm
  ·subst hm;exact Jt hv h.blk (by decide) hg
  ·exact Qk hv h.txt (by decide) hg hm)
 refine ⟨⟨?_,nd1 h.opn,hks.owns ho (fun g hg hm=>by simp at hm;subst hm;exact Jt ho hblk' (by decide) hg),fun p hp=>⟨(h.kids p hp).1,nd1 (h.kids p hp).2⟩,fun p hp=>(h.attrs p hp).move hkk hS hT,fun p hp q hq=>⟨(h.done p hp q hq).1.move hkk hS hT,(h.done p hp q hq).2.move hkk hS hT⟩,h.apart,h.hr,h.pos⟩,?_⟩
 ·simp [World.setCell,Array.getElem?_modify,hblk']
 ·exact ⟨hkk.to hS,fun g hm hg=>hT g hg hm⟩
theorem Bd.pop {p:Po} {go cap:Nat} (h:Bd w B r openv textv (l++[p]) text) (hv:openv=.slice (some ⟨go,0,none⟩) (l.length+1) cap):
  Bd (w.setCell ⟨r,0,none⟩ (.slice (some ⟨go,0,none⟩) l.length cap)) B r (.slice (some ⟨go,0,none⟩) l.length cap) textv l text∧Stp w (JU r openv textv (l++[p])) (w.setCell ⟨r,0,none⟩ (.slice (some ⟨go,0,none⟩) l.length cap)) (JU r (.slice (some ⟨go,0,none⟩) l.length cap) textv l)∧
   QB (w.setCell ⟨r,0,none⟩ (.slice (some ⟨go,0,none⟩) l.length cap)) (Qp B (JU r (.slice (some ⟨go,0,none⟩) l.length cap) textv l)) p.av p.o.attrs.length 2 (Jj p.o.attrs)∧
   Ns (w.setCell ⟨r,0,none⟩ (.slice (some ⟨go,0,none⟩) l.length cap)) (Qp B (JU r (.slice (some ⟨go,0,none⟩) l.length cap) textv l)) p.kv p.o.kids:=by
 have hB:B≤w.heap.size:=Nat.le_trans h.hr (Nat.le_of_lt h.lt);subst hv;have hks:Jb [r] w (w.setCell ⟨r,0,none⟩ (.slice (some ⟨go,0,none⟩) l.length cap)):=(Jb.refl [r] w).setCell (.inl (by simp)) _;have hS: ∀ g,g∈[r]→g∈JU r (.slice (some ⟨go,0,none⟩) (l.length+1) cap) textv (l++[p]):=by
  intro g hg;rw [Zl];simp at hg;exact .inl hg
 have hT: ∀ g,g<w.heap.size→g∈JU r (.slice (some ⟨go,0,none⟩) l.length cap) textv l→g∈JU r (.slice (some ⟨go,0,none⟩) (l.length+1) cap) textv (l++[p]):=by
  intro g hg hm;rw [Zl] at hm ⊢;rcases hm with hm | hm | hm | ⟨q,hq,hm⟩
  ·exact .inl hm
  ·exact .inr (.inl hm)
  ·exact .inr (.inr (.inl hm))
  ·exact .inr (.inr (.inr ⟨q,by simp [hq],hm⟩))
 have nd1: ∀ {e z:Nat} {v:Value} {n:Nat} {xs:List Value},e≠115→w.ownsRow B e z v n xs→(w.setCell ⟨r,0,none⟩ (.slice (some ⟨go,0,none⟩) l.length cap)).ownsRow B e z v n xs:=fun he hv=>hks.owns hv (fun g hg hm=>by
  simp at hm;subst hm;exact Jt hv h.blk he hg)
 have hop:=h.opn;rw [List.length_append,List.length_singleton,Jab] at hop;have hap:=h.apart;rw [Xw, ←List.append_assoc,List.nodup_append] at hap;have hkid:=(h.kids p (by simp)).2;have hkw:=nd1 (by decide) hkid;have hkrow:QB (w.setCell ⟨r,0,none⟩ (.slice (some ⟨go,0,none⟩) l.length cap)) (Qp B (JU r (.slice (some ⟨go,0,none⟩) l.length cap) textv l)) p.kv p.ks.length 4 (Jk p.ks):=by
  refine QB.of_row hkw (fun g hg=>⟨(hkid.lt g hg).1,fun hm=>?_⟩);rw [Zl] at hm;rcases hm with hm | hm | hm | ⟨q,hq,hm⟩
  ·subst hm;exact Jt hkid h.blk (by decide) hg
  ·exact Qk hkid h.txt (by decide) hg hm
  ·exact hap.2.2 g (List.mem_append_left _ (by simp [Value.ownBlock] at hm ⊢;exact hm.symm)) g (by simpa using hg) rfl
  ·exact hap.2.2 g (List.mem_append_right _ (Yw.2 ⟨q,hq,hm⟩)) g (by simpa using hg) rfl
 refine ⟨⟨?_,nd1 (by decide) (ownsRow_pop (Zh l) hop),nd1 (by decide) h.txt,fun q hq=>⟨(h.kids q (by simp [hq])).1,nd1 (by decide) (h.kids q (by simp [hq])).2⟩,fun q hq=>(h.attrs q (by simp [hq])).move hks hS hT,fun q hq x hx=>⟨(h.done q (by simp [hq]) x hx).1.move hks hS hT,(h.done q (by simp [hq]) x hx).2.move hks hS hT⟩,?_,h.hr,h.pos⟩,?_,(h.attrs p (by simp)).move hks hS hT,?_⟩
 ·have:=h.blk;simp [World.setCell,Array.getElem?_modify,this]
 ·exact hap.1
 ·exact ⟨hks.to hS,fun g hm hg=>hT g hg hm⟩
 ·exact .mk _ p.ks _ (h.kids p (by simp)).1 hkrow (fun q hq=>(h.done p (by simp) q hq).1.move hks hS hT) (fun q hq=>(h.done p (by simp) q hq).2.move hks hS hT)
theorem Bd.push {q:Po} (h:Bd w B r openv textv l text) (hk:Jb openv.ownBlock.toList w w') {ov:Value} (ho:w'.ownsRow B 45 4 ov (l.length+1) (Xs l++Ja8 q)) (hw:ov.ownBlock=openv.ownBlock∨ ∃ n,ov.ownBlock=some n∧w.heap.size≤n)
  (hq:q.ks=[]) (hq2:q.o.kids=[]) (hq3:q.kv=.slice none 0 0) (hqa:QB w (Qp B (JU r openv textv l)) q.av q.o.attrs.length 2 (Jj q.o.attrs)):
  Bd (w'.setCell ⟨r,0,none⟩ ov) B r ov textv (l++[q]) text∧Stp w (JU r openv textv l) (w'.setCell ⟨r,0,none⟩ ov) (JU r ov textv (l++[q])):=by
 have hB:B≤w.heap.size:=Nat.le_trans h.hr (Nat.le_of_lt h.lt);have hro:r∉openv.ownBlock.toList:=fun hm=>Jt h.opn h.blk (by decide) (by simpa using hm);have hks:Jb [r] w' (w'.setCell ⟨r,0,none⟩ ov):=(Jb.refl [r] w').setCell (.inl (by simp)) _;have hblk':w'.heap[r]?=some (.cells #[openv,textv] 115 (0,0)):=by rw [hk.block r h.lt hro];exact h.blk
 have hkk:Jb (r::openv.ownBlock.toList) w (w'.setCell ⟨r,0,none⟩ ov):=(hk.to (by simp;exact fun _ h=>.inr h)).trans (hks.to (by simp));have hS: ∀ g,g∈r::openv.ownBlock.toList→g∈JU r openv textv l:=by
  intro g hg;rw [Zl];simp at hg;rcases hg with hg | hg
  ·exact .inl hg
  ·exact .inr (.inr (.inl hg))
 have hT: ∀ g,g<w.heap.size→g∈JU r ov textv (l++[q])→g∈JU r openv textv l:=by
  intro g hg hm;rw [Zl] at hm ⊢;rcases hm with hm | hm | hm | ⟨p,hp,hm⟩
  ·exact .inl hm
  ·exact .inr (.inl hm)
  ·rcases hw with hw | ⟨n,hw,hn⟩
   ·exact .inr (.inr (.inl (hw ▸ hm)))
   ·rw [hw] at hm;simp at hm;omega
  ·rcases List.mem_append.1 hp with hp | hp
   ·exact .inr (.inr (.inr ⟨p,hp,hm⟩))
   ·simp at hp;subst hp;rw [hq3] at hm;simp [Value.ownBlock] at hm
 have hap:=h.apart;have kid1: ∀ p∈l,(w'.setCell ⟨r,0,none⟩ ov).ownsRow B 45 4 p.kv p.ks.length (Jk p.ks):=fun p hp=>hkk.owns (h.kids p hp).2 (fun g hg hm=>by
  simp at hm;rcases hm with hm | hm
  ·subst hm;exact Jt (h.kids p hp).2 h.blk (by decide) hg
  ·exact (List.nodup_append.1 hap).2.2 g (by simpa using hm) g (Yw.2 ⟨p,hp,hg⟩) rfl)
 refine ⟨⟨?_,?_,?_,?_,?_,?_,?_,h.hr,h.pos⟩,?_⟩
 ·simp [World.setCell,Array.getElem?_modify,hblk']
 ·rw [Jab,List.length_append,List.length_singleton];exact hks.owns ho (fun g hg hm=>by simp at hm;subst hm;exact Jt ho hblk' (by decide) hg)
 ·exact hkk.owns h.txt (fun g hg hm=>by
   simp at hm;rcases hm with hm | hm
   ·subst hm;exact Jt h.txt h.blk (by decide) hg
   ·exact Qk h.txt h.opn (by decide) hg hm)
 ·intro p hp;rcases List.mem_append.1 hp with hp | hp
  ·exact ⟨(h.kids p hp).1,kid1 p hp⟩
  ·simp at hp;subst hp;rw [hq,hq2,hq3];exact ⟨rfl,World.ownsRow_nil _ _ _ _⟩
 ·intro p hp;rcases List.mem_append.1 hp with hp | hp
  ·exact (h.attrs p hp).move hkk hS hT
  ·simp at hp;subst hp;exact hqa.move hkk hS hT
 ·intro p hp x hx;rcases List.mem_append.1 hp with hp | hp
  ·exact ⟨(h.done p hp x hx).1.move hkk hS hT,(h.done p hp x hx).2.move hkk hS hT⟩
  ·simp at hp;subst hp;rw [hq] at hx;simp at hx
 ·have e0:(Value.slice none 0 0).ownBlock=none:=rfl;rw [Xw,hq3,e0,Option.toList_none,List.append_nil];rw [List.nodup_append] at hap ⊢;refine ⟨?_,hap.2.1,?_⟩
  ·cases (Value.ownBlock ov)<;>simp
  ·intro a ha b hb e;subst e;rcases hw with hw | ⟨n,hw,hn⟩
   ·exact hap.2.2 a (hw ▸ ha) a hb rfl
   ·obtain ⟨u,hu,hub⟩:=Yw.1 hb;have:=((h.kids u hu).2.lt _ hub).2;have e9:a=n:=by
     have h9:a∈ov.ownBlock.toList:=ha;rw [hw] at h9;simpa using h9
    omega
 ·exact ⟨hkk.to hS,fun g hm hg=>hT g hg hm⟩
end
def St.weight (s:St):Nat:=(s.all.map fun o=>o.kids.length+1).sum+if s.text=[] then 0 else 1
theorem XZ (s:St):(s.all.map fun o=>o.kids.length+1).sum=(s.up.map fun o=>o.kids.length+1).sum+(s.cur.kids.length+1):=by
 simp [St.all,List.sum_reverse]
theorem Js1 {α:Type} (f:α→Nat) (l:List α):l.length≤(l.map fun o=>f o+1).sum:=by
 induction l with
 | nil=>simp
 | cons a l ih=>simp only [List.map_cons,List.sum_cons,List.length_cons];omega
theorem Jh5 (s:St):s.cur.kids.length<s.weight:=by unfold St.weight;rw [XZ];omega
theorem Jag (s:St):s.up.length<s.weight:=by
 have:=Js1 (fun o:Op=>o.kids.length) s.up;unfold St.weight;rw [XZ];omega
theorem Jb0 (s:St):s.endText.weight=s.weight:=by
 unfold St.endText;split
 ·rfl
 ·next h=>
  unfold St.weight;rw [XZ,XZ];simp [h,Op.put];omega
theorem Jh6 (s:St):s.pop.weight≤s.weight:=by
 rw [←Jb0 s];have h1:=QG s;have h2:=QD s;unfold St.pop;split
 ·exact Nat.le_refl _
 ·next o up h=>
  unfold St.weight;rw [XZ,XZ,h1,h,h2];simp [Op.put];omega
theorem JbF (k:Nat) (s:St):(s.close k).weight≤s.weight:=by
 induction k generalizing s with
 | zero=>exact Nat.le_refl _
 | succ k ih=>rw [St.close];exact Nat.le_trans (ih _) (Jh6 s)
def BdT (w:World) (B r:Nat) (s:St) (T:List Nat):Prop:= ∃ openv textv l p,T=JU r openv textv (l++[p])∧l.map Po.o=s.up.reverse∧p.o=s.cur∧Bd w B r openv textv (l++[p]) s.text
theorem BdT.keepsNil {w w':World} {B r:Nat} {s:St} {T:List Nat} (h:BdT w B r s T) (hk:Jb [] w w'):BdT w' B r s T:=by
 obtain ⟨o,t,l,p,e1,e2,e3,h⟩:=h;exact ⟨o,t,l,p,e1,e2,e3,h.keepsNil hk⟩
theorem BdT.ge {w:World} {B r:Nat} {s:St} {T:List Nat} (h:BdT w B r s T):(∀ g,g∈T→B≤g∧g<w.heap.size)∧B≤w.heap.size:=by
 obtain ⟨o,t,l,p,rfl,e2,e3,h⟩:=h;refine ⟨fun g hg=>?_,Nat.le_trans h.hr (Nat.le_of_lt h.lt)⟩;rw [Zl] at hg;rcases hg with rfl | hg | hg | ⟨q,hq,hg⟩
 ·exact ⟨h.hr,h.lt⟩
 ·exact h.txt.lt g hg
 ·exact h.opn.lt g hg
 ·exact (h.kids q hq).2.lt g hg
theorem JfJ {l:List Po} {s:St} (h:l.map Po.o=s.up.reverse):l.length=s.up.length:=by simpa using congrArg List.length h
theorem Jkp {w:World} {B r:Nat} {openv textv:Value} {l:List Po} {p:Po} {text:List UInt8} (h:Bd w B r openv textv (l++[p]) text):p.ks.length=p.o.kids.length:=by
 rw [←(h.kids p (by simp)).1,List.length_map]
theorem JrM (B r:Nat) (s:St) (T:List Nat) (w:World) (h:BdT w B r s T) (hw:s.weight≤100000)
  (nd:Nd) (oa ok:Option Addr) (na ca nk ck:Nat) (hqa:QB w (Qp B T) (.slice oa na ca) nd.attrs.length 2 (Jj nd.attrs)) (hqk:Ns w (Qp B T) (.slice ok nk ck) nd.kids):
  Calls Tryz.prog 167 #[.pointer (some ⟨r,0,none⟩),.agg #[.string ⟨nd.name.toArray⟩,.slice oa na ca,.string ⟨nd.text.toArray⟩,.slice ok nk ck]] w fun e w'=>
   e=.returned (.tuple #[])∧ ∃ T',BdT w' B r (s.put nd) T'∧Stp w T w' T':=by
 obtain ⟨openv,textv,l,p,rfl,e2,e3,h⟩:=h;have h1:=Jh5 s;have h2:=Jag s;refine (JgO B r openv textv l p s.text w h (by rw [JfJ e2];omega) (by rw [Jkp h,e3];omega) nd oa ok na ca nk ck hqa hqk).mono ?_;rintro e w' ⟨he,kv3,hB,hb⟩;exact ⟨he,_,⟨openv,textv,l,_,rfl,e2,by simp [St.put,e3],hB⟩,hb⟩
set_option maxRecDepth 4000 in
theorem Jc1 (B r:Nat) (s:St) (T:List Nat) (w:World) (h:BdT w B r s T) (hw:s.weight≤100000):
  Calls Tryz.prog 164 #[.pointer (some ⟨r,0,none⟩)] w fun e w'=>
   e=.returned (.tuple #[])∧ ∃ T',BdT w' B r s.endText T'∧Stp w T w' T':=by
 obtain ⟨openv,textv,l,p,rfl,e2,e3,h⟩:=h;have h1:=Jh5 s;have h2:=Jag s;have hl:l.length≤100000:=by rw [JfJ e2];omega
 have hks:p.ks.length≤100000:=by rw [Jkp h,e3];omega
 obtain ⟨up,cur,text⟩:=s;simp only at e2 e3 h;unfold St.endText;simp only;have c1:=h.cell1;by_cases hne:text=[]
 ·rw [if_pos hne];subst hne;obtain ⟨o,c,ho⟩:=Jg h.txt;subst ho;go_enter Tryz.func164,Tryz.ntmps164;go_wp2_with fail
  go_end0
  exact ⟨rfl,_,⟨_,_,l,p,rfl,e2,e3,h⟩,Stp.refl _ _⟩
 ·rw [if_neg hne];obtain ⟨g,cap,cur',hrv,hgb,hgc,hcap1,hcap2,hcur1,hcur2⟩: ∃ g cap cur,textv=.slice (some ⟨g,0,none⟩) text.length cap∧B≤g∧w.heap[g]?=some (.cells cur 5 (0,0))∧text.length≤cap∧cap≤maxLen∧cur.size=cap * 1∧cur.toList.take (text.length * 1)=Lib.byteCells text:=by
   rcases h.txt.2 with ⟨_,h0⟩ | h'
   ·exact absurd (List.eq_nil_of_length_eq_zero h0) hne
   ·exact h'
  subst hrv;have hcv:(convert 107 9 (.slice (some ⟨g,0,none⟩) text.length cap)).run Tryz.prog w=.ok (.string ⟨text.toArray⟩) w:=Jar (w:=w) h.txt 0;have hput:=Ja (JgO B r openv _ l p text w h hl hks (Xn text) none none 0 0 0 0 ⟨rfl,.inl ⟨rfl,none,0,rfl,by simp [maxLen]⟩⟩ (Ns.nil _ _ none 0 (by simp [maxLen])));simp only [Xn,Nd.name,Nd.text] at hput;have hpos:0<text.length:=List.length_pos_iff.2 hne;clear hcur1 hcur2 hgc;unfold maxLen at hcap2;go_enter Tryz.func164,Tryz.ntmps164;go_wp2_with fail;refine hput.out.mono ?_;rintro e w1 ⟨rfl,kv3,hB1,hb1⟩;clear hput hcv c1;have d1:=hB1.cell1;have f1:=hB1.free 1;go_wp2_with fail
  go_end0
  have hst:=hB1.setText (Jb.refl _ _) (tx:=[]) (JkH hB1.txt) (.inl rfl);exact ⟨rfl,_,⟨_,_,l,_,rfl,e2,by simp [e3,Xn],hst.1⟩,hb1.trans hst.2⟩
theorem QB.form {w:World} {P:Nat→Prop} {v:Value} {n z:Nat} {xs:List Value} (h:QB w P v n z xs): ∃ o c,v=.slice o n c:=by
 obtain ⟨o,c,h,_⟩:=h.lies.form;exact ⟨o,c,h⟩
theorem Bd.last {w:World} {B r:Nat} {openv textv:Value} {l:List Po} {p:Po} {text:List UInt8} (h:Bd w B r openv textv (l++[p]) text) {go cap:Nat} (hv:openv=.slice (some ⟨go,0,none⟩) (l.length+1) cap):
  w.cell? ⟨go,l.length * 4,none⟩=some (.string ⟨p.o.name.toArray⟩)∧w.cell? ⟨go,l.length * 4+1,none⟩=some p.av∧w.cell? ⟨go,l.length * 4+2,none⟩=some (.string ⟨#[]⟩)∧w.cell? ⟨go,l.length * 4+3,none⟩=some p.kv:=by
 subst hv;have hop:=h.opn;rw [List.length_append,List.length_singleton] at hop;refine ⟨?_,?_,?_,?_⟩
 ·have:=hop.cellAt (l.length * 4+0) (by omega);rw [ZJ _ _ _ (by omega)] at this;exact this
 ·rw [hop.cellAt _ (by omega),ZJ _ _ _ (by omega)];rfl
 ·rw [hop.cellAt _ (by omega),ZJ _ _ _ (by omega)];rfl
 ·rw [hop.cellAt _ (by omega),ZJ _ _ _ (by omega)];rfl
theorem Jm4 {l:List Po} {o:Op} {up:List Op} (h:l.map Po.o=(o::up).reverse): ∃ l0 p0,l=l0++[p0]∧l0.map Po.o=up.reverse∧p0.o=o:=by
 rw [List.reverse_cons] at h;obtain ⟨l0,l1,rfl,h1,h2⟩:=List.map_eq_append_iff.1 h;obtain ⟨p0,rfl,h3⟩:=List.map_eq_singleton_iff.1 h2;exact ⟨l0,p0,rfl,h1,h3⟩
theorem JmE (s:St) (o:Op) (up:List Op) (a:Nat) (hu:s.up=o::up) (ha:a≤s.up.length):s.close (s.up.length+1 - a)=s.pop.close (s.pop.up.length+1 - a):=by
 rw [Jcl,hu];simp only [List.length_cons,List.tail_cons];rw [hu] at ha;simp only [List.length_cons] at ha;rw [show up.length+1+1 - a=(up.length+1 - a)+1 from by omega];rfl
set_option maxRecDepth 4000 in
theorem JbN (B r:Nat) (s:St) (T:List Nat) (a:Nat) (ha:1≤a) (ha2:a≤200000) (w:World) (h:BdT w B r s T) (hw:s.weight≤100000):
  Calls Tryz.prog 162 #[.pointer (some ⟨r,0,none⟩),.int .i64 a] w fun e w'=>
   e=.returned (.tuple #[])∧ ∃ T',BdT w' B r (s.closeFrom a) T'∧Stp w T w' T':=by
 obtain ⟨R,hR⟩: ∃ R,s.closeFrom a=R:=⟨_,rfl⟩;rw [hR];have HR:=Ja hR;clear hR;obtain ⟨openv,textv,l,p,e1,e2,e3,hBd⟩:=id h;obtain ⟨go,cap,hv,hgB,hgl,hc1,hc2⟩:=hBd.form;have hul:=JfJ e2;have huw:=Jag s;have hsb:s.up.length≤100000:=by omega
 subst hv;have c0:=hBd.cell0;rw [hul] at c0;clear hgB hgl hc1 hc2 hBd e1 e2 e3 hul;have Hh:=Ja h;have Hw:=Ja hw;clear h hw;go_enter Tryz.func162,Tryz.ntmps162;go_wp2_with fail;go_loopw [4] (fun i wr=> ∃ s':St,i=.int .i64 (s'.up.length:Int)∧Hid (s'.weight≤100000)∧Hid (∃ T',BdT wr B r s' T'∧Stp w T wr T')∧Hid (s'.close (s'.up.length+1 - a)=R)) (fun i _=>(intOf i).toNat)
 case atStart=>exact ⟨s,by go_num,Hw,⟨_,Hh.out,Stp.refl _ _⟩,HR⟩
 case round=>
  obtain ⟨s',rfl,hW,hB,hC⟩:=hrel;clear c0 huw HR Hh Hw;have huw:=Jag s';have hww:=hW.out;by_cases hge:a≤s'.up.length
  ·obtain ⟨T',hT,hbel⟩:=hB.out;obtain ⟨o,up,hu⟩: ∃ o up,s'.up=o::up:=by
    cases hu:s'.up with
    | nil=>rw [hu] at hge;simp at hge;omega
    | cons o up=>exact ⟨o,up,rfl⟩
   have hC2:=hC.out;rw [JmE s' o up a hu hge] at hC2;have HC:=Ja hC2;have hwp:=Jh6 s';have hpu:s'.pop.up.length=up.length:=by rw [Jcl,hu];rfl
   have het:=Ja (Jc1 B r s' T' _ hT hww);have hsl:s'.up.length=up.length+1:=by rw [hu];rfl
   clear hC hC2 hB hT;rw [hsl] at hge huw ⊢;go_wp2_with fail;refine het.out.mono ?_;rintro e w1 ⟨rfl,T1,⟨openv,textv,l,p,rfl,e2,e3,h1⟩,hb1⟩;rw [QD] at h1;rw [QG,hu] at e2;obtain ⟨go1,cap1,hv1,hgB,hgl,hc1,hc2⟩:=h1.form;have hll:=congrArg List.length e2;simp only [List.length_map,List.length_reverse,List.length_cons] at hll;obtain ⟨q0,q1,q2,q3⟩:=h1.last hv1;obtain ⟨oa,ca,hav⟩:=(h1.attrs p (by simp)).form;obtain ⟨ok,ck,hkv⟩:=Jg (h1.kids p (by simp)).2;obtain ⟨hp1,hp2,hp3,hp4⟩:=h1.pop hv1;obtain ⟨l0,p0,rfl,f2,f3⟩:=Jm4 e2;subst hv1;have d0:=h1.cell0;have dr:=h1.free 0;have hlt:=h1.lt;have hne:r≠w1.heap.size:=by omega
   unfold maxLen at hc2;rw [hll] at d0 q0 q1 q2 q3 hp1 hp2 hp3 hp4 hc1;rw [hav] at q1 hp3;rw [hkv] at q3 hp4;have hub:up.length≤100000:=by omega
   have hl0:l0.length=up.length:=by simpa using hll
   have hk0:p0.ks.length≤100000:=by
    rw [Jkp hp1,f3];have h9:o.kids.length+1≤(s'.up.map fun o=>o.kids.length+1).sum:=by rw [hu];simp
    have h8:=hww;unfold St.weight at h8;rw [XZ] at h8;omega
   have hput:=Ja (fun (o9:Obj)=>JgO B r _ textv l0 p0 [] _ (hp1.keepsNil ((Jb.refl [] _).alloc o9)) (by omega) hk0 p.o.nd oa ok p.o.attrs.length ca p.ks.length ck (hp3.keeps ((Jb.refl [] _).alloc o9) (fun _ _=>List.not_mem_nil)) (hp4.keeps ((Jb.refl [] _).alloc o9) (fun _ _=>List.not_mem_nil)));simp only [Op.nd,Nd.name,Nd.text] at hput;have hpop:s'.pop=⟨up,o.put s'.endText.cur.nd,[]⟩:=by unfold St.pop;rw [hu]
   have HP:=Ja hpop;have E3:=Ja e3;have F3:=Ja f3;have F2:=Ja f2;clear hpop hp1 hp3 hp4 e3 f3 f2 hav hkv e2;go_wp2_with fail;refine (hput.out _).mono ?_;rintro e w2 ⟨rfl,kv3,h2,hb2⟩;clear hput het;go_wp2_with fail;go_roundw
   case rel=>
    refine ⟨s'.pop,by rw [hpu],Nat.le_trans hwp hww,?_,HC⟩;rw [HP.out];exact ⟨_,⟨_,_,l0,_,rfl,F2.out,by rw [←E3.out, ←F3.out];rfl,h2⟩,((hbel.trans hb1).trans hp2).trans ((Stp.nil ((Jb.refl [] _).alloc _) _).trans hb2)⟩
   case measure=>simp [intOf]
  ·have hRe:R=s':=by
    have:=hC.out;rw [show s'.up.length+1 - a=0 from by omega] at this;exact this.symm
   have hlt:s'.up.length<a:=by omega
   have hsb2:s'.up.length≤100000:=by omega
   clear hC;go_wp2_with fail
   go_end0
   rw [hRe];exact ⟨rfl,hB.out⟩
theorem Jtx (l:List Po) (k:Nat) (hk:k<l.length):(Xs l)[k * 4]?=some (.string ⟨l[k].o.name.toArray⟩):=by
 induction l generalizing k with
 | nil=>simp at hk
 | cons p l ih=>
   have e:Xs (p::l)=Ja8 p++Xs l:=by simp [Xs]
   have h4:(Ja8 p).length=4:=rfl;rw [e];cases k with
   | zero=>rfl
   | succ k=>
     rw [List.getElem?_append_right (by omega),h4,show (k+1) * 4 - 4=k * 4 from by omega];exact ih k (by simpa using hk)
theorem Bd.named {w:World} {B r:Nat} {openv textv:Value} {l:List Po} {text:List UInt8} (h:Bd w B r openv textv l text):JdS w openv (l.map fun p=>p.o.name):=by
 have h1:=h.opn;rcases h1.2 with ⟨e,h0⟩ | ⟨g,cap,cur,e,hb,hg,h3,h4,_⟩
 ·subst e;refine ⟨none,0,by simp [h0],by simp [h0],by simp [maxLen],fun i hi=>?_⟩;simp [h0] at hi
 ·subst e;refine ⟨some ⟨g,0,none⟩,cap,by simp,by simpa using h3,h4,fun i hi=>?_⟩;rw [List.length_map] at hi;refine ⟨g,0,rfl,?_⟩;rw [Nat.zero_add,h1.cellAt _ (by omega),Jtx l i hi];simp
theorem Jkv {l:List Po} {p:Po} {s:St} (e2:l.map Po.o=s.up.reverse) (e3:p.o=s.cur):((l++[p]).map fun p=>p.o.name)=s.names:=by
 unfold St.names St.all;rw [←e2, ←e3];simp
theorem Jft (s:St):s.names.length=s.up.length+1:=by simp [St.names,St.all]
def St.Root (s:St):Prop:= ∃ r,s.names=[]::r
theorem Jlr (is hides:List UInt8→Bool) (ns:List (List UInt8)) (hr: ∃ r,ns=[]::r) (h0:is []=false): ∀ i,i≤ns.length→1≤Qr is hides ns i:=by
 obtain ⟨r,hr⟩:=hr;intro i hi
 induction i with
 | zero=>unfold Qr;rw [hr];simp
 | succ i ih=>
   unfold Qr;split
   ·next h=>
    cases i with
    | zero=>rw [hr] at h;simp [h0] at h
    | succ i=>omega
   ·split
    ·rw [hr];simp
    ·exact ih (by omega)
theorem Jee {is hides:List UInt8→Bool} {ns:List (List UInt8)} (hr: ∃ r,ns=[]::r) (h0:is []=false):1≤JZ is hides ns:=Jlr is hides ns hr h0 _ (Nat.le_refl _)
theorem Jfl (is hides:List UInt8→Bool) (ns:List (List UInt8)):JZ is hides ns≤ns.length:=Jbu _ _ _ _ (Nat.le_refl _)
theorem Jli {ns:List (List UInt8)} (hr: ∃ r,ns=[]::r) (n:List UInt8):1≤Jm ns n:=by
 have h1:1≤JZ (· ==[112]) J5 ns:=Jee hr (by decide);have h2:1≤ns.length:=by obtain ⟨r,rfl⟩:=hr;simp
 unfold Jm;split
 ·refine Jee ?_ (by decide);obtain ⟨r,rfl⟩:=hr;have:1≤(if YL n=true then JZ (· ==[112]) J5 ([]::r) else ([]::r).length):=by split<;>omega
  generalize (if YL n=true then JZ (· ==[112]) J5 ([]::r) else ([]::r).length)=F at this;cases F with
  | zero=>omega
  | succ F=>exact ⟨r.take F,by simp⟩
 ·split<;>omega
theorem Jg9 (ns:List (List UInt8)) (n:List UInt8):Jm ns n≤ns.length:=by
 have h1:=Jfl (· ==[112]) J5 ns;unfold Jm;split
 ·refine Nat.le_trans (Jfl _ _ _) ?_;rw [List.length_take];omega
 ·split<;>omega
theorem JrR (s:St) (n:Nd):(s.put n).names=s.names:=by simp [St.names,St.all,St.put,Op.put]
theorem Jde (s:St):s.endText.names=s.names:=by
 unfold St.endText;split
 ·rfl
 ·simp [St.names,St.all,Op.put]
theorem JrQ (s:St) (h:s.Root):s.pop.Root:=by
 obtain ⟨r,hr⟩:=h;unfold St.pop;split
 ·exact ⟨r,(Jde s).trans hr⟩
 ·next o up hu=>
  have h1:s.names=(St.names ⟨up,o.put s.endText.cur.nd,[]⟩)++[s.cur.name]:=by
   simp [St.names,St.all,hu,Op.put]
  rw [hr] at h1;unfold St.Root;generalize (St.names ⟨up,o.put s.endText.cur.nd,[]⟩)=x at h1 ⊢;cases x with
  | nil=>simp at h1;exact absurd h1.2 (by
     intro e;have h2:=congrArg List.length hr;rw [Jft,hu,e] at h2;simp at h2)
  | cons a x=>simp at h1;exact ⟨x,by rw [←h1.1]⟩
theorem Jet (k:Nat) (s:St) (h:s.Root):(s.close k).Root:=by
 induction k generalizing s with
 | zero=>exact h
 | succ k ih=>exact ih _ (JrQ s h)
theorem JlN (s:St) (t:Tok) (h:s.Root):(s.openIn t).Root:=by
 obtain ⟨r,hr⟩:=h;unfold St.openIn;split
 ·exact ⟨r,by rw [JrR,Jde];exact hr⟩
 ·have h1:St.names ⟨s.endText.cur::s.up,⟨t.name,t.attrs,[]⟩,[]⟩=s.endText.names++[t.name]:=by simp [St.names,St.all,QG]
  exact ⟨r++[t.name],by rw [h1,Jde,hr];rfl⟩
theorem Jqm (s:St) (t:Tok) (h:s.Root):(s.step t).Root:=by
 unfold St.step;split
 ·exact h
 ·split
  ·unfold St.openTag;split
   ·exact Jet _ _ h
   ·exact JlN _ _ (Jet _ _ h)
  ·exact Jet _ _ h
set_option maxRecDepth 4000 in
theorem Jjs (B r:Nat) (s:St) (T:List Nat) (n:List UInt8) (hn:n≠[]) (w:World) (h:BdT w B r s T) (hr:s.Root) (hw:s.weight≤100000):
  Calls Tryz.prog 84 #[.pointer (some ⟨r,0,none⟩),.string ⟨n.toArray⟩] w fun e w'=>
   e=.returned (.tuple #[])∧ ∃ T',BdT w' B r (s.closeTag n) T'∧Stp w T w' T':=by
 have hka:Jb [] w (w.alloc (.cells #[.string ⟨n.toArray⟩] 9)):=(Jb.refl [] w).alloc _;have ha:=h.keepsNil hka;have hle:=Jfl (· ==n) (fun _=>false) s.names;have hpos:1≤JZ (· ==n) (fun _=>false) s.names:=Jee hr (by simpa using Ne.symm hn);have hul:=Jag s;rw [Jft] at hle;have hcl:=Ja (JbN B r s T (JZ (· ==n) (fun _=>false) s.names) hpos (by omega) _ ha hw);obtain ⟨openv,textv,l,p,rfl,e2,e3,hB⟩:=ha;have hnm:=hB.named;rw [Jkv e2 e3] at hnm;have c0:=hB.cell0;have hin:=Ja (Jcs 169 170 #[.pointer (some ⟨w.heap.size,0,none⟩)] #[] (· ==n) (fun _=>false) _ openv s.names hnm JoS JoT (fun m=>Jlu m n w.heap.size _ (by simp)) (fun m=>JpJ m _));unfold St.closeTag;have hbel:=Stp.nil hka (JU r openv textv (l++[p]));obtain ⟨go,cap,hv,_⟩:=hB.form;subst hv;generalize JZ (· ==n) (fun _=>false) s.names=L at *;clear hB hnm e2 e3 hka h;go_enter Tryz.func84,Tryz.ntmps84;go_wp2_with fail;refine hin.out.mono ?_;rintro e w1 ⟨rfl,h1⟩;subst h1;go_wp2_with fail;refine hcl.out.mono ?_;rintro e w2 ⟨rfl,T2,hB2,hb2⟩;go_wp2_with fail
 go_end0
 exact ⟨rfl,T2,hB2,hbel.trans hb2⟩
theorem JoE (s:St):(s.closeFrom 1).endText.up=[]:=by
 rw [QG];unfold St.closeFrom;rw [JdY];simp
set_option maxRecDepth 4000 in
theorem Jrb (B r:Nat) (s:St) (T:List Nat) (w:World) (h:BdT w B r s T) (hw:s.weight≤100000):
  Calls Tryz.prog 85 #[.pointer (some ⟨r,0,none⟩)] w fun e w'=>
   ∃ v,e=.returned v∧Ns w' (fun g=>B≤g) v (s.closeFrom 1).endText.cur.kids∧Below B w w':=by
 have hge:=h.ge;have hcl:=Ja (JbN B r s T 1 (Nat.le_refl _) (by decide) _ h hw);have hw2:(s.closeFrom 1).weight≤100000:=Nat.le_trans (JbF _ s) hw;have hup:=JoE s;have Hup:=Ja hup;clear hup;generalize s.closeFrom 1=s2 at *;go_enter Tryz.func85,Tryz.ntmps85;go_wp2_with fail;refine hcl.out.mono ?_;rintro e w2 ⟨rfl,T2,hB2,hb2⟩;have het:=Ja (Jc1 B r s2 T2 _ hB2 hw2);clear hcl;go_wp2_with fail;refine het.out.mono ?_;rintro e w3 ⟨rfl,T3,⟨openv,textv,l,p,rfl,e2,e3,hB3⟩,hb3⟩;rw [Hup.out] at e2;obtain rfl:l=[]:=by simpa using e2
 obtain ⟨go,cap,hv,hgB,hgl,hc1,hc2⟩:=hB3.form;obtain ⟨q0,q1,q2,q3⟩:=hB3.last hv;obtain ⟨ok,ck,hkv⟩:=Jg (hB3.kids p (by simp)).2;have hN:Ns w3 (fun g=>B≤g) p.kv s2.endText.cur.kids:=by
  have hk:=hB3.kids p (by simp);refine .mk _ p.ks _ (by rw [hk.1,e3]) (QB.of_row hk.2 (fun g hg=>(hk.2.lt g hg).1)) (fun q hq=>?_) (fun q hq=>?_)
  ·exact (hB3.done p (by simp) q hq).1.mono (fun _ _ h=>h.1)
  ·exact (hB3.done p (by simp) q hq).2.mono (fun _ _ h=>h.1)
 have c0:=hB3.cell0;subst hv;simp only [List.length_nil,Nat.zero_mul,Nat.zero_add] at q3 c0 hc1;rw [hkv] at q3 hN;clear het e3 hkv hB3 Hup e2;go_wp2_with fail;go_ret;exact ⟨_,rfl,hN,(hb2.trans hb3).below (fun g hg=>(hge.1 g hg).1) hge.2⟩
theorem Jkk:(Tryz.prog.info? 52).map (fun i=>(i.zero,i.size,i.bytes))=some (some (.agg #[.string ⟨#[]⟩,.string ⟨#[]⟩]),2,32):=by kernel_rfl
theorem ZB {P:Program} (w:World) (t ty e:TypeId) (i:TypeInfo) (ht:P.underlying t=some (.slice e)) (hi:P.info? e=some i) (a:Option Addr) (c:Nat):
  (Builtin.append_ #[t,t] ty #[.slice none 0 0,.slice a 0 c]).run P w=.ok (.slice none 0 0) w:=by
 cases a<;>simp [Builtin.append_,run_underlying ht,sizeOf,typeInfo,hi,Builtin.lenOf,Builtin.firstCells,loadCells,loadCellsFrom]
theorem JeT {P:Program} {w:World} {ops:Array Oper} {rest:List Oper} {o:Oper} {a:Act} {Q:Exit→Act→World→Prop} (hgd:o.guard=none) (s x:Operand) (t:TypeId)
  (ho:o.op=.call { callee:=.builtin .append,args:=#[s,x],argTypes:=#[t,t] }) (e:TypeId) (i:TypeInfo) (ht:P.underlying t=some (.slice e)) (hi:P.info? e=some i)
  (ad:Option Addr) (c:Nat) (hs:a.eval s=.slice none 0 0) (hx:a.eval x=.slice ad 0 c)
  (h:wpList P ops Q rest (a.put o.dst (.slice none 0 0)) w):wpList P ops Q (o::rest) a w:=by
 refine wpList_plain hgd fun K hK=>?_;have hrun:=ZB (P:=P) w t o.type e i ht hi ad c;unfold Oper.wp;simp [execOp,ho,resolve,invoke,builtin,hs,hx,hrun,Result.andThen];exact hK _ _ h
theorem JgN (l:List Jw): ∀ u∈Jj l,u.oneCell'=true:=by
 intro u hu
 induction l with
 | nil=>simp [Jj] at hu
 | cons p l ih=>
   have e:Jj (p::l)=.string ⟨p.1.toArray⟩::.string ⟨p.2.toArray⟩::Jj l:=by simp [Jj]
   rw [e] at hu;simp only [List.mem_cons] at hu;rcases hu with rfl | rfl | hu
   ·rfl
   ·rfl
   ·exact ih hu
theorem Jhe (w:World) (v:Value) (la:List Jw) (hv:Jh w v la.length 2 (Jj la)) (hl:la.length≤2000000):
  Calls Tryz.prog 165 #[v] w fun e w'=> ∃ v',e=.returned v'∧w'.ownsRow w.heap.size 52 2 v' la.length (Jj la)∧Jb [] w w':=by
 obtain ⟨i0,hi,hz0,hz1,hz2⟩:=info_parts Jkk;obtain ⟨o,c,rfl,h1,h2⟩:=hv.form;unfold maxLen at h2;by_cases h0:la.length=0
 ·have hla:la=[]:=List.eq_nil_of_length_eq_zero h0;subst hla;go_enter Tryz.func165,Tryz.ntmps165;go_wp2_with (at_builtin;refine JeT rfl _ _ 43 rfl 52 i0 Tryz.underlying43 hi o c rfl rfl ?_);go_ret;exact ⟨_,rfl,World.ownsRow_nil _ _ _ _,Jb.refl _ _⟩
 ·obtain ⟨g,x,rfl,hc⟩:=hv.addr (by omega);have hadd: ∀ j u,(Jj la)[j]?=some u→w.cell? ((⟨g,x,none⟩:Addr).add j)=some u:=fun j u hj=>by
   have h9:=hc j u hj;have e1:(⟨g,x,none⟩:Addr).add j=⟨g,x+j,none⟩:=by by_cases hj0:j=0<;>simp [Addr.add,hj0]
   rw [e1];exact h9
  go_enter Tryz.func165,Tryz.ntmps165;go_wp2_with (at_builtin;refine wpList_append_own _ rfl _ _ 43 rfl w.heap.size 52 i0 _ 2 32 Tryz.underlying43 hi hz0 hz1 hz2 (by kernel_rfl) (by decide) _ _ _ rfl (World.ownsRow_nil _ _ _ _) ⟨g,x,none⟩ la.length c (Jj la) rfl hv.1 ?c1 ?c2 ?c3 ?c4 ?c5 ?_)
  case c1=>exact hadd
  case c2=>exact JgN la
  case c3=>unfold maxLen;omega
  case c4=>omega
  case c5=>exact Nat.le_refl _
  intro v' w' ho hg _;obtain ⟨o',c',rfl⟩:=Jg ho;go_wp2_with fail;go_ret;refine ⟨_,rfl,?_,(Jb.refl [] w).grown hg (fun k e=>by simp [Value.ownBlock] at e)⟩;simpa using ho
end Go.Proofs.YtlcljanibjdejaaGreat
