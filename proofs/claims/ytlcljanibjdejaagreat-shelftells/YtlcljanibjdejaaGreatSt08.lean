/- ShelfTells holds: the law returns true for every input, and each argument reads behind the call as it read before; no condition. A part of its proof. -/
import Derived.Test.YtlcljanibjdejaaGreatSt07
import Derived.Deep.MidRow
import Derived.Lib.IndexLaws
set_option maxHeartbeats 64000000
namespace Go.Proofs.YtlcljanibjdejaaGreat
open Go.RowKit
def Jb6:QH:=⟨[],[],[],[],[],false,false,false,false⟩
theorem Jb5 (w:World) (o:Obj) {k:Nat} (h:w.heap.size=k):(w.alloc o).heap[k]?=some o:=by subst h;exact heap_alloc_new w o
theorem Jtn:(Tryz.prog.info? 99).map (·.size)=some 9:=by kernel_rfl
theorem JN.range {W:World} {q:Nat} {u:QH} (h:JN W q u):W.rangeAt q 0 (JbZ u).toList:=fun j v hv=>by
 rw [Nat.zero_add,h.cell j];simpa using hv
theorem JmZ {p l:List UInt8} (h:Lib.hasPrefix l p=true):Lib.index l p=0:=by
 unfold Lib.index;cases l with
 | nil=>simp_all [Lib.hasPrefix]
 | cons c l=>
   have h':p<+:c::l:=by unfold Lib.hasPrefix at h;simpa using h
   simp [h']
theorem Jgg {p l:List UInt8} (h:Lib.hasPrefix l p=true):Xx p l=some p.length:=by
 unfold Xx;rw [JmZ h];simp
theorem JlF (b:Nat) (s:ByteArray) (k:Nat) (p:ByteArray) (w:World) (hs:s.size≤3000) (hp:p.size≤3000) (hT:Jf w b s k) (hk:k≤s.size) (hM:JW w) (h:Ju s k p.data.toList=true):
  Calls Tryz.prog 156 #[.pointer (some ⟨b,0,none⟩),.string p] w fun e w'=>e=.returned (.string ⟨#[]⟩)∧Jf w' b s (k+p.size)∧Jb [b] w w':=by
 refine (Jas b s k p w hs hp hT hk hM).mono ?_;rintro e w' ⟨⟨m,hm,rfl,hT'⟩ | ⟨hm,_⟩,hk'⟩
 ·have e1:Xx p.data.toList (s.data.toList.drop k)=some p.data.toList.length:=Jgg h;rw [e1] at hm;simp only [Option.some.injEq] at hm;subst hm;have e2:s.extract k (k+p.data.toList.length - p.size)=⟨#[]⟩:=WideShapes.bytes_inj (by rw [Lib.extract_data,Js];simp);rw [e2];exact ⟨rfl,hT',hk'⟩
 ·have e1:Xx p.data.toList (s.data.toList.drop k)=some p.data.toList.length:=Jgg h;rw [e1] at hm;simp at hm
theorem Jsg (p q b:Nat) (s:ByteArray) (w:World) (hs:s.size≤3000) (hP:JaP w p b) (hU:JN w q Jb6) (hT:Jf w b s 0) (hqb:q≠b) (hpb:p≠b) (hpq:p≠q):
  Calls Tryz.prog 78 #[.pointer (some ⟨b,0,none⟩),.func (.func 215) #[] #[.pointer (some ⟨p,0,none⟩),.pointer (some ⟨q,0,none⟩)]] w fun e w'=>
   e=.returned (.bool (J8 s.data.toList).isSome)∧Jf w' b s (k0L s.data.toList)∧JN w' q { Jb6 with scheme:=(J8 s.data.toList).getD [] }∧Jb [b,q] w w':=by
 refine (Jmo 215 #[.pointer (some ⟨p,0,none⟩),.pointer (some ⟨q,0,none⟩)]
  (fun w2=> ∃ n,J8 s.data.toList=some n∧Jf w2 b s (n.length+1)∧JN w2 q { Jb6 with scheme:=n }) (fun w2=>J8 s.data.toList=none∧JN w2 q Jb6) [b,q] b s 0 w hT JoY (by simp)
  (fun i hi=>by
    rcases List.mem_cons.1 hi with rfl | hi
    ·exact hT.lt
    ·rcases List.mem_cons.1 hi with rfl | hi
     ·exact hU.lt
     ·simp at hi)
  (fun w2 w3 h hk=>⟨h.1,h.2.keeps hk (by simpa using hqb)⟩)
  (fun w1 hk1=>(JjI p q b Jb6 s w1 hs (hP.keeps hk1 (by simp)) (hU.keeps hk1 (by simp)) (hT.keeps hk1 (by simp)) hqb))).mono ?_
 rintro e w' ⟨⟨rfl,n,hn,hT',hU'⟩ | ⟨rfl,⟨hn,hU'⟩,hT'⟩,hk⟩
 ·rw [hn];refine ⟨rfl,?_,hU',hk⟩;unfold k0L;rw [hn];exact hT'
 ·rw [hn];refine ⟨rfl,?_,hU',hk⟩;unfold k0L;rw [hn];exact hT'
structure Sp (w:World) (r p q b:Nat) (s:ByteArray) (W:World) (k:Nat) (u:QH):Prop where
 text:Jf W b s k
 ptr:JaP W p b
 url:JN W q u
 res:JN W r Jb6
 keeps:Jb [] w W
 max:JW W
 rw:w.heap.size≤r
 bw:w.heap.size≤b
 qw:w.heap.size≤q
 ne1:p≠b
 ne2:p≠q
 ne3:q≠b
 ne4:r≠b
 ne5:r≠q
 b0:0<b
 q0:0<q
theorem Sp.move {w:World} {r p q b:Nat} {s:ByteArray} {W:World} {k:Nat} {u:QH} (h:Sp w r p q b s W k u) {W':World} {k':Nat} (hT:Jf W' b s k') (hk:Jb [b] W W'):Sp w r p q b s W' k' u:=
 ⟨hT,h.ptr.keeps hk (by simpa using h.ne1),h.url.keeps hk (by simpa using h.ne3),h.res.keeps hk (by simpa using h.ne4),
   (h.keeps.mono (T:=[b]) (by simp)).trans hk |>.mono (fun i hi hlt=>by have:=h.bw;simp at hi;omega),
   h.max.keeps hk (by have:=h.b0;simp;omega),h.rw,h.bw,h.qw,h.ne1,h.ne2,h.ne3,h.ne4,h.ne5,h.b0,h.q0⟩
theorem Sp.drew {w:World} {r p q b:Nat} {s:ByteArray} {W:World} {k:Nat} {u:QH} (h:Sp w r p q b s W k u) (n:Nat):Sp w r p q b s (W.drewN n) k u:=
 ⟨h.text,h.ptr,h.url,h.res,h.keeps.drewN n,h.max,h.rw,h.bw,h.qw,h.ne1,h.ne2,h.ne3,h.ne4,h.ne5,h.b0,h.q0⟩
theorem Sp.put {w:World} {r p q b:Nat} {s:ByteArray} {W:World} {k:Nat} {u:QH} (h:Sp w r p q b s W k u) {j:Nat} {v:Value} {u':QH} (hU:JN (W.setCell ⟨q,j,none⟩ v) q u'):Sp w r p q b s (W.setCell ⟨q,j,none⟩ v) k u':=by
 have hk:Jb [q] W (W.setCell ⟨q,j,none⟩ v):=(Jb.refl [q] W).setCell (p:=⟨q,j,none⟩) (by simp) v
 exact ⟨h.text.keeps hk (by simpa using h.ne3.symm),h.ptr.keeps hk (by simpa using h.ne2),hU,h.res.keeps hk (by simpa using h.ne5),
  (h.keeps.mono (T:=[q]) (by simp)).trans hk |>.mono (fun i hi hlt=>by have:=h.qw;simp at hi;omega),
  h.max.keeps hk (by have:=h.q0;simp;omega),h.rw,h.bw,h.qw,h.ne1,h.ne2,h.ne3,h.ne4,h.ne5,h.b0,h.q0⟩
theorem Sp.ptr_set {w:World} {r p q b:Nat} {s:ByteArray} {W:World} {k:Nat} {u:QH} (h:Sp w r p q b s W k u) (j:Nat) (v:Value):(W.setCell ⟨q,j,none⟩ v).cell? ⟨p,0,none⟩=some (.pointer (some ⟨b,0,none⟩)):=by
 have:(W.setCell ⟨q,j,none⟩ v).heap[p]?=W.heap[p]?:=Below.heap_setCell _ _ _ _ h.ne2;exact (World.cell?_of_block (a:=⟨p,0,none⟩) this).trans h.ptr.cell
theorem Sp.own_set {w:World} {r p q b:Nat} {s:ByteArray} {W:World} {k:Nat} {u:QH} (h:Sp w r p q b s W k u) (j:Nat) (hj:j<9) (v:Value):(W.setCell ⟨q,j,none⟩ v).cell? ⟨q,j,none⟩=some v:=by
 have:=h.url;unfold JN at this;simp [World.cell?,World.setCell,Array.getElem?_modify,this,hj]
theorem Jbh (b:Nat) (s:ByteArray) (k:Nat) (p:ByteArray) (W:World) (w:World) (r p' q:Nat) (u:QH) (h:Sp w r p' q b s W k u) (hk:k≤s.size) (x:Bool) (hx:Ju s k p.data.toList=x):
  Calls Tryz.prog 155 #[.pointer (some ⟨b,0,none⟩),.string p] W fun e W'=>e=.returned (.bool x)∧Sp w r p' q b s W' k u:=by
 refine (JdW b s k p W h.text hk).mono ?_;rintro e W' ⟨rfl,n,rfl⟩;rw [hx];exact ⟨rfl,h.drew n⟩
theorem upS (b:Nat) (s:ByteArray) (k:Nat) (ends:ByteArray) (f:UInt8→Bool) (hf: ∀ c,decide (Lib.indexByte ends.data.toList c<0)=f c) (W:World) (w:World) (r p' q:Nat) (u:QH) (h:Sp w r p' q b s W k u) (hs:s.size≤3000) (hk:k≤s.size) (x:List UInt8) (hx:(s.data.toList.drop k).takeWhile f=x):
  Calls Tryz.prog 217 #[.pointer (some ⟨b,0,none⟩),.string ends] W fun e W'=>e=.returned (.string ⟨x.toArray⟩)∧Sp w r p' q b s W' (k+x.length) u:=by
 refine (JkC b s k ends f hf W hs h.text hk).mono ?_;rintro e W' ⟨rfl,hT,hkp⟩;rw [hx] at hT ⊢;exact ⟨rfl,h.move hT hkp⟩
theorem Jik (b:Nat) (s:ByteArray) (k:Nat) (W:World) (w:World) (r p' q:Nat) (u:QH) (h:Sp w r p' q b s W k u) (hs:s.size≤3000) (hk:k<s.size):
  Calls Tryz.prog 157 #[.pointer (some ⟨b,0,none⟩)] W fun e W'=>e=.returned (.int .u8 (Jr s k).toNat)∧Sp w r p' q b s W' (k+1) u:=by
 refine (Q2 b s k W hs h.text hk).mono ?_;rintro e W' ⟨rfl,hT,hkp⟩;exact ⟨rfl,h.move hT hkp⟩
theorem toS (b:Nat) (s:ByteArray) (k:Nat) (p:ByteArray) (W:World) (w:World) (r p' q:Nat) (u:QH) (h:Sp w r p' q b s W k u) (hs:s.size≤3000) (hp:p.size≤3000) (hk:k≤s.size) (hx:Ju s k p.data.toList=true):
  Calls Tryz.prog 156 #[.pointer (some ⟨b,0,none⟩),.string p] W fun e W'=>e=.returned (.string ⟨#[]⟩)∧Sp w r p' q b s W' (k+p.size) u:=by
 refine (JlF b s k p W hs hp h.text hk h.max hx).mono ?_;rintro e W' ⟨rfl,hT,hkp⟩;exact ⟨rfl,h.move hT hkp⟩
theorem JjM (b:Nat) (s:ByteArray) (k:Nat) (W:World) (w:World) (r p' q:Nat) (u:QH) (h:Sp w r p' q b s W k u) (hk:k≤s.size) (x:List UInt8) (hx:s.data.toList.drop k=x):
  Calls Tryz.prog 80 #[.pointer (some ⟨b,0,none⟩)] W fun e W'=>e=.returned (.string ⟨x.toArray⟩)∧Sp w r p' q b s W' s.size u:=by
 refine (JgQ b s k W h.text hk).mono ?_;rintro e W' ⟨rfl,hT,hkp⟩;have e1:s.extract k s.size=⟨x.toArray⟩:=by
  apply WideShapes.bytes_inj;rw [Lib.extract_to_end,hx]
 rw [e1];exact ⟨rfl,h.move hT hkp⟩
theorem Jex {s:ByteArray} {k:Nat} {p:List UInt8} (h:Ju s k p=true) (hp:0<p.length):k+p.length≤s.size:=by
 have h1:p<+:s.data.toList.drop k:=by unfold Ju at h;simpa using h
 have h2:=h1.length_le;rw [List.length_drop,Js] at h2;omega
theorem JtL (s:ByteArray):k0L s.data.toList≤s.size:=by
 unfold k0L;cases h:J8 s.data.toList with
 | none=>exact Nat.zero_le _
 | some n=>
   unfold J8 at h;split at h
   ·rename_i hc;simp only [Option.some.injEq] at h;subst h;rcases Nat.lt_or_ge (s.data.toList.takeWhile Yh).length s.size with h' | h'
    ·simp only;omega
    ·have:=hc.2.2;rw [List.drop_eq_nil_of_le (by rw [Js];exact h')] at this;simp at this
   ·simp at h
theorem Jdp {tmps:Array Value} {W w:World} {r:Nat} {u A:QH} (hp:tmps.getD 2 undef=.pointer (some ⟨r,0,none⟩)) (hU:JN W r u) (hA:A=u) (hk:Jb [] w W):
  bodyPost Tryz.prog Tryz.f145 (fun e w'=>e=.returned (Jsh A)∧Jb [] w w') Exit.ret { tmps:=tmps,defers:=[] } W:=by
 subst hA;exact ⟨rfl,_,results_cell_row (P:=Tryz.prog) rfl tmps W r 99 (JbZ A) (0,0) _ hp hU Tryz.underlying99 rfl (Jtn.trans rfl),rfl,hk⟩
theorem Jci {w W:World} {r:Nat} (h:Jb [] w W) (hr:w.heap.size≤r) (v0 v1 v2 v3 v4 v5 v6 v7 v8:Value):
  Jb [] w (((((((((W.setCell ⟨r,0,none⟩ v0).setCell ⟨r,1,none⟩ v1).setCell ⟨r,2,none⟩ v2).setCell ⟨r,3,none⟩ v3).setCell ⟨r,4,none⟩ v4).setCell ⟨r,5,none⟩ v5).setCell ⟨r,6,none⟩ v6).setCell ⟨r,7,none⟩ v7).setCell ⟨r,8,none⟩ v8):=
 ((((((((h.setCell (.inr hr) _).setCell (.inr hr) _).setCell (.inr hr) _).setCell (.inr hr) _).setCell (.inr hr) _).setCell (.inr hr) _).setCell (.inr hr) _).setCell (.inr hr) _).setCell (.inr hr) _
set_option maxRecDepth 4000 in
theorem JqA (s:ByteArray) (w:World) (hs:s.size≤3000) (hM:JW w):
  Calls Tryz.prog 145 #[.string s] w fun e w'=>e=.returned (Jsh (QX s.data.toList))∧Jb [] w w':=by
 have hmf: ∀ (fn:Fn) (first cap:Array Value) (w:World),(Instr.makeFunc fn first cap).run Tryz.prog w=.ok (.func fn first cap) w:=fun _ _ _ _=>rfl;obtain ⟨A,hA⟩: ∃ A,QX s.data.toList=A:=⟨_,rfl⟩;rw [hA];have HA:=Ja hA;clear hA;obtain ⟨sc,hsc⟩: ∃ x,(J8 s.data.toList).getD []=x:=⟨_,rfl⟩;obtain ⟨hs0,hhs⟩: ∃ x,(J8 s.data.toList).isSome=x:=⟨_,rfl⟩;obtain ⟨k0,hk0⟩: ∃ x,k0L s.data.toList=x:=⟨_,rfl⟩;have hk0le:=JtL s;rw [hk0] at hk0le;obtain ⟨ha,hha⟩: ∃ x,haL s.data.toList=x:=⟨_,rfl⟩;obtain ⟨au,hau⟩: ∃ x,auL s.data.toList=x:=⟨_,rfl⟩;obtain ⟨k1,hk1⟩: ∃ x,k1L s.data.toList=x:=⟨_,rfl⟩;obtain ⟨pa,hpa⟩: ∃ x,JhJ s.data.toList=x:=⟨_,rfl⟩;obtain ⟨k2,hk2⟩: ∃ x,k2L s.data.toList=x:=⟨_,rfl⟩;obtain ⟨hq,hhq⟩: ∃ x,hqL s.data.toList=x:=⟨_,rfl⟩;obtain ⟨qu,hqu⟩: ∃ x,quL s.data.toList=x:=⟨_,rfl⟩;obtain ⟨k3,hk3⟩: ∃ x,k3L s.data.toList=x:=⟨_,rfl⟩;obtain ⟨hf,hhf⟩: ∃ x,hfL s.data.toList=x:=⟨_,rfl⟩;obtain ⟨fr,hfr⟩: ∃ x,frL s.data.toList=x:=⟨_,rfl⟩;have HA2:Hid (A=⟨sc,au,pa,qu,fr,hs0,ha,hq,hf⟩):=by
  rw [←HA.out];unfold QX;rw [hsc,hau,hpa,hqu,hfr,hhs,hha,hhq,hhf];exact rfl
 have b1:Hid (Ju s k0 [47,47]=ha):=by rw [←hha, ←hk0];exact rfl
 have x1:Hid (au=if ha=true then (s.data.toList.drop (k0+2)).takeWhile JfS else []):=by rw [←hau, ←hha, ←hk0];exact rfl
 have y1:Hid (k1=if ha=true then k0+2+au.length else k0):=by rw [←hk1, ←hau, ←hha, ←hk0];exact rfl
 have x2:Hid ((s.data.toList.drop k1).takeWhile Jb9=pa):=by rw [←hpa, ←hk1];exact rfl
 have y2:Hid (k2=k1+pa.length):=by rw [←hk2, ←hpa, ←hk1];exact rfl
 have b3:Hid (Ju s k2 [63]=hq):=by rw [←hhq, ←hk2];exact rfl
 have x3:Hid (qu=if hq=true then (s.data.toList.drop (k2+1)).takeWhile JaK else []):=by rw [←hqu, ←hhq, ←hk2];exact rfl
 have y3:Hid (k3=if hq=true then k2+1+qu.length else k2):=by rw [←hk3, ←hqu, ←hhq, ←hk2];exact rfl
 have b4:Hid (Ju s k3 [35]=hf):=by rw [←hhf, ←hk3];exact rfl
 have x4:Hid (fr=if hf=true then s.data.toList.drop (k3+1) else []):=by rw [←hfr, ←hhf, ←hk3];exact rfl
 have T:=Ja (fun p q b (w:World)=>Jsg p q b s w hs);rw [hsc,hhs,hk0] at T;clear HA hsc hhs hk0 hha hau hk1 hpa hk2 hhq hqu hk3 hhf hfr;have tw:=Ja (fun f k (h:k≤s.size)=>Xa f s k h);go_enter Tryz.func145,Tryz.ntmps145;go_wp2_with fail;refine (JfX s _).mono ?_;rintro e w1 ⟨rfl,rfl⟩;go_wp2_with fail;obtain ⟨W0,hW0⟩: ∃ W0,W0=((((w.alloc (.cells #[.string ⟨#[]⟩,.string ⟨#[]⟩,.string ⟨#[]⟩,.string ⟨#[]⟩,.string ⟨#[]⟩,.bool false,.bool false,.bool false,.bool false] 99)).alloc (.cells #[.string s,.int .i64 0] 181)).alloc (.cells #[.pointer (some ⟨w.heap.size+1,0,none⟩)] 105)).alloc (.cells #[.string ⟨#[]⟩,.string ⟨#[]⟩,.string ⟨#[]⟩,.string ⟨#[]⟩,.string ⟨#[]⟩,.bool false,.bool false,.bool false,.bool false] 99)):=⟨_,rfl⟩;rw [←hW0];have hw0:=hM.lt;have g0:Sp w w.heap.size (w.heap.size+1+1) (w.heap.size+1+1+1) (w.heap.size+1) s W0 0 Jb6:=by
  subst hW0;have hkp:Jb [] w _:=((((Jb.refl [] w).alloc (.cells #[.string ⟨#[]⟩,.string ⟨#[]⟩,.string ⟨#[]⟩,.string ⟨#[]⟩,.string ⟨#[]⟩,.bool false,.bool false,.bool false,.bool false] 99)).alloc (.cells #[.string s,.int .i64 0] 181)).alloc (.cells #[.pointer (some ⟨w.heap.size+1,0,none⟩)] 105)).alloc (.cells #[.string ⟨#[]⟩,.string ⟨#[]⟩,.string ⟨#[]⟩,.string ⟨#[]⟩,.string ⟨#[]⟩,.bool false,.bool false,.bool false,.bool false] 99);refine ⟨?_,?_,?_,?_,hkp,hM.keeps hkp (by simp),by omega,by omega,by omega,by omega,by omega,by omega,by omega,by omega,by omega,by omega⟩
  ·unfold Jf;rw [Below.heap_alloc _ _ _ (by simp),Below.heap_alloc _ _ _ (by simp)];exact Jb5 _ _ (by simp)
  ·unfold JaP;rw [Below.heap_alloc _ _ _ (by simp)];exact Jb5 _ _ (by simp)
  ·unfold JN Jb6;exact Jb5 _ _ (by simp)
  ·unfold JN Jb6;rw [Below.heap_alloc _ _ _ (by simp;omega),Below.heap_alloc _ _ _ (by simp;omega),Below.heap_alloc _ _ _ (by simp)];exact Jb5 _ _ rfl
 clear hW0;generalize w.heap.size+1+1+1=q at *;generalize w.heap.size+1+1=p at *;generalize w.heap.size+1=b at *;generalize hr:w.heap.size=r at *;clear hr;refine (T.out _ _ _ _ g0.ptr g0.url g0.text g0.ne3 g0.ne1 g0.ne2).mono ?_;rintro e W1 ⟨rfl,hT1,hU1,hk1⟩;have g1:Sp w r p q b s W1 k0 ⟨sc,[],[],[],[],false,false,false,false⟩:=
  ⟨hT1,g0.ptr.keeps hk1 (by have:=g0.ne1;have:=g0.ne2;simp;omega),hU1,g0.res.keeps hk1 (by have:=g0.ne4;have:=g0.ne5;simp;omega),
    (g0.keeps.mono (T:=[b,q]) (by simp)).trans hk1 |>.mono (fun i hi hlt=>by have:=g0.bw;have:=g0.qw;simp at hi;omega),
    g0.max.keeps hk1 (by have:=g0.b0;have:=g0.q0;simp;omega),g0.rw,g0.bw,g0.qw,g0.ne1,g0.ne2,g0.ne3,g0.ne4,g0.ne5,g0.b0,g0.q0⟩
 clear g0 hT1 hU1 hk1 T;have pp:=g1.ptr.cell;have ps:=g1.ptr_set 5;have d:W1.cell? ⟨q,5,none⟩=some (.bool false):=g1.url.cell 5;have f:=g1.url.free 5;have o:=g1.own_set 5 (by decide);go_wp2_with fail;clear pp ps d f o;have g2:Sp w r p q b s (W1.setCell ⟨q,5,none⟩ (.bool hs0)) k0 ⟨sc,[],[],[],[],hs0,false,false,false⟩:=g1.put (g1.url.set5 hs0);cases ha
 ·have B1:=Ja (Jbh b s k0 ⟨#[47,47]⟩ (W1.setCell ⟨q,5,none⟩ (.bool hs0)) w r p q ⟨sc,[],[],[],[],hs0,false,false,false⟩ g2 hk0le false b1.out);refine B1.out.mono ?_;rintro e W3 ⟨rfl,g3⟩;have AE:Hid (au=[]):=x1.out.trans (if_neg (by simp));have kk1:Hid (k0=k1):=(y1.out.trans (if_neg (by simp))).symm;have kl1:Hid (k1≤s.size):=by rw [←kk1.out];exact hk0le
  have pp:=g3.ptr.cell;have ps:=g3.ptr_set 6;have d:W3.cell? ⟨q,6,none⟩=some (.bool false):=g3.url.cell 6;have f:=g3.url.free 6;have o:=g3.own_set 6 (by decide);go_wp2_with fail;clear pp ps d f o;have g4:Sp w r p q b s (W3.setCell ⟨q,6,none⟩ (.bool false)) k0 ⟨sc,[],[],[],[],hs0,false,false,false⟩:=g3.put (g3.url.set6 false);have hg4:Sp w r p q b s (W3.setCell ⟨q,6,none⟩ (.bool false)) k1 ⟨sc,[],[],[],[],hs0,false,false,false⟩:=kk1.out ▸ g4;refine (upS b s k1 ⟨#[63,35]⟩ Jb9 Jsr (W3.setCell ⟨q,6,none⟩ (.bool false)) w r p q ⟨sc,[],[],[],[],hs0,false,false,false⟩ hg4 hs kl1.out pa x2.out).mono ?_;rintro e W5 ⟨rfl,g5⟩;rw [←y2.out] at g5;have pp:=g5.ptr.cell;have ps:=g5.ptr_set 2;have d:W5.cell? ⟨q,2,none⟩=some (.string ⟨([]:List UInt8).toArray⟩):=g5.url.cell 2;have f:=g5.url.free 2;have o:=g5.own_set 2 (by decide);go_wp2_with fail;clear pp ps d f o;have g6:Sp w r p q b s (W5.setCell ⟨q,2,none⟩ (.string ⟨pa.toArray⟩)) k2 ⟨sc,[],pa,[],[],hs0,false,false,false⟩:=g5.put (g5.url.set2 pa);have kl2:Hid (k2≤s.size):=by have:=tw.out Jb9 k1 kl1.out;rw [x2.out] at this;rw [y2.out];exact this
  cases hq
  ·have B3:=Ja (Jbh b s k2 ⟨#[63]⟩ (W5.setCell ⟨q,2,none⟩ (.string ⟨pa.toArray⟩)) w r p q ⟨sc,[],pa,[],[],hs0,false,false,false⟩ g6 kl2.out false b3.out);refine B3.out.mono ?_;rintro e W7 ⟨rfl,g7⟩;have qe:qu=[]:=x3.out.trans (if_neg (by simp));have kk3:Hid (k2=k3):=(y3.out.trans (if_neg (by simp))).symm;have kl3:Hid (k3≤s.size):=by rw [←kk3.out];exact kl2.out
   have QE:=Ja qe;clear qe;have pp:=g7.ptr.cell;have ps:=g7.ptr_set 7;have d:W7.cell? ⟨q,7,none⟩=some (.bool false):=g7.url.cell 7;have f:=g7.url.free 7;have o:=g7.own_set 7 (by decide);go_wp2_with fail;clear pp ps d f o;have g8:Sp w r p q b s (W7.setCell ⟨q,7,none⟩ (.bool false)) k2 ⟨sc,[],pa,[],[],hs0,false,false,false⟩:=g7.put (g7.url.set7 false);have g_8:Sp w r p q b s (W7.setCell ⟨q,7,none⟩ (.bool false)) k3 ⟨sc,[],pa,[],[],hs0,false,false,false⟩:=kk3.out ▸ g8;cases hf
   ·have B4:=Ja (Jbh b s k3 ⟨#[35]⟩ (W7.setCell ⟨q,7,none⟩ (.bool false)) w r p q ⟨sc,[],pa,[],[],hs0,false,false,false⟩ g_8 kl3.out false b4.out);refine B4.out.mono ?_;rintro e W9 ⟨rfl,g9⟩;have FE:Hid (fr=[]):=x4.out.trans (if_neg (by simp));have pp:=g9.ptr.cell;have d:W9.cell? ⟨q,8,none⟩=some (.bool false):=g9.url.cell 8;have f:=g9.url.free 8;have o:=g9.own_set 8 (by decide);have g10:Sp w r p q b s (W9.setCell ⟨q,8,none⟩ (.bool false)) k3 ⟨sc,[],pa,[],[],hs0,false,false,false⟩:=g9.put (g9.url.set8 false);have u0:(W9.setCell ⟨q,8,none⟩ (.bool false)).cell? ⟨q,0,none⟩=some (.string ⟨(sc:List UInt8).toArray⟩):=g10.url.cell 0;have r0:(W9.setCell ⟨q,8,none⟩ (.bool false)).cell? ⟨r,0,none⟩=some (.string ⟨([]:List UInt8).toArray⟩):=g10.res.cell 0;have z0:=g10.res.free 0;have u1:(W9.setCell ⟨q,8,none⟩ (.bool false)).cell? ⟨q,1,none⟩=some (.string ⟨([]:List UInt8).toArray⟩):=g10.url.cell 1;have r1:(W9.setCell ⟨q,8,none⟩ (.bool false)).cell? ⟨r,1,none⟩=some (.string ⟨([]:List UInt8).toArray⟩):=g10.res.cell 1;have z1:=g10.res.free 1;have u2:(W9.setCell ⟨q,8,none⟩ (.bool false)).cell? ⟨q,2,none⟩=some (.string ⟨(pa:List UInt8).toArray⟩):=g10.url.cell 2;have r2:(W9.setCell ⟨q,8,none⟩ (.bool false)).cell? ⟨r,2,none⟩=some (.string ⟨([]:List UInt8).toArray⟩):=g10.res.cell 2;have z2:=g10.res.free 2;have u3:(W9.setCell ⟨q,8,none⟩ (.bool false)).cell? ⟨q,3,none⟩=some (.string ⟨([]:List UInt8).toArray⟩):=g10.url.cell 3;have r3:(W9.setCell ⟨q,8,none⟩ (.bool false)).cell? ⟨r,3,none⟩=some (.string ⟨([]:List UInt8).toArray⟩):=g10.res.cell 3;have z3:=g10.res.free 3;have u4:(W9.setCell ⟨q,8,none⟩ (.bool false)).cell? ⟨q,4,none⟩=some (.string ⟨([]:List UInt8).toArray⟩):=g10.url.cell 4;have r4:(W9.setCell ⟨q,8,none⟩ (.bool false)).cell? ⟨r,4,none⟩=some (.string ⟨([]:List UInt8).toArray⟩):=g10.res.cell 4;have z4:=g10.res.free 4;have u5:(W9.setCell ⟨q,8,none⟩ (.bool false)).cell? ⟨q,5,none⟩=some (.bool hs0):=g10.url.cell 5;have r5:(W9.setCell ⟨q,8,none⟩ (.bool false)).cell? ⟨r,5,none⟩=some (.bool false):=g10.res.cell 5;have z5:=g10.res.free 5;have u6:(W9.setCell ⟨q,8,none⟩ (.bool false)).cell? ⟨q,6,none⟩=some (.bool false):=g10.url.cell 6;have r6:(W9.setCell ⟨q,8,none⟩ (.bool false)).cell? ⟨r,6,none⟩=some (.bool false):=g10.res.cell 6;have z6:=g10.res.free 6;have u7:(W9.setCell ⟨q,8,none⟩ (.bool false)).cell? ⟨q,7,none⟩=some (.bool false):=g10.url.cell 7;have r7:(W9.setCell ⟨q,8,none⟩ (.bool false)).cell? ⟨r,7,none⟩=some (.bool false):=g10.res.cell 7;have z7:=g10.res.free 7;have u8:(W9.setCell ⟨q,8,none⟩ (.bool false)).cell? ⟨q,8,none⟩=some (.bool false):=g10.url.cell 8;have r8:(W9.setCell ⟨q,8,none⟩ (.bool false)).cell? ⟨r,8,none⟩=some (.bool false):=g10.res.cell 8;have z8:=g10.res.free 8;go_wp2_with fail;exact Jdp rfl (((((((((g10.res.set0 sc).set1 []).set2 pa).set3 []).set4 []).set5 hs0).set6 false).set7 false).set8 false) (HA2.out.trans (by rw [AE.out,QE.out,FE.out])) (Jci g10.keeps g10.rw _ _ _ _ _ _ _ _ _)
   ·have B4:=Ja (Jbh b s k3 ⟨#[35]⟩ (W7.setCell ⟨q,7,none⟩ (.bool false)) w r p q ⟨sc,[],pa,[],[],hs0,false,false,false⟩ g_8 kl3.out true b4.out);refine B4.out.mono ?_;rintro e W11 ⟨rfl,g11⟩;have pp:=g11.ptr.cell;have ps:=g11.ptr_set 8;have d:W11.cell? ⟨q,8,none⟩=some (.bool false):=g11.url.cell 8;have f:=g11.url.free 8;have o:=g11.own_set 8 (by decide);go_wp2_with fail;clear pp ps d f o;have g12:Sp w r p q b s (W11.setCell ⟨q,8,none⟩ (.bool true)) k3 ⟨sc,[],pa,[],[],hs0,false,false,true⟩:=g11.put (g11.url.set8 true);have lt4:k3<s.size:=by have:=Jex b4.out (by decide);simp only [List.length_cons,List.length_nil] at this;omega
    refine (Jik b s k3 (W11.setCell ⟨q,8,none⟩ (.bool true)) w r p q ⟨sc,[],pa,[],[],hs0,false,false,true⟩ g12 hs lt4).mono ?_;rintro e W13 ⟨rfl,g13⟩;have pp:=g13.ptr.cell;go_wp2_with fail;refine (JjM b s (k3+1) W13 w r p q ⟨sc,[],pa,[],[],hs0,false,false,true⟩ g13 (by omega) fr (x4.out.trans (if_pos (by simp))).symm).mono ?_;rintro e W14 ⟨rfl,g14⟩;have pp:=g14.ptr.cell;have d:W14.cell? ⟨q,4,none⟩=some (.string ⟨([]:List UInt8).toArray⟩):=g14.url.cell 4;have f:=g14.url.free 4;have o:=g14.own_set 4 (by decide);have g15:Sp w r p q b s (W14.setCell ⟨q,4,none⟩ (.string ⟨fr.toArray⟩)) s.size ⟨sc,[],pa,[],fr,hs0,false,false,true⟩:=g14.put (g14.url.set4 fr);have u0:(W14.setCell ⟨q,4,none⟩ (.string ⟨fr.toArray⟩)).cell? ⟨q,0,none⟩=some (.string ⟨(sc:List UInt8).toArray⟩):=g15.url.cell 0;have r0:(W14.setCell ⟨q,4,none⟩ (.string ⟨fr.toArray⟩)).cell? ⟨r,0,none⟩=some (.string ⟨([]:List UInt8).toArray⟩):=g15.res.cell 0;have z0:=g15.res.free 0;have u1:(W14.setCell ⟨q,4,none⟩ (.string ⟨fr.toArray⟩)).cell? ⟨q,1,none⟩=some (.string ⟨([]:List UInt8).toArray⟩):=g15.url.cell 1;have r1:(W14.setCell ⟨q,4,none⟩ (.string ⟨fr.toArray⟩)).cell? ⟨r,1,none⟩=some (.string ⟨([]:List UInt8).toArray⟩):=g15.res.cell 1;have z1:=g15.res.free 1;have u2:(W14.setCell ⟨q,4,none⟩ (.string ⟨fr.toArray⟩)).cell? ⟨q,2,none⟩=some (.string ⟨(pa:List UInt8).toArray⟩):=g15.url.cell 2;have r2:(W14.setCell ⟨q,4,none⟩ (.string ⟨fr.toArray⟩)).cell? ⟨r,2,none⟩=some (.string ⟨([]:List UInt8).toArray⟩):=g15.res.cell 2;have z2:=g15.res.free 2;have u3:(W14.setCell ⟨q,4,none⟩ (.string ⟨fr.toArray⟩)).cell? ⟨q,3,none⟩=some (.string ⟨([]:List UInt8).toArray⟩):=g15.url.cell 3;have r3:(W14.setCell ⟨q,4,none⟩ (.string ⟨fr.toArray⟩)).cell? ⟨r,3,none⟩=some (.string ⟨([]:List UInt8).toArray⟩):=g15.res.cell 3;have z3:=g15.res.free 3;have u4:(W14.setCell ⟨q,4,none⟩ (.string ⟨fr.toArray⟩)).cell? ⟨q,4,none⟩=some (.string ⟨(fr:List UInt8).toArray⟩):=g15.url.cell 4;have r4:(W14.setCell ⟨q,4,none⟩ (.string ⟨fr.toArray⟩)).cell? ⟨r,4,none⟩=some (.string ⟨([]:List UInt8).toArray⟩):=g15.res.cell 4;have z4:=g15.res.free 4;have u5:(W14.setCell ⟨q,4,none⟩ (.string ⟨fr.toArray⟩)).cell? ⟨q,5,none⟩=some (.bool hs0):=g15.url.cell 5;have r5:(W14.setCell ⟨q,4,none⟩ (.string ⟨fr.toArray⟩)).cell? ⟨r,5,none⟩=some (.bool false):=g15.res.cell 5;have z5:=g15.res.free 5;have u6:(W14.setCell ⟨q,4,none⟩ (.string ⟨fr.toArray⟩)).cell? ⟨q,6,none⟩=some (.bool false):=g15.url.cell 6;have r6:(W14.setCell ⟨q,4,none⟩ (.string ⟨fr.toArray⟩)).cell? ⟨r,6,none⟩=some (.bool false):=g15.res.cell 6;have z6:=g15.res.free 6;have u7:(W14.setCell ⟨q,4,none⟩ (.string ⟨fr.toArray⟩)).cell? ⟨q,7,none⟩=some (.bool false):=g15.url.cell 7;have r7:(W14.setCell ⟨q,4,none⟩ (.string ⟨fr.toArray⟩)).cell? ⟨r,7,none⟩=some (.bool false):=g15.res.cell 7;have z7:=g15.res.free 7;have u8:(W14.setCell ⟨q,4,none⟩ (.string ⟨fr.toArray⟩)).cell? ⟨q,8,none⟩=some (.bool true):=g15.url.cell 8;have r8:(W14.setCell ⟨q,4,none⟩ (.string ⟨fr.toArray⟩)).cell? ⟨r,8,none⟩=some (.bool false):=g15.res.cell 8;have z8:=g15.res.free 8;go_wp2_with fail;exact Jdp rfl (((((((((g15.res.set0 sc).set1 []).set2 pa).set3 []).set4 fr).set5 hs0).set6 false).set7 false).set8 true) (HA2.out.trans (by rw [AE.out,QE.out])) (Jci g15.keeps g15.rw _ _ _ _ _ _ _ _ _)
  ·have B3:=Ja (Jbh b s k2 ⟨#[63]⟩ (W5.setCell ⟨q,2,none⟩ (.string ⟨pa.toArray⟩)) w r p q ⟨sc,[],pa,[],[],hs0,false,false,false⟩ g6 kl2.out true b3.out);refine B3.out.mono ?_;rintro e W16 ⟨rfl,g16⟩;have pp:=g16.ptr.cell;have ps:=g16.ptr_set 7;have d:W16.cell? ⟨q,7,none⟩=some (.bool false):=g16.url.cell 7;have f:=g16.url.free 7;have o:=g16.own_set 7 (by decide);go_wp2_with fail;clear pp ps d f o;have g17:Sp w r p q b s (W16.setCell ⟨q,7,none⟩ (.bool true)) k2 ⟨sc,[],pa,[],[],hs0,false,true,false⟩:=g16.put (g16.url.set7 true);have lt3:k2<s.size:=by have:=Jex b3.out (by decide);simp only [List.length_cons,List.length_nil] at this;omega
   have kk3:Hid (k2+1+qu.length=k3):=(y3.out.trans (if_pos (by simp))).symm;have kl3:Hid (k3≤s.size):=by have:=tw.out JaK (k2+1) (by omega);rw [←x3.out.trans (if_pos (by simp))] at this;rw [←kk3.out];exact this
   refine (Jik b s k2 (W16.setCell ⟨q,7,none⟩ (.bool true)) w r p q ⟨sc,[],pa,[],[],hs0,false,true,false⟩ g17 hs lt3).mono ?_;rintro e W18 ⟨rfl,g18⟩;have pp:=g18.ptr.cell;go_wp2_with fail;clear pp;refine (upS b s (k2+1) ⟨#[35]⟩ JaK Jss W18 w r p q ⟨sc,[],pa,[],[],hs0,false,true,false⟩ g18 hs (by omega) qu (x3.out.trans (if_pos (by simp))).symm).mono ?_;rintro e W19 ⟨rfl,g19⟩;have pp:=g19.ptr.cell;have ps:=g19.ptr_set 3;have d:W19.cell? ⟨q,3,none⟩=some (.string ⟨([]:List UInt8).toArray⟩):=g19.url.cell 3;have f:=g19.url.free 3;have o:=g19.own_set 3 (by decide);go_wp2_with fail;clear pp ps d f o;have g20:Sp w r p q b s (W19.setCell ⟨q,3,none⟩ (.string ⟨qu.toArray⟩)) (k2+1+qu.length) ⟨sc,[],pa,qu,[],hs0,false,true,false⟩:=g19.put (g19.url.set3 qu);have g_20:Sp w r p q b s (W19.setCell ⟨q,3,none⟩ (.string ⟨qu.toArray⟩)) k3 ⟨sc,[],pa,qu,[],hs0,false,true,false⟩:=kk3.out ▸ g20;cases hf
   ·have B4:=Ja (Jbh b s k3 ⟨#[35]⟩ (W19.setCell ⟨q,3,none⟩ (.string ⟨qu.toArray⟩)) w r p q ⟨sc,[],pa,qu,[],hs0,false,true,false⟩ g_20 kl3.out false b4.out);refine B4.out.mono ?_;rintro e W21 ⟨rfl,g21⟩;have FE:Hid (fr=[]):=x4.out.trans (if_neg (by simp));have pp:=g21.ptr.cell;have d:W21.cell? ⟨q,8,none⟩=some (.bool false):=g21.url.cell 8;have f:=g21.url.free 8;have o:=g21.own_set 8 (by decide);have g22:Sp w r p q b s (W21.setCell ⟨q,8,none⟩ (.bool false)) k3 ⟨sc,[],pa,qu,[],hs0,false,true,false⟩:=g21.put (g21.url.set8 false);have u0:(W21.setCell ⟨q,8,none⟩ (.bool false)).cell? ⟨q,0,none⟩=some (.string ⟨(sc:List UInt8).toArray⟩):=g22.url.cell 0;have r0:(W21.setCell ⟨q,8,none⟩ (.bool false)).cell? ⟨r,0,none⟩=some (.string ⟨([]:List UInt8).toArray⟩):=g22.res.cell 0;have z0:=g22.res.free 0;have u1:(W21.setCell ⟨q,8,none⟩ (.bool false)).cell? ⟨q,1,none⟩=some (.string ⟨([]:List UInt8).toArray⟩):=g22.url.cell 1;have r1:(W21.setCell ⟨q,8,none⟩ (.bool false)).cell? ⟨r,1,none⟩=some (.string ⟨([]:List UInt8).toArray⟩):=g22.res.cell 1;have z1:=g22.res.free 1;have u2:(W21.setCell ⟨q,8,none⟩ (.bool false)).cell? ⟨q,2,none⟩=some (.string ⟨(pa:List UInt8).toArray⟩):=g22.url.cell 2;have r2:(W21.setCell ⟨q,8,none⟩ (.bool false)).cell? ⟨r,2,none⟩=some (.string ⟨([]:List UInt8).toArray⟩):=g22.res.cell 2;have z2:=g22.res.free 2;have u3:(W21.setCell ⟨q,8,none⟩ (.bool false)).cell? ⟨q,3,none⟩=some (.string ⟨(qu:List UInt8).toArray⟩):=g22.url.cell 3;have r3:(W21.setCell ⟨q,8,none⟩ (.bool false)).cell? ⟨r,3,none⟩=some (.string ⟨([]:List UInt8).toArray⟩):=g22.res.cell 3;have z3:=g22.res.free 3;have u4:(W21.setCell ⟨q,8,none⟩ (.bool false)).cell? ⟨q,4,none⟩=some (.string ⟨([]:List UInt8).toArray⟩):=g22.url.cell 4;have r4:(W21.setCell ⟨q,8,none⟩ (.bool false)).cell? ⟨r,4,none⟩=some (.string ⟨([]:List UInt8).toArray⟩):=g22.res.cell 4;have z4:=g22.res.free 4;have u5:(W21.setCell ⟨q,8,none⟩ (.bool false)).cell? ⟨q,5,none⟩=some (.bool hs0):=g22.url.cell 5;have r5:(W21.setCell ⟨q,8,none⟩ (.bool false)).cell? ⟨r,5,none⟩=some (.bool false):=g22.res.cell 5;have z5:=g22.res.free 5;have u6:(W21.setCell ⟨q,8,none⟩ (.bool false)).cell? ⟨q,6,none⟩=some (.bool false):=g22.url.cell 6;have r6:(W21.setCell ⟨q,8,none⟩ (.bool false)).cell? ⟨r,6,none⟩=some (.bool false):=g22.res.cell 6;have z6:=g22.res.free 6;have u7:(W21.setCell ⟨q,8,none⟩ (.bool false)).cell? ⟨q,7,none⟩=some (.bool true):=g22.url.cell 7;have r7:(W21.setCell ⟨q,8,none⟩ (.bool false)).cell? ⟨r,7,none⟩=some (.bool false):=g22.res.cell 7;have z7:=g22.res.free 7;have u8:(W21.setCell ⟨q,8,none⟩ (.bool false)).cell? ⟨q,8,none⟩=some (.bool false):=g22.url.cell 8;have r8:(W21.setCell ⟨q,8,none⟩ (.bool false)).cell? ⟨r,8,none⟩=some (.bool false):=g22.res.cell 8;have z8:=g22.res.free 8;go_wp2_with fail;exact Jdp rfl (((((((((g22.res.set0 sc).set1 []).set2 pa).set3 qu).set4 []).set5 hs0).set6 false).set7 true).set8 false) (HA2.out.trans (by rw [AE.out,FE.out])) (Jci g22.keeps g22.rw _ _ _ _ _ _ _ _ _)
   ·have B4:=Ja (Jbh b s k3 ⟨#[35]⟩ (W19.setCell ⟨q,3,none⟩ (.string ⟨qu.toArray⟩)) w r p q ⟨sc,[],pa,qu,[],hs0,false,true,false⟩ g_20 kl3.out true b4.out);refine B4.out.mono ?_;rintro e W23 ⟨rfl,g23⟩;have pp:=g23.ptr.cell;have ps:=g23.ptr_set 8;have d:W23.cell? ⟨q,8,none⟩=some (.bool false):=g23.url.cell 8;have f:=g23.url.free 8;have o:=g23.own_set 8 (by decide);go_wp2_with fail;clear pp ps d f o;have g24:Sp w r p q b s (W23.setCell ⟨q,8,none⟩ (.bool true)) k3 ⟨sc,[],pa,qu,[],hs0,false,true,true⟩:=g23.put (g23.url.set8 true);have lt4:k3<s.size:=by have:=Jex b4.out (by decide);simp only [List.length_cons,List.length_nil] at this;omega
    refine (Jik b s k3 (W23.setCell ⟨q,8,none⟩ (.bool true)) w r p q ⟨sc,[],pa,qu,[],hs0,false,true,true⟩ g24 hs lt4).mono ?_;rintro e W25 ⟨rfl,g25⟩;have pp:=g25.ptr.cell;go_wp2_with fail;refine (JjM b s (k3+1) W25 w r p q ⟨sc,[],pa,qu,[],hs0,false,true,true⟩ g25 (by omega) fr (x4.out.trans (if_pos (by simp))).symm).mono ?_;rintro e W26 ⟨rfl,g26⟩;have pp:=g26.ptr.cell;have d:W26.cell? ⟨q,4,none⟩=some (.string ⟨([]:List UInt8).toArray⟩):=g26.url.cell 4;have f:=g26.url.free 4;have o:=g26.own_set 4 (by decide);have g27:Sp w r p q b s (W26.setCell ⟨q,4,none⟩ (.string ⟨fr.toArray⟩)) s.size ⟨sc,[],pa,qu,fr,hs0,false,true,true⟩:=g26.put (g26.url.set4 fr);have u0:(W26.setCell ⟨q,4,none⟩ (.string ⟨fr.toArray⟩)).cell? ⟨q,0,none⟩=some (.string ⟨(sc:List UInt8).toArray⟩):=g27.url.cell 0;have r0:(W26.setCell ⟨q,4,none⟩ (.string ⟨fr.toArray⟩)).cell? ⟨r,0,none⟩=some (.string ⟨([]:List UInt8).toArray⟩):=g27.res.cell 0;have z0:=g27.res.free 0;have u1:(W26.setCell ⟨q,4,none⟩ (.string ⟨fr.toArray⟩)).cell? ⟨q,1,none⟩=some (.string ⟨([]:List UInt8).toArray⟩):=g27.url.cell 1;have r1:(W26.setCell ⟨q,4,none⟩ (.string ⟨fr.toArray⟩)).cell? ⟨r,1,none⟩=some (.string ⟨([]:List UInt8).toArray⟩):=g27.res.cell 1;have z1:=g27.res.free 1;have u2:(W26.setCell ⟨q,4,none⟩ (.string ⟨fr.toArray⟩)).cell? ⟨q,2,none⟩=some (.string ⟨(pa:List UInt8).toArray⟩):=g27.url.cell 2;have r2:(W26.setCell ⟨q,4,none⟩ (.string ⟨fr.toArray⟩)).cell? ⟨r,2,none⟩=some (.string ⟨([]:List UInt8).toArray⟩):=g27.res.cell 2;have z2:=g27.res.free 2;have u3:(W26.setCell ⟨q,4,none⟩ (.string ⟨fr.toArray⟩)).cell? ⟨q,3,none⟩=some (.string ⟨(qu:List UInt8).toArray⟩):=g27.url.cell 3;have r3:(W26.setCell ⟨q,4,none⟩ (.string ⟨fr.toArray⟩)).cell? ⟨r,3,none⟩=some (.string ⟨([]:List UInt8).toArray⟩):=g27.res.cell 3;have z3:=g27.res.free 3;have u4:(W26.setCell ⟨q,4,none⟩ (.string ⟨fr.toArray⟩)).cell? ⟨q,4,none⟩=some (.string ⟨(fr:List UInt8).toArray⟩):=g27.url.cell 4;have r4:(W26.setCell ⟨q,4,none⟩ (.string ⟨fr.toArray⟩)).cell? ⟨r,4,none⟩=some (.string ⟨([]:List UInt8).toArray⟩):=g27.res.cell 4;have z4:=g27.res.free 4;have u5:(W26.setCell ⟨q,4,none⟩ (.string ⟨fr.toArray⟩)).cell? ⟨q,5,none⟩=some (.bool hs0):=g27.url.cell 5;have r5:(W26.setCell ⟨q,4,none⟩ (.string ⟨fr.toArray⟩)).cell? ⟨r,5,none⟩=some (.bool false):=g27.res.cell 5;have z5:=g27.res.free 5;have u6:(W26.setCell ⟨q,4,none⟩ (.string ⟨fr.toArray⟩)).cell? ⟨q,6,none⟩=some (.bool false):=g27.url.cell 6;have r6:(W26.setCell ⟨q,4,none⟩ (.string ⟨fr.toArray⟩)).cell? ⟨r,6,none⟩=some (.bool false):=g27.res.cell 6;have z6:=g27.res.free 6;have u7:(W26.setCell ⟨q,4,none⟩ (.string ⟨fr.toArray⟩)).cell? ⟨q,7,none⟩=some (.bool true):=g27.url.cell 7;have r7:(W26.setCell ⟨q,4,none⟩ (.string ⟨fr.toArray⟩)).cell? ⟨r,7,none⟩=some (.bool false):=g27.res.cell 7;have z7:=g27.res.free 7;have u8:(W26.setCell ⟨q,4,none⟩ (.string ⟨fr.toArray⟩)).cell? ⟨q,8,none⟩=some (.bool true):=g27.url.cell 8;have r8:(W26.setCell ⟨q,4,none⟩ (.string ⟨fr.toArray⟩)).cell? ⟨r,8,none⟩=some (.bool false):=g27.res.cell 8;have z8:=g27.res.free 8;go_wp2_with fail;exact Jdp rfl (((((((((g27.res.set0 sc).set1 []).set2 pa).set3 qu).set4 fr).set5 hs0).set6 false).set7 true).set8 true) (HA2.out.trans (by rw [AE.out])) (Jci g27.keeps g27.rw _ _ _ _ _ _ _ _ _)
 ·have B1:=Ja (Jbh b s k0 ⟨#[47,47]⟩ (W1.setCell ⟨q,5,none⟩ (.bool hs0)) w r p q ⟨sc,[],[],[],[],hs0,false,false,false⟩ g2 hk0le true b1.out);refine B1.out.mono ?_;rintro e W28 ⟨rfl,g28⟩;have pp:=g28.ptr.cell;have ps:=g28.ptr_set 6;have d:W28.cell? ⟨q,6,none⟩=some (.bool false):=g28.url.cell 6;have f:=g28.url.free 6;have o:=g28.own_set 6 (by decide);go_wp2_with fail;clear pp ps d f o;have g29:Sp w r p q b s (W28.setCell ⟨q,6,none⟩ (.bool true)) k0 ⟨sc,[],[],[],[],hs0,true,false,false⟩:=g28.put (g28.url.set6 true);have lt1:k0+2≤s.size:=by have:=Jex b1.out (by decide);simp only [List.length_cons,List.length_nil] at this;omega
  have kk1:Hid (k0+2+au.length=k1):=(y1.out.trans (if_pos (by simp))).symm;have kl1:Hid (k1≤s.size):=by have:=tw.out JfS (k0+2) (by omega);rw [←x1.out.trans (if_pos (by simp))] at this;rw [←kk1.out];exact this
  refine (toS b s k0 ⟨#[47,47]⟩ (W28.setCell ⟨q,6,none⟩ (.bool true)) w r p q ⟨sc,[],[],[],[],hs0,true,false,false⟩ g29 hs (by decide) hk0le b1.out).mono ?_;rintro e W30 ⟨rfl,g30⟩;have pp:=g30.ptr.cell;go_wp2_with fail;clear pp;refine (upS b s (k0+2) ⟨#[47,63,35]⟩ JfS JtK W30 w r p q ⟨sc,[],[],[],[],hs0,true,false,false⟩ g30 hs (by omega) au (x1.out.trans (if_pos (by simp))).symm).mono ?_;rintro e W31 ⟨rfl,g31⟩;have pp:=g31.ptr.cell;have ps:=g31.ptr_set 1;have d:W31.cell? ⟨q,1,none⟩=some (.string ⟨([]:List UInt8).toArray⟩):=g31.url.cell 1;have f:=g31.url.free 1;have o:=g31.own_set 1 (by decide);go_wp2_with fail;clear pp ps d f o;have g32:Sp w r p q b s (W31.setCell ⟨q,1,none⟩ (.string ⟨au.toArray⟩)) (k0+2+au.length) ⟨sc,au,[],[],[],hs0,true,false,false⟩:=g31.put (g31.url.set1 au);have hg32:Sp w r p q b s (W31.setCell ⟨q,1,none⟩ (.string ⟨au.toArray⟩)) k1 ⟨sc,au,[],[],[],hs0,true,false,false⟩:=kk1.out ▸ g32;refine (upS b s k1 ⟨#[63,35]⟩ Jb9 Jsr (W31.setCell ⟨q,1,none⟩ (.string ⟨au.toArray⟩)) w r p q ⟨sc,au,[],[],[],hs0,true,false,false⟩ hg32 hs kl1.out pa x2.out).mono ?_;rintro e W33 ⟨rfl,g33⟩;rw [←y2.out] at g33;have pp:=g33.ptr.cell;have ps:=g33.ptr_set 2;have d:W33.cell? ⟨q,2,none⟩=some (.string ⟨([]:List UInt8).toArray⟩):=g33.url.cell 2;have f:=g33.url.free 2;have o:=g33.own_set 2 (by decide);go_wp2_with fail;clear pp ps d f o;have g34:Sp w r p q b s (W33.setCell ⟨q,2,none⟩ (.string ⟨pa.toArray⟩)) k2 ⟨sc,au,pa,[],[],hs0,true,false,false⟩:=g33.put (g33.url.set2 pa);have kl2:Hid (k2≤s.size):=by have:=tw.out Jb9 k1 kl1.out;rw [x2.out] at this;rw [y2.out];exact this
  cases hq
  ·have B3:=Ja (Jbh b s k2 ⟨#[63]⟩ (W33.setCell ⟨q,2,none⟩ (.string ⟨pa.toArray⟩)) w r p q ⟨sc,au,pa,[],[],hs0,true,false,false⟩ g34 kl2.out false b3.out);refine B3.out.mono ?_;rintro e W35 ⟨rfl,g35⟩;have qe:qu=[]:=x3.out.trans (if_neg (by simp));have kk3:Hid (k2=k3):=(y3.out.trans (if_neg (by simp))).symm;have kl3:Hid (k3≤s.size):=by rw [←kk3.out];exact kl2.out
   have QE:=Ja qe;clear qe;have pp:=g35.ptr.cell;have ps:=g35.ptr_set 7;have d:W35.cell? ⟨q,7,none⟩=some (.bool false):=g35.url.cell 7;have f:=g35.url.free 7;have o:=g35.own_set 7 (by decide);go_wp2_with fail;clear pp ps d f o;have g36:Sp w r p q b s (W35.setCell ⟨q,7,none⟩ (.bool false)) k2 ⟨sc,au,pa,[],[],hs0,true,false,false⟩:=g35.put (g35.url.set7 false);have g_36:Sp w r p q b s (W35.setCell ⟨q,7,none⟩ (.bool false)) k3 ⟨sc,au,pa,[],[],hs0,true,false,false⟩:=kk3.out ▸ g36;cases hf
   ·have B4:=Ja (Jbh b s k3 ⟨#[35]⟩ (W35.setCell ⟨q,7,none⟩ (.bool false)) w r p q ⟨sc,au,pa,[],[],hs0,true,false,false⟩ g_36 kl3.out false b4.out);refine B4.out.mono ?_;rintro e W37 ⟨rfl,g37⟩;have FE:Hid (fr=[]):=x4.out.trans (if_neg (by simp));have pp:=g37.ptr.cell;have d:W37.cell? ⟨q,8,none⟩=some (.bool false):=g37.url.cell 8;have f:=g37.url.free 8;have o:=g37.own_set 8 (by decide);have g38:Sp w r p q b s (W37.setCell ⟨q,8,none⟩ (.bool false)) k3 ⟨sc,au,pa,[],[],hs0,true,false,false⟩:=g37.put (g37.url.set8 false);have u0:(W37.setCell ⟨q,8,none⟩ (.bool false)).cell? ⟨q,0,none⟩=some (.string ⟨(sc:List UInt8).toArray⟩):=g38.url.cell 0;have r0:(W37.setCell ⟨q,8,none⟩ (.bool false)).cell? ⟨r,0,none⟩=some (.string ⟨([]:List UInt8).toArray⟩):=g38.res.cell 0;have z0:=g38.res.free 0;have u1:(W37.setCell ⟨q,8,none⟩ (.bool false)).cell? ⟨q,1,none⟩=some (.string ⟨(au:List UInt8).toArray⟩):=g38.url.cell 1;have r1:(W37.setCell ⟨q,8,none⟩ (.bool false)).cell? ⟨r,1,none⟩=some (.string ⟨([]:List UInt8).toArray⟩):=g38.res.cell 1;have z1:=g38.res.free 1;have u2:(W37.setCell ⟨q,8,none⟩ (.bool false)).cell? ⟨q,2,none⟩=some (.string ⟨(pa:List UInt8).toArray⟩):=g38.url.cell 2;have r2:(W37.setCell ⟨q,8,none⟩ (.bool false)).cell? ⟨r,2,none⟩=some (.string ⟨([]:List UInt8).toArray⟩):=g38.res.cell 2;have z2:=g38.res.free 2;have u3:(W37.setCell ⟨q,8,none⟩ (.bool false)).cell? ⟨q,3,none⟩=some (.string ⟨([]:List UInt8).toArray⟩):=g38.url.cell 3;have r3:(W37.setCell ⟨q,8,none⟩ (.bool false)).cell? ⟨r,3,none⟩=some (.string ⟨([]:List UInt8).toArray⟩):=g38.res.cell 3;have z3:=g38.res.free 3;have u4:(W37.setCell ⟨q,8,none⟩ (.bool false)).cell? ⟨q,4,none⟩=some (.string ⟨([]:List UInt8).toArray⟩):=g38.url.cell 4;have r4:(W37.setCell ⟨q,8,none⟩ (.bool false)).cell? ⟨r,4,none⟩=some (.string ⟨([]:List UInt8).toArray⟩):=g38.res.cell 4;have z4:=g38.res.free 4;have u5:(W37.setCell ⟨q,8,none⟩ (.bool false)).cell? ⟨q,5,none⟩=some (.bool hs0):=g38.url.cell 5;have r5:(W37.setCell ⟨q,8,none⟩ (.bool false)).cell? ⟨r,5,none⟩=some (.bool false):=g38.res.cell 5;have z5:=g38.res.free 5;have u6:(W37.setCell ⟨q,8,none⟩ (.bool false)).cell? ⟨q,6,none⟩=some (.bool true):=g38.url.cell 6;have r6:(W37.setCell ⟨q,8,none⟩ (.bool false)).cell? ⟨r,6,none⟩=some (.bool false):=g38.res.cell 6;have z6:=g38.res.free 6;have u7:(W37.setCell ⟨q,8,none⟩ (.bool false)).cell? ⟨q,7,none⟩=some (.bool false):=g38.url.cell 7;have r7:(W37.setCell ⟨q,8,none⟩ (.bool false)).cell? ⟨r,7,none⟩=some (.bool false):=g38.res.cell 7;have z7:=g38.res.free 7;have u8:(W37.setCell ⟨q,8,none⟩ (.bool false)).cell? ⟨q,8,none⟩=some (.bool false):=g38.url.cell 8;have r8:(W37.setCell ⟨q,8,none⟩ (.bool false)).cell? ⟨r,8,none⟩=some (.bool false):=g38.res.cell 8;have z8:=g38.res.free 8;go_wp2_with fail;exact Jdp rfl (((((((((g38.res.set0 sc).set1 au).set2 pa).set3 []).set4 []).set5 hs0).set6 true).set7 false).set8 false) (HA2.out.trans (by rw [QE.out,FE.out])) (Jci g38.keeps g38.rw _ _ _ _ _ _ _ _ _)
   ·have B4:=Ja (Jbh b s k3 ⟨#[35]⟩ (W35.setCell ⟨q,7,none⟩ (.bool false)) w r p q ⟨sc,au,pa,[],[],hs0,true,false,false⟩ g_36 kl3.out true b4.out);refine B4.out.mono ?_;rintro e W39 ⟨rfl,g39⟩;have pp:=g39.ptr.cell;have ps:=g39.ptr_set 8;have d:W39.cell? ⟨q,8,none⟩=some (.bool false):=g39.url.cell 8;have f:=g39.url.free 8;have o:=g39.own_set 8 (by decide);go_wp2_with fail;clear pp ps d f o;have g40:Sp w r p q b s (W39.setCell ⟨q,8,none⟩ (.bool true)) k3 ⟨sc,au,pa,[],[],hs0,true,false,true⟩:=g39.put (g39.url.set8 true);have lt4:k3<s.size:=by have:=Jex b4.out (by decide);simp only [List.length_cons,List.length_nil] at this;omega
    refine (Jik b s k3 (W39.setCell ⟨q,8,none⟩ (.bool true)) w r p q ⟨sc,au,pa,[],[],hs0,true,false,true⟩ g40 hs lt4).mono ?_;rintro e W41 ⟨rfl,g41⟩;have pp:=g41.ptr.cell;go_wp2_with fail;refine (JjM b s (k3+1) W41 w r p q ⟨sc,au,pa,[],[],hs0,true,false,true⟩ g41 (by omega) fr (x4.out.trans (if_pos (by simp))).symm).mono ?_;rintro e W42 ⟨rfl,g42⟩;have pp:=g42.ptr.cell;have d:W42.cell? ⟨q,4,none⟩=some (.string ⟨([]:List UInt8).toArray⟩):=g42.url.cell 4;have f:=g42.url.free 4;have o:=g42.own_set 4 (by decide);have g43:Sp w r p q b s (W42.setCell ⟨q,4,none⟩ (.string ⟨fr.toArray⟩)) s.size ⟨sc,au,pa,[],fr,hs0,true,false,true⟩:=g42.put (g42.url.set4 fr);have u0:(W42.setCell ⟨q,4,none⟩ (.string ⟨fr.toArray⟩)).cell? ⟨q,0,none⟩=some (.string ⟨(sc:List UInt8).toArray⟩):=g43.url.cell 0;have r0:(W42.setCell ⟨q,4,none⟩ (.string ⟨fr.toArray⟩)).cell? ⟨r,0,none⟩=some (.string ⟨([]:List UInt8).toArray⟩):=g43.res.cell 0;have z0:=g43.res.free 0;have u1:(W42.setCell ⟨q,4,none⟩ (.string ⟨fr.toArray⟩)).cell? ⟨q,1,none⟩=some (.string ⟨(au:List UInt8).toArray⟩):=g43.url.cell 1;have r1:(W42.setCell ⟨q,4,none⟩ (.string ⟨fr.toArray⟩)).cell? ⟨r,1,none⟩=some (.string ⟨([]:List UInt8).toArray⟩):=g43.res.cell 1;have z1:=g43.res.free 1;have u2:(W42.setCell ⟨q,4,none⟩ (.string ⟨fr.toArray⟩)).cell? ⟨q,2,none⟩=some (.string ⟨(pa:List UInt8).toArray⟩):=g43.url.cell 2;have r2:(W42.setCell ⟨q,4,none⟩ (.string ⟨fr.toArray⟩)).cell? ⟨r,2,none⟩=some (.string ⟨([]:List UInt8).toArray⟩):=g43.res.cell 2;have z2:=g43.res.free 2;have u3:(W42.setCell ⟨q,4,none⟩ (.string ⟨fr.toArray⟩)).cell? ⟨q,3,none⟩=some (.string ⟨([]:List UInt8).toArray⟩):=g43.url.cell 3;have r3:(W42.setCell ⟨q,4,none⟩ (.string ⟨fr.toArray⟩)).cell? ⟨r,3,none⟩=some (.string ⟨([]:List UInt8).toArray⟩):=g43.res.cell 3;have z3:=g43.res.free 3;have u4:(W42.setCell ⟨q,4,none⟩ (.string ⟨fr.toArray⟩)).cell? ⟨q,4,none⟩=some (.string ⟨(fr:List UInt8).toArray⟩):=g43.url.cell 4;have r4:(W42.setCell ⟨q,4,none⟩ (.string ⟨fr.toArray⟩)).cell? ⟨r,4,none⟩=some (.string ⟨([]:List UInt8).toArray⟩):=g43.res.cell 4;have z4:=g43.res.free 4;have u5:(W42.setCell ⟨q,4,none⟩ (.string ⟨fr.toArray⟩)).cell? ⟨q,5,none⟩=some (.bool hs0):=g43.url.cell 5;have r5:(W42.setCell ⟨q,4,none⟩ (.string ⟨fr.toArray⟩)).cell? ⟨r,5,none⟩=some (.bool false):=g43.res.cell 5;have z5:=g43.res.free 5;have u6:(W42.setCell ⟨q,4,none⟩ (.string ⟨fr.toArray⟩)).cell? ⟨q,6,none⟩=some (.bool true):=g43.url.cell 6;have r6:(W42.setCell ⟨q,4,none⟩ (.string ⟨fr.toArray⟩)).cell? ⟨r,6,none⟩=some (.bool false):=g43.res.cell 6;have z6:=g43.res.free 6;have u7:(W42.setCell ⟨q,4,none⟩ (.string ⟨fr.toArray⟩)).cell? ⟨q,7,none⟩=some (.bool false):=g43.url.cell 7;have r7:(W42.setCell ⟨q,4,none⟩ (.string ⟨fr.toArray⟩)).cell? ⟨r,7,none⟩=some (.bool false):=g43.res.cell 7;have z7:=g43.res.free 7;have u8:(W42.setCell ⟨q,4,none⟩ (.string ⟨fr.toArray⟩)).cell? ⟨q,8,none⟩=some (.bool true):=g43.url.cell 8;have r8:(W42.setCell ⟨q,4,none⟩ (.string ⟨fr.toArray⟩)).cell? ⟨r,8,none⟩=some (.bool false):=g43.res.cell 8;have z8:=g43.res.free 8;go_wp2_with fail;exact Jdp rfl (((((((((g43.res.set0 sc).set1 au).set2 pa).set3 []).set4 fr).set5 hs0).set6 true).set7 false).set8 true) (HA2.out.trans (by rw [QE.out])) (Jci g43.keeps g43.rw _ _ _ _ _ _ _ _ _)
  ·have B3:=Ja (Jbh b s k2 ⟨#[63]⟩ (W33.setCell ⟨q,2,none⟩ (.string ⟨pa.toArray⟩)) w r p q ⟨sc,au,pa,[],[],hs0,true,false,false⟩ g34 kl2.out true b3.out);refine B3.out.mono ?_;rintro e W44 ⟨rfl,g44⟩;have pp:=g44.ptr.cell;have ps:=g44.ptr_set 7;have d:W44.cell? ⟨q,7,none⟩=some (.bool false):=g44.url.cell 7;have f:=g44.url.free 7;have o:=g44.own_set 7 (by decide);go_wp2_with fail;clear pp ps d f o;have g45:Sp w r p q b s (W44.setCell ⟨q,7,none⟩ (.bool true)) k2 ⟨sc,au,pa,[],[],hs0,true,true,false⟩:=g44.put (g44.url.set7 true);have lt3:k2<s.size:=by have:=Jex b3.out (by decide);simp only [List.length_cons,List.length_nil] at this;omega
   have kk3:Hid (k2+1+qu.length=k3):=(y3.out.trans (if_pos (by simp))).symm;have kl3:Hid (k3≤s.size):=by have:=tw.out JaK (k2+1) (by omega);rw [←x3.out.trans (if_pos (by simp))] at this;rw [←kk3.out];exact this
   refine (Jik b s k2 (W44.setCell ⟨q,7,none⟩ (.bool true)) w r p q ⟨sc,au,pa,[],[],hs0,true,true,false⟩ g45 hs lt3).mono ?_;rintro e W46 ⟨rfl,g46⟩;have pp:=g46.ptr.cell;go_wp2_with fail;clear pp;refine (upS b s (k2+1) ⟨#[35]⟩ JaK Jss W46 w r p q ⟨sc,au,pa,[],[],hs0,true,true,false⟩ g46 hs (by omega) qu (x3.out.trans (if_pos (by simp))).symm).mono ?_;rintro e W47 ⟨rfl,g47⟩;have pp:=g47.ptr.cell;have ps:=g47.ptr_set 3;have d:W47.cell? ⟨q,3,none⟩=some (.string ⟨([]:List UInt8).toArray⟩):=g47.url.cell 3;have f:=g47.url.free 3;have o:=g47.own_set 3 (by decide);go_wp2_with fail;clear pp ps d f o;have g48:Sp w r p q b s (W47.setCell ⟨q,3,none⟩ (.string ⟨qu.toArray⟩)) (k2+1+qu.length) ⟨sc,au,pa,qu,[],hs0,true,true,false⟩:=g47.put (g47.url.set3 qu);have g_48:Sp w r p q b s (W47.setCell ⟨q,3,none⟩ (.string ⟨qu.toArray⟩)) k3 ⟨sc,au,pa,qu,[],hs0,true,true,false⟩:=kk3.out ▸ g48;cases hf
   ·have B4:=Ja (Jbh b s k3 ⟨#[35]⟩ (W47.setCell ⟨q,3,none⟩ (.string ⟨qu.toArray⟩)) w r p q ⟨sc,au,pa,qu,[],hs0,true,true,false⟩ g_48 kl3.out false b4.out);refine B4.out.mono ?_;rintro e W49 ⟨rfl,g49⟩;have FE:Hid (fr=[]):=x4.out.trans (if_neg (by simp));have pp:=g49.ptr.cell;have d:W49.cell? ⟨q,8,none⟩=some (.bool false):=g49.url.cell 8;have f:=g49.url.free 8;have o:=g49.own_set 8 (by decide);have g50:Sp w r p q b s (W49.setCell ⟨q,8,none⟩ (.bool false)) k3 ⟨sc,au,pa,qu,[],hs0,true,true,false⟩:=g49.put (g49.url.set8 false);have u0:(W49.setCell ⟨q,8,none⟩ (.bool false)).cell? ⟨q,0,none⟩=some (.string ⟨(sc:List UInt8).toArray⟩):=g50.url.cell 0;have r0:(W49.setCell ⟨q,8,none⟩ (.bool false)).cell? ⟨r,0,none⟩=some (.string ⟨([]:List UInt8).toArray⟩):=g50.res.cell 0;have z0:=g50.res.free 0;have u1:(W49.setCell ⟨q,8,none⟩ (.bool false)).cell? ⟨q,1,none⟩=some (.string ⟨(au:List UInt8).toArray⟩):=g50.url.cell 1;have r1:(W49.setCell ⟨q,8,none⟩ (.bool false)).cell? ⟨r,1,none⟩=some (.string ⟨([]:List UInt8).toArray⟩):=g50.res.cell 1;have z1:=g50.res.free 1;have u2:(W49.setCell ⟨q,8,none⟩ (.bool false)).cell? ⟨q,2,none⟩=some (.string ⟨(pa:List UInt8).toArray⟩):=g50.url.cell 2;have r2:(W49.setCell ⟨q,8,none⟩ (.bool false)).cell? ⟨r,2,none⟩=some (.string ⟨([]:List UInt8).toArray⟩):=g50.res.cell 2;have z2:=g50.res.free 2;have u3:(W49.setCell ⟨q,8,none⟩ (.bool false)).cell? ⟨q,3,none⟩=some (.string ⟨(qu:List UInt8).toArray⟩):=g50.url.cell 3;have r3:(W49.setCell ⟨q,8,none⟩ (.bool false)).cell? ⟨r,3,none⟩=some (.string ⟨([]:List UInt8).toArray⟩):=g50.res.cell 3;have z3:=g50.res.free 3;have u4:(W49.setCell ⟨q,8,none⟩ (.bool false)).cell? ⟨q,4,none⟩=some (.string ⟨([]:List UInt8).toArray⟩):=g50.url.cell 4;have r4:(W49.setCell ⟨q,8,none⟩ (.bool false)).cell? ⟨r,4,none⟩=some (.string ⟨([]:List UInt8).toArray⟩):=g50.res.cell 4;have z4:=g50.res.free 4;have u5:(W49.setCell ⟨q,8,none⟩ (.bool false)).cell? ⟨q,5,none⟩=some (.bool hs0):=g50.url.cell 5;have r5:(W49.setCell ⟨q,8,none⟩ (.bool false)).cell? ⟨r,5,none⟩=some (.bool false):=g50.res.cell 5;have z5:=g50.res.free 5;have u6:(W49.setCell ⟨q,8,none⟩ (.bool false)).cell? ⟨q,6,none⟩=some (.bool true):=g50.url.cell 6;have r6:(W49.setCell ⟨q,8,none⟩ (.bool false)).cell? ⟨r,6,none⟩=some (.bool false):=g50.res.cell 6;have z6:=g50.res.free 6;have u7:(W49.setCell ⟨q,8,none⟩ (.bool false)).cell? ⟨q,7,none⟩=some (.bool true):=g50.url.cell 7;have r7:(W49.setCell ⟨q,8,none⟩ (.bool false)).cell? ⟨r,7,none⟩=some (.bool false):=g50.res.cell 7;have z7:=g50.res.free 7;have u8:(W49.setCell ⟨q,8,none⟩ (.bool false)).cell? ⟨q,8,none⟩=some (.bool false):=g50.url.cell 8;have r8:(W49.setCell ⟨q,8,none⟩ (.bool false)).cell? ⟨r,8,none⟩=some (.bool false):=g50.res.cell 8;have z8:=g50.res.free 8;go_wp2_with fail;exact Jdp rfl (((((((((g50.res.set0 sc).set1 au).set2 pa).set3 qu).set4 []).set5 hs0).set6 true).set7 true).set8 false) (HA2.out.trans (by rw [FE.out])) (Jci g50.keeps g50.rw _ _ _ _ _ _ _ _ _)
   ·have B4:=Ja (Jbh b s k3 ⟨#[35]⟩ (W47.setCell ⟨q,3,none⟩ (.string ⟨qu.toArray⟩)) w r p q ⟨sc,au,pa,qu,[],hs0,true,true,false⟩ g_48 kl3.out true b4.out);refine B4.out.mono ?_;rintro e W51 ⟨rfl,g51⟩;have pp:=g51.ptr.cell;have ps:=g51.ptr_set 8;have d:W51.cell? ⟨q,8,none⟩=some (.bool false):=g51.url.cell 8;have f:=g51.url.free 8;have o:=g51.own_set 8 (by decide);go_wp2_with fail;clear pp ps d f o;have g52:Sp w r p q b s (W51.setCell ⟨q,8,none⟩ (.bool true)) k3 ⟨sc,au,pa,qu,[],hs0,true,true,true⟩:=g51.put (g51.url.set8 true);have lt4:k3<s.size:=by have:=Jex b4.out (by decide);simp only [List.length_cons,List.length_nil] at this;omega
    refine (Jik b s k3 (W51.setCell ⟨q,8,none⟩ (.bool true)) w r p q ⟨sc,au,pa,qu,[],hs0,true,true,true⟩ g52 hs lt4).mono ?_;rintro e W53 ⟨rfl,g53⟩;have pp:=g53.ptr.cell;go_wp2_with fail;refine (JjM b s (k3+1) W53 w r p q ⟨sc,au,pa,qu,[],hs0,true,true,true⟩ g53 (by omega) fr (x4.out.trans (if_pos (by simp))).symm).mono ?_;rintro e W54 ⟨rfl,g54⟩;have pp:=g54.ptr.cell;have d:W54.cell? ⟨q,4,none⟩=some (.string ⟨([]:List UInt8).toArray⟩):=g54.url.cell 4;have f:=g54.url.free 4;have o:=g54.own_set 4 (by decide);have g55:Sp w r p q b s (W54.setCell ⟨q,4,none⟩ (.string ⟨fr.toArray⟩)) s.size ⟨sc,au,pa,qu,fr,hs0,true,true,true⟩:=g54.put (g54.url.set4 fr);have u0:(W54.setCell ⟨q,4,none⟩ (.string ⟨fr.toArray⟩)).cell? ⟨q,0,none⟩=some (.string ⟨(sc:List UInt8).toArray⟩):=g55.url.cell 0;have r0:(W54.setCell ⟨q,4,none⟩ (.string ⟨fr.toArray⟩)).cell? ⟨r,0,none⟩=some (.string ⟨([]:List UInt8).toArray⟩):=g55.res.cell 0;have z0:=g55.res.free 0;have u1:(W54.setCell ⟨q,4,none⟩ (.string ⟨fr.toArray⟩)).cell? ⟨q,1,none⟩=some (.string ⟨(au:List UInt8).toArray⟩):=g55.url.cell 1;have r1:(W54.setCell ⟨q,4,none⟩ (.string ⟨fr.toArray⟩)).cell? ⟨r,1,none⟩=some (.string ⟨([]:List UInt8).toArray⟩):=g55.res.cell 1;have z1:=g55.res.free 1;have u2:(W54.setCell ⟨q,4,none⟩ (.string ⟨fr.toArray⟩)).cell? ⟨q,2,none⟩=some (.string ⟨(pa:List UInt8).toArray⟩):=g55.url.cell 2;have r2:(W54.setCell ⟨q,4,none⟩ (.string ⟨fr.toArray⟩)).cell? ⟨r,2,none⟩=some (.string ⟨([]:List UInt8).toArray⟩):=g55.res.cell 2;have z2:=g55.res.free 2;have u3:(W54.setCell ⟨q,4,none⟩ (.string ⟨fr.toArray⟩)).cell? ⟨q,3,none⟩=some (.string ⟨(qu:List UInt8).toArray⟩):=g55.url.cell 3;have r3:(W54.setCell ⟨q,4,none⟩ (.string ⟨fr.toArray⟩)).cell? ⟨r,3,none⟩=some (.string ⟨([]:List UInt8).toArray⟩):=g55.res.cell 3;have z3:=g55.res.free 3;have u4:(W54.setCell ⟨q,4,none⟩ (.string ⟨fr.toArray⟩)).cell? ⟨q,4,none⟩=some (.string ⟨(fr:List UInt8).toArray⟩):=g55.url.cell 4;have r4:(W54.setCell ⟨q,4,none⟩ (.string ⟨fr.toArray⟩)).cell? ⟨r,4,none⟩=some (.string ⟨([]:List UInt8).toArray⟩):=g55.res.cell 4;have z4:=g55.res.free 4;have u5:(W54.setCell ⟨q,4,none⟩ (.string ⟨fr.toArray⟩)).cell? ⟨q,5,none⟩=some (.bool hs0):=g55.url.cell 5;have r5:(W54.setCell ⟨q,4,none⟩ (.string ⟨fr.toArray⟩)).cell? ⟨r,5,none⟩=some (.bool false):=g55.res.cell 5;have z5:=g55.res.free 5;have u6:(W54.setCell ⟨q,4,none⟩ (.string ⟨fr.toArray⟩)).cell? ⟨q,6,none⟩=some (.bool true):=g55.url.cell 6;have r6:(W54.setCell ⟨q,4,none⟩ (.string ⟨fr.toArray⟩)).cell? ⟨r,6,none⟩=some (.bool false):=g55.res.cell 6;have z6:=g55.res.free 6;have u7:(W54.setCell ⟨q,4,none⟩ (.string ⟨fr.toArray⟩)).cell? ⟨q,7,none⟩=some (.bool true):=g55.url.cell 7;have r7:(W54.setCell ⟨q,4,none⟩ (.string ⟨fr.toArray⟩)).cell? ⟨r,7,none⟩=some (.bool false):=g55.res.cell 7;have z7:=g55.res.free 7;have u8:(W54.setCell ⟨q,4,none⟩ (.string ⟨fr.toArray⟩)).cell? ⟨q,8,none⟩=some (.bool true):=g55.url.cell 8;have r8:(W54.setCell ⟨q,4,none⟩ (.string ⟨fr.toArray⟩)).cell? ⟨r,8,none⟩=some (.bool false):=g55.res.cell 8;have z8:=g55.res.free 8;go_wp2_with fail;exact Jdp rfl (((((((((g55.res.set0 sc).set1 au).set2 pa).set3 qu).set4 fr).set5 hs0).set6 true).set7 true).set8 true) HA2.out (Jci g55.keeps g55.rw _ _ _ _ _ _ _ _ _)
theorem Jq1 (w:World):XJ w.heap.size w.heap.size [] (w.alloc (.cells #[.pointer none,.slice none 0 0] 134)):=
 .inl ⟨Nat.le_refl _,.slice none 0 0,heap_alloc_new _ _,⟨rfl,.inl ⟨rfl,rfl⟩⟩,by simp [Value.ownBlock]⟩
theorem J4.url {B b:Nat} {w w':World} {q:Nat} {u:QH} (h:J4 B b w w') (hU:JN w q u) (hq:q<B) (hb:q≠b):JN w' q u:=by
 rw [JN,h.block q hU.lt hb (.inl hq)];exact hU
def JcS (l:List UInt8) (i:Int):Prop:=(i= -1∧ ∀ d∈l,d≠47)∨ ∃ k:Nat,i=k∧ ∃ h:k<l.length,l[k]=47∧ ∀ j (hj:j<l.length),k<j→l[j]≠47
theorem JcS.split {l:List UInt8} {k:Nat} (h:k<l.length) (h1:l[k]=47) (h2: ∀ j (hj:j<l.length),k<j→l[j]≠47):l=l.take k++47::l.drop (k+1)∧ ∀ d∈l.drop (k+1),d≠47:=by
 refine ⟨?_,?_⟩
 ·rw [←h1,List.getElem_cons_drop,List.take_append_drop]
 ·intro d hd;obtain ⟨j,hj,rfl⟩:=List.getElem_of_mem hd;rw [List.getElem_drop];exact h2 _ _ (by omega)
theorem JcS.cut {l:List UInt8} {i:Int} (h:JcS l i):Zd l=l.take (max i 0).toNat∧(max i 0).toNat≤l.length:=by
 rcases h with ⟨rfl,hn⟩ | ⟨k,rfl,hk,h1,h2⟩
 ·rw [Je8 l hn];exact ⟨rfl,Nat.zero_le _⟩
 ·obtain ⟨e,hn⟩:=JcS.split hk h1 h2;have:Zd l=l.take k:=by
   conv=>lhs;rw [e]
   exact Jhh _ _ hn
  rw [this];have e2:(max (k:Int) 0).toNat=k:=by omega
  rw [e2];exact ⟨rfl,by omega⟩
theorem JcS.up {l:List UInt8} {i:Int} (h:JcS l i):JgX l=l.take (i+1).toNat∧ -1≤i∧i<l.length:=by
 rcases h with ⟨rfl,hn⟩ | ⟨k,rfl,hk,h1,h2⟩
 ·rw [JqO l hn];simp;omega
 ·obtain ⟨e,hn⟩:=JcS.split hk h1 h2;have:JgX l=l.take (k+1):=by
   conv=>lhs;rw [e]
   rw [Js9 _ _ hn,List.take_succ_eq_append_getElem hk,h1]
  rw [this];have e2:((k:Int)+1).toNat=k+1:=by omega
  rw [e2];exact ⟨rfl,by omega,by omega⟩
theorem YA.free {w:World} {p:Nat} {x:ByteArray} (h:YA w p x):w.frozen? ⟨p,0,none⟩=false:=by
 simp [World.frozen?,YA] at h ⊢;simp [h]
theorem YA.set {w:World} {p:Nat} {x:ByteArray} (h:YA w p x) (y:ByteArray):YA (w.setCell ⟨p,0,none⟩ (.string y)) p y:=by
 simp [World.setCell,YA,Array.getElem?_modify] at h ⊢;simp [h]
structure Do (w:World) (N:Nat) (R:List UInt8) (v:Value) (W:World) (X:ByteArray) (o:List UInt8):Prop where
 str:YA W w.heap.size X
 row:W.ownsRow (w.heap.size+1) 5 1 v o.length (Lib.byteCells o)
 left:Jdn X.data.toList o=R
 len:X.size+o.length≤N
 keeps:Jb [] w W
theorem Do.ne {w:World} {N:Nat} {R:List UInt8} {v:Value} {W:World} {X:ByteArray} {o:List UInt8} (h:Do w N R v W X o):v.ownBlock≠some w.heap.size:=by
 intro e;have:=(h.row.lt _ e).1;omega
theorem Do.next {w:World} {N:Nat} {R:List UInt8} {v:Value} {W:World} {X:ByteArray} {o:List UInt8} (h:Do w N R v W X o) (hne:X.data.toList≠[]) (Y:ByteArray) (o':List UInt8) (v':Value) (W':World)
  (hs:X1 X.data.toList o=(Y.data.toList,o')) (hS:YA W' w.heap.size Y) (hr:W'.ownsRow (w.heap.size+1) 5 1 v' o'.length (Lib.byteCells o')) (hk:Jb [] w W'):Do w N R v' W' Y o':=by
 have h1:=JcE X.data.toList o hne;have h2:=Jbm X.data.toList o hne;have h3:=h.len;have h4:=Js X;have h5:=Js Y;rw [hs] at h1 h2;simp only at h1 h2;exact ⟨hS,hr,h1.symm.trans h.left,by omega,hk⟩
structure Rs (w:World) (x y r:Nat) (b:QH) (W:World) (u:QH):Prop where
 base:JN W x b
 url:JN W y u
 res:JN W r Jb6
 keeps:Jb [] w W
 xw:w.heap.size≤x
 yw:w.heap.size≤y
 rw:w.heap.size≤r
 ne1:x≠y
 ne2:y≠r
 ne3:x≠r
theorem Rs.move {w:World} {x y r:Nat} {b:QH} {W W':World} {u:QH} (h:Rs w x y r b W u) (hk:Jb [] W W'):Rs w x y r b W' u:=
 ⟨h.base.keeps hk (by simp),h.url.keeps hk (by simp),h.res.keeps hk (by simp),h.keeps.trans hk,h.xw,h.yw,h.rw,h.ne1,h.ne2,h.ne3⟩
theorem Rs.put {w:World} {x y r:Nat} {b:QH} {W:World} {u u':QH} (h:Rs w x y r b W u) {j:Nat} {v:Value} (hU:JN (W.setCell ⟨y,j,none⟩ v) y u'):Rs w x y r b (W.setCell ⟨y,j,none⟩ v) u':=by
 have hk:Jb [y] W (W.setCell ⟨y,j,none⟩ v):=(Jb.refl [y] W).setCell (p:=⟨y,j,none⟩) (by simp) v;exact ⟨h.base.keeps hk (by simpa using h.ne1),hU,h.res.keeps hk (by simpa using h.ne2.symm),h.keeps.setCell (.inr h.yw) v,h.xw,h.yw,h.rw,h.ne1,h.ne2,h.ne3⟩
theorem Jb.off {S:List Nat} {w w':World} (h:Jb S w.drew w'):Jb S w w':=⟨h.os,h.tape,h.output,h.size,h.block⟩
theorem JqB (l:List UInt8):(QX l).scheme.length≤l.length∧(QX l).authority.length≤l.length∧(QX l).path.length≤l.length∧(QX l).query.length≤l.length∧(QX l).fragment.length≤l.length:=by
 have tw: ∀ (f:UInt8→Bool) (k:Nat),((l.drop k).takeWhile f).length≤l.length:=fun f k=>by
  have h1:((l.drop k).takeWhile f).length≤(l.drop k).length:=(List.takeWhile_sublist _).length_le;rw [List.length_drop] at h1;omega
 refine ⟨?_,?_,?_,?_,?_⟩
 ·show ((J8 l).getD []).length≤_;unfold J8;split
  ·have:=tw Yh 0;simpa using this
  ·simp
 ·show (auL l).length≤_;unfold auL;split
  ·exact tw _ _
  ·simp
 ·exact tw _ _
 ·show (quL l).length≤_;unfold quL;split
  ·exact tw _ _
  ·simp
 ·show (frL l).length≤_;unfold frL;split
  ·rw [List.length_drop];omega
  ·simp
theorem JiN:Jy 226:=JC Tryz.func226 (by kernel_rfl) (by kernel_rfl)
theorem JoZ:Jy 227:=JC Tryz.func227 (by kernel_rfl) (by kernel_rfl)
def gtB (c:UInt8):Bool:=decide (32<c.toNat)
def leB (c:UInt8):Bool:=decide (c.toNat≤32)
theorem Jpm (c:UInt8) (w:World):Calls Tryz.prog 226 #[.int .u8 c.toNat] w fun e w'=>e=.returned (.bool (gtB c))∧w'=w:=by
 unfold gtB;go_enter Tryz.func226,Tryz.ntmps226
 go_wp2
 go_ret;refine ⟨Qv ?_,rfl⟩;rw [Bool.eq_iff_iff];simp;omega
theorem Jtr (c:UInt8) (w:World):Calls Tryz.prog 227 #[.int .u8 c.toNat] w fun e w'=>e=.returned (.bool (leB c))∧w'=w:=by
 unfold leB;go_enter Tryz.func227,Tryz.ntmps227
 go_wp2
 go_ret;refine ⟨Qv ?_,rfl⟩;rw [Bool.eq_iff_iff];simp;omega
theorem JjX (x y:List UInt8):Xj (x++y)=Xj x++Xj y:=by simp [Xj]
theorem Jl2 (f:UInt8→Bool) (l:List UInt8): ∀ d∈l.takeWhile f,f d=true:=fun d hd=>List.all_eq_true.1 (List.all_takeWhile (p:=f) (l:=l)) d hd
theorem Jog (l:List UInt8) (k:Nat):Xj (l.take (k+((l.drop k).takeWhile gtB).length+((l.drop (k+((l.drop k).takeWhile gtB).length)).takeWhile leB).length))=Xj (l.take k)++(l.drop k).takeWhile gtB:=by
 have tk: ∀ (f:UInt8→Bool) (k:Nat),l.take (k+((l.drop k).takeWhile f).length)=l.take k++(l.drop k).takeWhile f:=fun f k=>by
  rw [List.take_add]
  congr 1
  exact (List.prefix_iff_eq_take.1 (List.takeWhile_prefix _)).symm
 rw [tk leB,tk gtB,JjX,JjX];have e1:Xj ((l.drop k).takeWhile gtB)=(l.drop k).takeWhile gtB:=by
  unfold Xj;exact List.filter_eq_self.2 (Jl2 gtB (l.drop k))
 have e2:Xj ((l.drop (k+((l.drop k).takeWhile gtB).length)).takeWhile leB)=[]:=by
  unfold Xj;refine List.filter_eq_nil_iff.2 fun d hd=>?_;have:=Jl2 leB _ d hd;simp [leB] at this ⊢;exact this
 rw [e1,e2,List.append_nil]
theorem Jof (l:List UInt8) (k:Nat) (h:k<l.length):k<k+((l.drop k).takeWhile gtB).length+((l.drop (k+((l.drop k).takeWhile gtB).length)).takeWhile leB).length:=by
 cases hg:gtB l[k]
 ·have e1:(l.drop k).takeWhile gtB=[]:=by rw [List.drop_eq_getElem_cons h,List.takeWhile_cons,hg];rfl
  have hl:leB l[k]=true:=by simp [gtB] at hg;simpa [leB] using hg
  have e2:0<((l.drop k).takeWhile leB).length:=by rw [List.drop_eq_getElem_cons h,List.takeWhile_cons,hl];exact Nat.succ_pos _
  rw [e1,List.length_nil,Nat.add_zero];omega
 ·have e1:0<((l.drop k).takeWhile gtB).length:=by rw [List.drop_eq_getElem_cons h,List.takeWhile_cons,hg];exact Nat.succ_pos _
  omega
theorem JbK (l:List UInt8):(Xj l).length≤l.length:=List.length_filter_le _ _
theorem XJ.keepsT {B d b:Nat} {l:List UInt8} {w w':World} (h:XJ B d l w) (hk:Jb [b] w w') (hb:b<B):XJ B d l w':=by
 rcases h with ⟨hB,v,hb',ho,hne⟩ | ⟨hB,v,hb',ho,hne⟩
 ·exact .inl ⟨hB,v,by rw [hk.block d (lt_of_block hb') (by simp;omega)];exact hb',hk.owns ho (fun g hg=>by have:=(ho.lt g hg).1;simp;omega),hne⟩
 ·exact .inr ⟨hB,v,by rw [hk.block d (lt_of_block hb') (by simp;omega)];exact hb',hk.owns ho (fun g hg=>by have:=(ho.lt g hg).1;simp;omega),hne⟩
theorem J4.text {B d:Nat} {w w':World} {b:Nat} {s:ByteArray} {k:Nat} (h:J4 B d w w') (hT:Jf w b s k) (hb:b<B) (hd:b≠d):Jf w' b s k:=by
 rw [Jf,h.block b hT.lt hd (.inl hb)];exact hT
set_option maxRecDepth 4000 in
theorem Jq0 (s:ByteArray) (w:World) (hs:s.size≤3000):
  Calls Tryz.prog 150 #[.string s] w fun e w'=>e=.returned (.string ⟨(Xj s.data.toList).toArray⟩)∧Jb [] w w':=by
 have p1:=Ja (fun k (w:World) hT hk=>Zg 226 gtB JiN Jpm w.heap.size s k w hs hT hk);have P1:=Ja (fun b k (w:World) hT hk=>Zg 226 gtB JiN Jpm b s k w hs hT hk);have P2:=Ja (fun b k (w:World) hT hk=>Zg 227 leB JoZ Jtr b s k w hs hT hk);clear p1;have hln:=Js s;go_enter Tryz.func150,Tryz.ntmps150;go_wp2_with fail;refine (JfX s _).mono ?_;rintro e w1 ⟨rfl,rfl⟩;go_wp2_with fail;have hT0:Jf ((w.alloc (.cells #[.string s,.int .i64 0] 181)).alloc (.cells #[.pointer none,.slice none 0 0] 134)) w.heap.size s 0:=by
  unfold Jf;rw [Below.heap_alloc _ _ _ (by simp)];exact heap_alloc_new _ _
 have hB0:XJ (w.heap.size+1) (w.heap.size+1) [] ((w.alloc (.cells #[.string s,.int .i64 0] 181)).alloc (.cells #[.pointer none,.slice none 0 0] 134)):=by
  have:=Jq1 (w.alloc (.cells #[.string s,.int .i64 0] 181));rw [show (w.alloc (.cells #[.string s,.int .i64 0] 181)).heap.size=w.heap.size+1 from by simp] at this;exact this
 have hK0:Jb [] w ((w.alloc (.cells #[.string s,.int .i64 0] 181)).alloc (.cells #[.pointer none,.slice none 0 0] 134)):=((Jb.refl [] w).alloc _).alloc _;have hZ0:w.heap.size+1≤((w.alloc (.cells #[.string s,.int .i64 0] 181)).alloc (.cells #[.pointer none,.slice none 0 0] 134)).heap.size:=by simp
 go_loopw [9] (fun _ wr=> ∃ k:Nat,k≤s.size∧Jf wr w.heap.size s k∧XJ (w.heap.size+1) (w.heap.size+1) (Xj (s.data.toList.take k)) wr∧Jb [] w wr∧w.heap.size+1≤wr.heap.size) (fun _ wr=>s.size - (intOf ((wr.cell? ⟨w.heap.size,1,none⟩).getD undef)).toNat)
 case atStart=>exact ⟨0,Nat.zero_le _,hT0,by simpa [Xj] using hB0,hK0,hZ0⟩
 case round=>
  obtain ⟨k,hk,hT,hB,hK,hZ⟩:=hrel;clear hT0 hB0 hK0 hZ0;have c1:=hT.cell1;by_cases hlt:k<s.size
  ·have hd:decide (s.size≤k)=false:=by simp;omega
   have HS:=Ja (Jog s.data.toList k);have HM:=Ja (Jof s.data.toList k (by rw [hln];exact hlt));have l1:=Xa gtB s k hk;have hbl:(Xj (s.data.toList.take k)).length≤3000:=by
    have h1:=JbK (s.data.toList.take k);have h2:(s.data.toList.take k).length≤s.data.toList.length:=(List.take_sublist _ _).length_le;omega
   go_wp2_with fail;refine (YN _ s k _ hT).mono ?_;rintro e w2 ⟨rfl,n2,rfl⟩;rw [hd];have hT2:Jf (wr.drewN n2) w.heap.size s k:=hT;go_wp2_with fail;refine (P1.out _ k _ hT2 hk).mono ?_;rintro e w3 ⟨rfl,hT3,hk3⟩;have hB3:=hB.keepsT (Zf hk3) (by omega);have hK3:Jb [] w w3:=(hK.mono (T:=[w.heap.size]) (by simp)).trans (Zf hk3) |>.mono (fun i hi hlt=>by simp at hi;omega);have hz3:=hk3.size;have l2:=Xa leB s (k+((s.data.toList.drop k).takeWhile gtB).length) l1;generalize hG:(s.data.toList.drop k).takeWhile gtB=G at *;clear hG;go_wp2_with fail;refine (Jah (w.heap.size+1) (w.heap.size+1) _ G _ hB3 (by omega) (by simp at hz3;omega)).mono ?_;rintro e w4 ⟨rfl,hB4,hk4⟩;have hT4:=hk4.text hT3 (by omega) (by omega);have hK4:Jb [] w w4:=J4.nil hK3 hk4 (by omega) (Nat.le_refl _);have hz4:=hk4.size;go_wp2_with fail;refine (P2.out _ _ _ hT4 l1).mono ?_;rintro e w5 ⟨rfl,hT5,hk5⟩;have hB5:=hB4.keepsT hk5 (by omega);rw [←HS.out] at hB5;have hK5:Jb [] w w5:=(hK4.mono (T:=[w.heap.size]) (by simp)).trans hk5 |>.mono (fun i hi hlt=>by simp at hi;omega);have hz5:=hk5.size;go_wp2_with fail;go_roundw
   case rel=>exact ⟨_,l2,hT5,hB5,hK5,by simp at hz3;omega⟩
   case measure=>
    have h5:=hT5.cell1;rw [h5,c1];simp only [intOf,Option.getD_some];have:=HM.out;omega
  ·have hd:decide (s.size≤k)=true:=by simp;omega
   have he:s.data.toList.take k=s.data.toList:=List.take_of_length_le (by rw [hln];omega);rw [he] at hB;obtain ⟨A,hA⟩: ∃ A,Xj s.data.toList=A:=⟨_,rfl⟩;rw [hA] at hB;have HA:=Ja hA;clear hA he;go_wp2_with fail;refine (YN _ s k _ hT).mono ?_;rintro e w2 ⟨rfl,n2,rfl⟩;rw [hd];have hB2:XJ (w.heap.size+1) (w.heap.size+1) A (wr.drewN n2):=hB;go_wp2_with fail;refine (Tryz.Builder_String_any _ _ A _ hB2 (by simpa using hZ)).mono ?_;rintro e w3 ⟨rfl,hb3⟩;have hK3:Jb [] w w3:=by
    have h6:Below w.heap.size wr w3:=⟨hb3.os,hb3.tape,hb3.output,hb3.size,fun k hk=>hb3.block k (by omega)⟩;exact ⟨h6.os.trans hK.os,h6.tape.trans hK.tape,h6.output.trans hK.output,Nat.le_trans hK.size h6.size,fun k hk _=>(h6.block k hk).trans (hK.block k hk List.not_mem_nil)⟩
   go_wp2_with fail;go_ret;exact ⟨by rw [HA.out];simp,hK3⟩
theorem Jqq (s:ByteArray) (w:World) (hm:s.size≤maxLen) (h:3000<s.size):
  Calls Tryz.prog 75 #[.string s] w fun e w'=>e=.returned (.tuple #[.bool false,.int .i64 2])∧w'=w:=by
 unfold maxLen at hm;have hd:decide ((3000:Int)<(s.size:Int))=true:=by simp;omega
 go_enter Tryz.func75,Tryz.ntmps75;go_wp2_with fail
 go_ret2
 exact ⟨rfl,rfl⟩
theorem Jtl (u:QH) (w:World):(Instr.field 99 (.agg #[.string ⟨u.scheme.toArray⟩,.string ⟨u.authority.toArray⟩,.string ⟨u.path.toArray⟩,.string ⟨u.query.toArray⟩,.string ⟨u.fragment.toArray⟩,.bool u.hs,.bool u.ha,.bool u.hq,.bool u.hf]) 0).run Tryz.prog w=.ok (.string ⟨u.scheme.toArray⟩) w:=by
 kernel_rfl
set_option maxRecDepth 4000 in
theorem JkJ (s:ByteArray) (w:World) (hs:s.size≤3000) (hM:JW w):
  Calls Tryz.prog 75 #[.string s] w fun e w'=>e=.returned (.tuple #[.bool (Yd s.data.toList),.int .i64 0])∧Jb [] w w':=by
 have hd:decide ((3000:Int)<(s.size:Int))=false:=by simp;omega
 have hb:=Ja (Jq0 s w hs);have hbl:=JbK s.data.toList;rw [Js] at hbl;have hsp:=Ja (fun w hM=>JqA ⟨(Xj s.data.toList).toArray⟩ w (by rw [Jv];omega) hM);rw [Qc] at hsp;have hsl:=JqB (Xj s.data.toList);have hlo:=Ja (fun w=>Jfs ⟨(QX (Xj s.data.toList)).scheme.toArray⟩ w (by rw [Jv];omega));rw [Qc] at hlo;have HS:Hid (Yd s.data.toList=okS (Jx (QX (Xj s.data.toList)).scheme)):=rfl;obtain ⟨A,hA⟩: ∃ A,Yd s.data.toList=A:=⟨_,rfl⟩;rw [hA] at HS ⊢;clear hA hbl hsl;generalize Xj s.data.toList=B at *;generalize QX B=u at *;generalize Jx u.scheme=L at *;unfold Jsh JbZ at hsp;have hfd:=Jtl u;have q1: ∀ l:List UInt8,((⟨L.toArray⟩:ByteArray).toList==l)=(L==l):=fun l=>by rw [ByteArray.toList_eq]
 have HQ:Hid (A=(L==[104,116,116,112] || L==[104,116,116,112,115] || L==[109,97,105,108,116,111])):=HS.out;cases h1:(L==[104,116,116,112])<;>cases h2:(L==[104,116,116,112,115])<;>cases h3:(L==[109,97,105,108,116,111])
 all_goals
  rw [h1,h2,h3] at HQ;have p1:=(q1 [104,116,116,112]).trans h1;have p2:=(q1 [104,116,116,112,115]).trans h2;have p3:=(q1 [109,97,105,108,116,111]).trans h3;clear q1 HS;go_enter Tryz.func75,Tryz.ntmps75;go_wp2_with fail;refine hb.out.mono ?_;rintro e w1 ⟨rfl,hk1⟩;go_wp2_with fail;refine (hsp.out _ (hM.keeps hk1 (by simp))).mono ?_;rintro e w2 ⟨rfl,hk2⟩;go_wp2_with fail;refine (hlo.out _).mono ?_;rintro e w3 ⟨rfl,hk3⟩;go_wp2_with fail
  go_ret2
  exact ⟨by rw [HQ.out];rfl,(hk1.trans hk2).trans hk3⟩
end Go.Proofs.YtlcljanibjdejaaGreat
namespace Go.Proofs.YtlcljanibjdejaaGreat
open Go.RowKit Go.Maps
theorem JjV (el:List UInt8) (a:Jw) (w:World) (hM:JW w) (hv:a.2.length≤maxLen):
  Calls Tryz.prog 173 #[.string ⟨el.toArray⟩,.agg #[.string ⟨a.1.toArray⟩,.string ⟨a.2.toArray⟩]] w fun e w'=>
   (YB el a=0∧e=.returned (.tuple #[])∨YB el a≠0∧e=.panicked (X4 (YB el a)))∧Jb [] w w':=by
 obtain ⟨n,v⟩:=a;simp only at hv;have hkA:Jb [] w (w.alloc (.cells #[.string ⟨n.toArray⟩,.string ⟨v.toArray⟩] 52)):=(Jb.refl [] w).alloc _;have hA:=heap_alloc_new w (.cells #[.string ⟨n.toArray⟩,.string ⟨v.toArray⟩] 52);have c0:(w.alloc (.cells #[.string ⟨n.toArray⟩,.string ⟨v.toArray⟩] 52)).cell? ⟨w.heap.size,0,none⟩=some (.string ⟨n.toArray⟩):=Jd hA 0;have c1:(w.alloc (.cells #[.string ⟨n.toArray⟩,.string ⟨v.toArray⟩] 52)).cell? ⟨w.heap.size,1,none⟩=some (.string ⟨v.toArray⟩):=Jd hA 1;have hM1:=hM.keeps hkA List.not_mem_nil;have ha:=Ja (fun w=>Jf2 el n w);have hl:=Ja (fun w=>Jm0 n w);unfold YB;simp only;cases h1:Yv el n
 ·rw [if_pos rfl];rw [h1] at ha;go_enter Tryz.func173,Tryz.ntmps173;go_wp2_with fail;refine (ha.out _).mono ?_;rintro e w1 ⟨rfl,h9⟩;subst h9;go_wp2_with fail;refine (Ja1 7 _).mono ?_;rintro e w1 ⟨rfl,h9⟩;subst h9;exact ⟨rfl,.inr ⟨by decide,rfl⟩,hkA⟩
 ·rw [if_neg (by simp)];rw [h1] at ha;cases h2:Yl n
  ·rw [if_pos rfl];rw [h2] at hl;go_enter Tryz.func173,Tryz.ntmps173;go_wp2_with fail;refine (ha.out _).mono ?_;rintro e w1 ⟨rfl,h9⟩;subst h9;go_wp2_with fail;refine (hl.out _).mono ?_;rintro e w1 ⟨rfl,h9⟩;subst h9;go_wp2_with fail
   go_end0
   exact ⟨.inl ⟨trivial,rfl⟩,hkA⟩
  ·rw [if_neg (by simp)];rw [h2] at hl;by_cases h3:3000<v.length
   ·rw [if_pos h3];have hs:=Ja (fun w=>Jqq ⟨v.toArray⟩ w hv h3);have hm:=Ja (fun w=>JlC false 2 (by decide) w);go_enter Tryz.func173,Tryz.ntmps173;go_wp2_with fail;refine (ha.out _).mono ?_;rintro e w1 ⟨rfl,h9⟩;subst h9;go_wp2_with fail;refine (hl.out _).mono ?_;rintro e w1 ⟨rfl,h9⟩;subst h9;go_wp2_with fail;refine (hs.out _).mono ?_;rintro e w1 ⟨rfl,h9⟩;subst h9;go_wp2_with fail;refine (hm.out _).mono ?_;rintro e w1 ⟨rfl,h9⟩;subst h9;exact ⟨rfl,.inr ⟨by decide,rfl⟩,hkA⟩
   ·rw [if_neg h3];have hs:=Ja (fun w hM=>JkJ ⟨v.toArray⟩ w (by rw [Jv];omega) hM);rw [Qc] at hs;cases h4:Yd v
    ·rw [if_pos rfl];rw [h4] at hs;have hm:=Ja (fun w=>JdC false w);go_enter Tryz.func173,Tryz.ntmps173;go_wp2_with fail;refine (ha.out _).mono ?_;rintro e w1 ⟨rfl,h9⟩;subst h9;go_wp2_with fail;refine (hl.out _).mono ?_;rintro e w1 ⟨rfl,h9⟩;subst h9;go_wp2_with fail;refine (hs.out _ hM1).mono ?_;rintro e w1 ⟨rfl,hk1⟩;go_wp2_with fail;refine (hm.out _).mono ?_;rintro e w2 ⟨rfl,h9⟩;subst h9;go_wp2_with fail;refine (Ja1 4 _).mono ?_;rintro e w2 ⟨rfl,h9⟩;subst h9;exact ⟨rfl,.inr ⟨by decide,rfl⟩,hkA.trans hk1⟩
    ·rw [if_neg (by simp)];rw [h4] at hs;have hm:=Ja (fun w=>JdC true w);go_enter Tryz.func173,Tryz.ntmps173;go_wp2_with fail;refine (ha.out _).mono ?_;rintro e w1 ⟨rfl,h9⟩;subst h9;go_wp2_with fail;refine (hl.out _).mono ?_;rintro e w1 ⟨rfl,h9⟩;subst h9;go_wp2_with fail;refine (hs.out _ hM1).mono ?_;rintro e w1 ⟨rfl,hk1⟩;go_wp2_with fail;refine (hm.out _).mono ?_;rintro e w2 ⟨rfl,h9⟩;subst h9;go_wp2_with fail
     go_end0
     exact ⟨.inl ⟨trivial,rfl⟩,hkA.trans hk1⟩
theorem Jlb (el:List UInt8) (l:List Jw) (k:Nat) (hk:k<l.length):ZF el (l.drop k)=if YB el l[k]=0 then ZF el (l.drop (k+1)) else YB el l[k]:=by
 rw [List.drop_eq_getElem_cons hk];rfl
set_option maxRecDepth 4000 in
theorem JjC (n:List UInt8) (t:List UInt8) (l:List Jw) (ao:Option Addr) (an ac:Nat) (kv:Value) (w:World) (hM:JW w) (hv:Jh w (.slice ao an ac) l.length 2 (Jj l)) (hlen: ∀ p∈l,p.2.length≤maxLen) (hkv: ∃ o m c,kv=.slice o m c):
  Calls Tryz.prog 89 #[.agg #[.string ⟨n.toArray⟩,.slice ao an ac,.string ⟨t.toArray⟩,kv]] w fun e w'=>
   (QY n l=0∧e=.returned (.tuple #[])∨QY n l≠0∧e=.panicked (X4 (QY n l)))∧Jb [] w w':=by
 obtain ⟨ko,km,kc,rfl⟩:=hkv;obtain ⟨o,c,hvv,h1,h2⟩:=hv.form;simp only [Value.slice.injEq] at hvv;obtain ⟨rfl,rfl,rfl⟩:=hvv;obtain ⟨W,hW⟩: ∃ W,w.alloc (.cells #[.string ⟨n.toArray⟩,.slice ao l.length ac,.string ⟨t.toArray⟩,.slice ko km kc] 45)=W:=⟨_,rfl⟩;have hkA:Jb [] w W:=by rw [←hW];exact (Jb.refl [] w).alloc _
 have hA:W.heap[w.heap.size]?=some (.cells #[.string ⟨n.toArray⟩,.slice ao l.length ac,.string ⟨t.toArray⟩,.slice ko km kc] 45 (0,0)):=by rw [←hW];exact heap_alloc_new w _
 have cell0: ∀ W',Jb [] W W'→W'.cell? ⟨w.heap.size,0,none⟩=some (.string ⟨n.toArray⟩):=fun W' hk=>Jc hk (Jd hA 0);have cell1: ∀ W',Jb [] W W'→W'.cell? ⟨w.heap.size,1,none⟩=some (.slice ao l.length ac):=fun W' hk=>Jc hk (Jd hA 1);have C0:=Ja cell0;have C1:=Ja cell1;have hM1:=Ja (hM.keeps hkA List.not_mem_nil);have hal:=Ja (fun w=>Jjz n w);have hcs:=Ja (fun w' (hk:Jb [] w w')=>Jhd w' _ l (hv.keeps hk));have hE:=JiK;unfold Jy at hE;have d0:=cell0 W (Jb.refl _ _);have d1:=cell1 W (Jb.refl _ _);unfold maxLen at h2;obtain ⟨R,hR⟩: ∃ R,QY n l=R:=⟨_,rfl⟩;rw [hR];unfold QY at hR;clear cell0 cell1 hA;cases he:n.isEmpty
 ·rw [he,if_neg (by simp)] at hR;have p0:=(Jfc n);cases ha:JO n
  ·rw [ha,if_pos rfl] at hR;rw [ha] at hal;subst hR;clear p0;go_enter Tryz.func89,Tryz.ntmps89;go_wp2_with fail;refine (hal.out _).mono ?_;rintro e w1 ⟨rfl,h9⟩;obtain rfl:W=w1:=h9.symm;go_wp2_with fail;refine (Ja1 7 _).mono ?_;rintro e w1 ⟨rfl,h9⟩;subst h9;exact ⟨rfl,.inr ⟨by decide,rfl⟩,hkA⟩
  ·rw [ha,if_neg (by simp)] at hR;rw [ha] at hal;obtain ⟨A,hA⟩: ∃ A,ZF n l=A:=⟨_,rfl⟩;rw [hA] at hR;have HR:=Ja hR;have HA:=Ja hA;clear p0 hR hA;go_enter Tryz.func89,Tryz.ntmps89;go_wp2_with fail;refine (hal.out _).mono ?_;rintro e w1 ⟨rfl,h9⟩;obtain rfl:W=w1:=h9.symm;go_wp2_with fail;go_loopw [16] (fun i wr=> ∃ k:Nat,k≤l.length∧i=.int .i64 k∧Jb [] W wr∧Hid (ZF n (l.drop k)=A)) (fun i _=>l.length - (intOf i).toNat)
   case atStart=>exact ⟨0,Nat.zero_le _,rfl,Jb.refl _ _,HA⟩
   case round=>
    obtain ⟨k,hk,rfl,hkw,hC⟩:=hrel;clear HA d0 d1;have d0:=C0.out wr hkw;have d1:=C1.out wr hkw;by_cases hlt:k<l.length
    ·obtain ⟨g,x,rfl,hc⟩:=(hv.keeps (hkA.trans hkw)).addr (by omega);have a0:=hc _ _ (Zw l k hlt);have a1:=hc _ _ (JaZ l k hlt);rw [←Nat.add_assoc] at a1;have hC1:=hC.out;rw [Jlb n l k hlt] at hC1;have HC1:=Ja hC1;have hvl:=hlen _ (List.getElem_mem hlt);have hM2:=hM1.out.keeps hkw List.not_mem_nil;clear hC hC1 hc;generalize l[k]=p at *;obtain ⟨pn,pv⟩:=p;simp only at a0 a1 hvl;have hkB:Jb [] wr (wr.alloc (.cells #[.string ⟨pn.toArray⟩,.string ⟨pv.toArray⟩] 52)):=(Jb.refl [] wr).alloc _;have hcl:=Ja (JjV n (pn,pv) _ (hM2.keeps hkB List.not_mem_nil) hvl);have d0a: ∀ o,(wr.alloc o).cell? ⟨w.heap.size,0,none⟩=some (.string ⟨n.toArray⟩):=fun o=>C0.out _ (hkw.alloc o);generalize YB n (pn,pv)=E at *;go_wp2_with fail;refine hcl.out.mono ?_;rintro e w1 ⟨⟨hE0,rfl⟩ | ⟨hE0,rfl⟩,hk1⟩
     ·clear a0 a1 d0 d1;go_wp2_with fail;go_roundw
      case rel=>exact ⟨k+1,by omega,by go_num,(hkw.trans hkB).trans hk1,by have h9:=HC1.out;rw [if_pos hE0] at h9;exact h9⟩
      case measure=>simp [intOf];omega
     ·have h9:=HC1.out;rw [if_neg hE0] at h9;have hRE:R=E:=by have h8:=HR.out;rw [←h9,if_neg hE0] at h8;exact h8.symm
      subst hRE;exact ⟨rfl,.inr ⟨hE0,rfl⟩,hkA.trans ((hkw.trans hkB).trans hk1)⟩
    ·have hA0:A=0:=by
      rw [←hC.out,List.drop_eq_nil_of_le (by omega)];rfl
     have hR2:=HR.out;rw [hA0,if_pos rfl] at hR2;have hcs2:=Ja (hcs.out wr (hkA.trans hkw));clear hcs hC;cases h1:(n==[105,109,103])
     ·rw [h1,Bool.false_and,if_neg (by simp)] at hR2;subst hR2;have p1:=(Jp n _).trans h1;go_wp2_with fail;refine hcs2.out.mono ?_;rintro e w2 ⟨rfl,hk2⟩;have e0:=C0.out w2 (hkw.trans hk2);clear d0 d1;go_wp2_with fail
      go_end0
      first | exact ⟨.inl ⟨trivial,rfl⟩,hkA.trans (hkw.trans hk2)⟩ | exact ⟨rfl,hkA.trans (hkw.trans hk2)⟩
     ·have p1:=(Jp n _).trans h1;cases h2:YW l
      ·rw [h1,h2] at hR2;rw [h2] at hcs2;have hR3:R=5:=hR2.symm;subst hR3;go_wp2_with fail;refine hcs2.out.mono ?_;rintro e w2 ⟨rfl,hk2⟩;have e0:=C0.out w2 (hkw.trans hk2);clear d0 d1;go_wp2_with fail;refine (Ja1 5 _).mono ?_;rintro e w3 ⟨rfl,h9⟩;subst h9;exact ⟨rfl,.inr ⟨by decide,rfl⟩,hkA.trans (hkw.trans hk2)⟩
      ·rw [h1,h2] at hR2;rw [h2] at hcs2;have hR3:R=0:=hR2.symm;subst hR3;go_wp2_with fail;refine hcs2.out.mono ?_;rintro e w2 ⟨rfl,hk2⟩;have e0:=C0.out w2 (hkw.trans hk2);clear d0 d1;go_wp2_with fail
       go_end0
       first | exact ⟨.inl ⟨trivial,rfl⟩,hkA.trans (hkw.trans hk2)⟩ | exact ⟨rfl,hkA.trans (hkw.trans hk2)⟩
 ·rw [he,if_pos rfl] at hR;subst hR;go_enter Tryz.func89,Tryz.ntmps89;go_wp2_with fail;refine bodyPost_ret (v:=.tuple #[]) (by simp [results,Tryz.results89]) rfl ?_;exact ⟨.inl ⟨trivial,rfl⟩,by first | exact hkA | exact hW ▸ hkA⟩
end Go.Proofs.YtlcljanibjdejaaGreat
namespace Go.Proofs.YtlcljanibjdejaaGreat
structure Lst where
 all:List Nd
 text:List UInt8
def Lst.done (s:Lst):List Nd:=if s.text.isEmpty=true then s.all else s.all++[Xn s.text]
def Lst.put (s:Lst) (n:Nd):Lst:=if n.name.isEmpty=true then ⟨s.all,s.text++n.text⟩ else ⟨s.done++[n],[]⟩
def Lst.weight (s:Lst):Nat:=s.all.length+s.text.length
def JJ (base:List UInt8):Lst→List Nd→Lst
 | s,[]=>s
 | s,.mk n a t k::r=>
   if n.isEmpty=true then JJ base (s.put (.mk n a t k)) r
   else if Jhp n=true then JJ base s r
   else if JO n=false then JJ base (JJ base s k) r
   else if QY n (XW base n a)=0 then JJ base (s.put (.mk n (XW base n a) [] (JJ base ⟨[],[]⟩ k).done)) r
   else JJ base s r
def Zb (base:List UInt8) (l:List Nd):List Nd:=(JJ base ⟨[],[]⟩ l).done
theorem JfI (base:List UInt8) (a:Jw):(JaU base a).1=a.1:=by unfold JaU;split<;>rfl
theorem Je4 (f:Jw→Jw) (p:Jw→Bool) (hf: ∀ a,(f a).1=a.1): ∀ (l:List Jw) (m m':List (List UInt8)),QR l m=0→(∀ x,x∈m'→x∈m)→QR ((l.map f).filter p) m'=0
 | [],_,_,_,_=>rfl
 | a::r,m,m',h,hm=>by
   rw [QR] at h;by_cases h1:JB a.1=false
   ·rw [if_pos h1] at h;simp at h
   ·rw [if_neg h1] at h;by_cases h2:a.1∈m
    ·rw [if_pos h2] at h;simp at h
    ·rw [if_neg h2] at h;rw [List.map_cons];by_cases hp:p (f a)=true
     ·rw [List.filter_cons_of_pos hp,QR,hf,if_neg h1,if_neg (fun hx=>h2 (hm _ hx))];exact Je4 f p hf r _ _ h (fun x hx=>by
       rcases List.mem_append.1 hx with hx | hx
       ·exact List.mem_append_left _ (hm x hx)
       ·exact List.mem_append_right _ hx)
     ·rw [List.filter_cons_of_neg hp];exact Je4 f p hf r _ _ h (fun x hx=>List.mem_append_left _ (hm x hx))
theorem Joy (base el:List UInt8) (l:List Jw) (h:QR l []=0):QR (XW base el l) []=0:=Je4 (JaU base) _ (JfI base) l [] [] h (fun _ hx=>hx)
theorem Jkz (is hides:List UInt8→Bool) (h1: ∀ x,is x=true→JO x=true) (h2: ∀ x,hides x=true→JO x=true) (ns:List (List UInt8)):Jb8 is hides (ns.filter JO)=Jb8 is hides ns:=by
 have H: ∀ l:List (List UInt8),Jb8 is hides (l.reverse.filter JO)=Jb8 is hides l.reverse:=by
  intro l
  induction l with
  | nil=>rfl
  | cons x l ih=>
    rw [List.reverse_cons,List.filter_append,JhG];by_cases hx:JO x=true
    ·rw [List.filter_cons_of_pos hx,List.filter_nil,JhG,ih]
    ·rw [List.filter_cons_of_neg hx,List.filter_nil,List.append_nil,ih,if_neg (fun h=>hx (h1 x h)),if_neg (fun h=>hx (h2 x h))]
 have:=H ns.reverse
 rwa [List.reverse_reverse] at this
theorem Jbt (is hides:List UInt8→Bool) (ns:List (List UInt8)):JZ is hides ns≤ns.length:=Jbu _ _ _ _ (Nat.le_refl _)
theorem Jc5 (is hides:List UInt8→Bool) (h1: ∀ x,is x=true→JO x=true) (h2: ∀ x,hides x=true→JO x=true) (ns:List (List UInt8)) (h:JZ is hides ns=ns.length):JZ is hides (ns.filter JO)=(ns.filter JO).length:=by
 have h3:=Jkz is hides h1 h2 ns;have h4:Jb8 is hides ns=false:=by unfold Jb8;rw [h];simp
 rw [h4] at h3;unfold Jb8 at h3;have:=Jbt is hides (ns.filter JO);simp at h3;omega
theorem Jfr: ∀ x,QO x=true→JO x=true:=by
 intro x h;simp only [QO,Bool.or_eq_true,beq_iff_eq] at h;rcases h with rfl | rfl<;>decide
theorem JfL: ∀ x,J5 x=true→JO x=true:=by
 intro x h;unfold J5 at h;simp only [Bool.or_eq_true,beq_iff_eq] at h;rcases h with (h | rfl) | rfl
 ·exact Jfr x h
 ·decide
 ·decide
theorem Jjt (ns:List (List UInt8)) (n:List UInt8) (h:ns.length≤Jm ns n):(ns.filter JO).length≤Jm (ns.filter JO) n:=by
 have hp: ∀ x:List UInt8,(x==[112])=true→JO x=true:=fun x hx=>by simp only [beq_iff_eq] at hx;subst hx;decide
 have hli: ∀ x:List UInt8,(x==[108,105])=true→JO x=true:=fun x hx=>by simp only [beq_iff_eq] at hx;subst hx;decide
 unfold Jm at h ⊢;by_cases h1:n=[108,105]
 ·subst h1;have hb:YL [108,105]=true:=by decide
  rw [if_pos rfl,if_pos hb] at h ⊢;have a1:=Jbt (· ==[112]) J5 ns;have a2:=Jbt (· ==[108,105]) QO (ns.take (JZ (· ==[112]) J5 ns));rw [List.length_take] at a2;have a3:JZ (· ==[112]) J5 ns=ns.length:=by omega
  rw [a3,List.take_length] at h;have a4:JZ (· ==[108,105]) QO ns=ns.length:=Nat.le_antisymm (Jbt _ _ _) h;rw [Jc5 _ _ hp JfL ns a3,List.take_length,Jc5 _ _ hli Jfr ns a4];exact Nat.le_refl _
 ·rw [if_neg h1] at h ⊢;by_cases h2:YL n=true
  ·rw [if_pos h2] at h ⊢;have a3:JZ (· ==[112]) J5 ns=ns.length:=Nat.le_antisymm (Jbt _ _ _) h;rw [Jc5 _ _ hp JfL ns a3];exact Nat.le_refl _
  ·rw [if_neg h2];exact Nat.le_refl _
def JdR (ar:List (List UInt8)) (s:Lst):Prop:=Rt ar false s.all∧QA s.all=false
theorem Jd2 {ar:List (List UInt8)} {s:Lst} (h:JdR ar s):Rt ar false s.done:=by
 unfold Lst.done;cases ht:s.text with
 | nil=>exact h.1
 | cons c r=>exact Jbb _ _ _ _ h.1 (by simp) (fun _=>rfl) h.2
theorem JnB {ar:List (List UInt8)} {s:Lst} (h:JdR ar s) (n:List UInt8) (a:List Jw) (t:List UInt8) (k:List Nd) (hn:n.isEmpty=true):JdR ar (s.put (.mk n a t k)):=by
 unfold Lst.put;rw [if_pos (show (Nd.mk n a t k).name.isEmpty=true from hn)];exact h
theorem JnA {ar:List (List UInt8)} {s:Lst} (h:JdR ar s) (n:Nd) (hn:Jtf ar n):JdR ar (s.put n):=by
 have hne:=Z9 hn.1;unfold Lst.put;rw [if_neg (by simpa using hne)];refine ⟨Jba _ _ _ _ (Jd2 h) hn,?_⟩;rw [JaQ];simpa using hne
theorem YH (base:List UInt8): ∀ (l:List Nd) (ar:List (List UInt8)) (prev:Bool) (s:Lst),Rt ar prev l→JdR (ar.filter JO) s→JdR (ar.filter JO) (JJ base s l)
 | [],ar,prev,s,_,hs=>by rw [JJ];exact hs
 | .mk n a t k::r,ar,prev,s,h,hs=>by
   rw [Rt] at h;rw [JJ];by_cases hn:n=[]
   ·rw [if_pos hn] at h;rw [if_pos (by simpa using hn)];exact YH base r ar true _ h.2.2.2.2 (JnB hs _ _ _ _ (by simpa using hn))
   ·rw [if_neg hn] at h;obtain ⟨h1,ht,h3,he,h5,h6,hk,hr⟩:=h;rw [if_neg (by simpa using hn)];by_cases hg:Jhp n=true
    ·rw [if_pos hg];exact YH base r ar false _ hr hs
    ·rw [if_neg hg];by_cases ha:JO n=false
     ·rw [if_pos ha];refine YH base r ar false _ hr ?_;have:=YH base k (ar++[n]) false s hk (by rw [List.filter_append,List.filter_cons_of_neg (by simpa using ha),List.filter_nil,List.append_nil];exact hs)
      rwa [List.filter_append,List.filter_cons_of_neg (by simpa using ha),List.filter_nil,List.append_nil] at this
     ·rw [if_neg ha];by_cases hst:QY n (XW base n a)=0
      ·rw [if_pos hst];refine YH base r ar false _ hr (JnA hs _ ?_);have ef:(ar++[n]).filter JO=ar.filter JO++[n]:=by rw [List.filter_append,List.filter_cons_of_pos (by simpa using ha),List.filter_nil]
       have hks:=YH base k (ar++[n]) false ⟨[],[]⟩ hk ⟨Jcb _ _,rfl⟩;rw [ef] at hks;refine ⟨h1,rfl,Joy base n a h3,fun hem=>?_,Jjt ar n h5,Nat.lt_of_le_of_lt (List.length_filter_le _ _) h6,Jd2 hks⟩;show (JJ base ⟨[],[]⟩ k).done=[];rw [he hem,JJ];rfl
      ·rw [if_neg hst];exact YH base r ar false _ hr hs
theorem Jj2 (base:List UInt8) (l:List Nd) (h:Rt [] false l):Rt [] false (Zb base l):=Jd2 (YH base l [] false _ h ⟨Jcb _ _,rfl⟩)
def Lst.size (s:Lst):Nat:=JD s.all+if s.text.isEmpty=true then 0 else 1
theorem JfF (s:Lst):JD s.done=s.size:=by
 unfold Lst.done Lst.size;split
 ·rfl
 ·rw [ZK];simp [JD,Xn]
theorem Jqx (s:Lst) (n:List UInt8) (a:List Jw) (t:List UInt8) (k:List Nd) (hn:n.isEmpty=true):(s.put (.mk n a t k)).size≤s.size+1:=by
 unfold Lst.put;rw [if_pos (show (Nd.mk n a t k).name.isEmpty=true from hn)];unfold Lst.size;simp only;split<;>omega
theorem Jqw (s:Lst) (n:Nd) (hn: ¬ n.name.isEmpty=true):(s.put n).size=s.size+1+JD n.kids:=by
 unfold Lst.put;rw [if_neg hn];unfold Lst.size;simp only;rw [ZK,JfF,ZP];simp [JD,Lst.size];omega
theorem YU (base:List UInt8): ∀ (l:List Nd) (s:Lst),(JJ base s l).size≤s.size+JD l
 | [],s=>by rw [JJ];exact Nat.le_add_right _ _
 | .mk n a t k::r,s=>by
   rw [JJ,JD];split
   ·have:=YU base r (s.put (.mk n a t k));have:=Jqx s n a t k (by assumption);omega
   ·split
    ·have:=YU base r s;omega
    ·split
     ·have:=YU base r (JJ base s k);have:=YU base k s;omega
     ·split
      ·have h1:=YU base r (s.put (.mk n (XW base n a) [] (JJ base ⟨[],[]⟩ k).done));have h2:=Jqw s (.mk n (XW base n a) [] (JJ base ⟨[],[]⟩ k).done) (by assumption);have h3:=YU base k ⟨[],[]⟩;have h4:=JfF (JJ base ⟨[],[]⟩ k);have h5:(⟨[],[]⟩:Lst).size=0:=by simp [Lst.size,JD]
       have h6:JD (Nd.mk n (XW base n a) [] (JJ base ⟨[],[]⟩ k).done).kids=(JJ base ⟨[],[]⟩ k).size:=h4;omega
      ·have:=YU base r s;omega
theorem Jlg (base:List UInt8) (l:List Nd):JD (Zb base l)≤JD l:=by
 have:=YU base l ⟨[],[]⟩;unfold Zb;rw [JfF];have h5:(⟨[],[]⟩:Lst).size=0:=by simp [Lst.size,JD]
 omega
def JfN:List Nd→Prop
 | []=>True
 | .mk n a _ k::r=>QY n a=0∧JfN k∧JfN r
end Go.Proofs.YtlcljanibjdejaaGreat
