/- ShelfTells holds: the law returns true for every input, and each argument reads behind the call as it read before; no condition. A part of its proof. -/
import Derived.Test.YtlcljanibjdejaaGreatSt10
import Derived.Shelf.Spec.SlicesInsertGrow
set_option maxHeartbeats 64000000
namespace Go.Proofs.YtlcljanibjdejaaGreat
open Go.RowKit Go.Maps
theorem JoW:Jy 196:=JC Tryz.func196 (by kernel_rfl) (by kernel_rfl)
theorem Jrs (x:En) (id:List UInt8) (p:Nat) (w:World) (hp:w.cell? ⟨p,0,none⟩=some (.string ⟨id.toArray⟩)):
  Calls Tryz.prog 196 #[.agg (Jo x).toArray,.pointer (some ⟨p,0,none⟩)] w fun e w'=>e=.returned (.bool (decide (x.id=id)))∧Jb [] w w':=by
 obtain ⟨W,hW⟩: ∃ W,w.alloc (.cells (Jo x).toArray 75)=W:=⟨_,rfl⟩;have hkW:Jb [] w W:=by rw [←hW];exact (Jb.refl [] w).alloc _
 have hb:=(Qb rfl hW).1;have b0:W.cell? ⟨w.heap.size,0,none⟩=some (.string ⟨x.id.toArray⟩):=Jd hb 0;have q0:=Jc hkW hp;have HKW:=Ja hkW;have HW:=Ja hW;have heq:(x.id==id)=decide (x.id=id):=Bool.beq_eq_decide_eq _ _;generalize decide (x.id=id)=R at *;clear hkW hb hW hp;go_enter Tryz.func196,Tryz.ntmps196;go_upto_region 1 with fail;rw [HW.out];go_wp2_with fail;go_ret;exact ⟨rfl,HKW.out⟩
def Jbr (id:List UInt8):List En→Nat→Int
 | [],_=> -1
 | x::r,k=>if x.id=id then (k:Int) else Jbr id r (k+1)
theorem Jhr (id:List UInt8) (l:List En) (k:Nat) (hk:k<l.length):Jbr id (l.drop k) k=if l[k].id=id then (k:Int) else Jbr id (l.drop (k+1)) (k+1):=by
 rw [List.drop_eq_getElem_cons hk];rfl
def YO (id:List UInt8) (l:List En):Int:=Jbr id l 0
set_option maxRecDepth 8000 in
theorem JmV (id:List UInt8) (p:Nat) (w:World) (v:Value) (l:List En) (hv:Jh w v l.length 5 (Je l)) (hp:w.cell? ⟨p,0,none⟩=some (.string ⟨id.toArray⟩)):
  Calls Tryz.prog 195 #[v,.func (.func 196) #[] #[.pointer (some ⟨p,0,none⟩)]] w fun e w'=>e=.returned (.int .i64 (YO id l))∧Jb [] w w':=by
 have hE:=JoW;unfold Jy at hE;obtain ⟨o,c,rfl,h1,h2⟩:=hv.form;unfold maxLen at h2;obtain ⟨R,hR⟩: ∃ R,YO id l=R:=⟨_,rfl⟩;rw [hR];have HR:=Ja hR;have HV:=Ja hv;have HP:=Ja hp;clear hR hv hp;go_enter Tryz.func195,Tryz.ntmps195;go_wp2_with fail;go_loopw [8] (fun i wr=> ∃ k:Nat,k≤l.length∧i=.int .i64 k∧Jb [] w wr∧Hid (Jbr id (l.drop k) k=R)) (fun i _=>l.length - (intOf i).toNat)
 case atStart=>exact ⟨0,Nat.zero_le _,rfl,Jb.refl _ _,HR⟩
 case round=>
  obtain ⟨k,hk,rfl,hkw,hC⟩:=hrel;clear HR;by_cases hlt:k<l.length
  ·have hC1:=hC.out;rw [Jhr id l k hlt] at hC1;obtain ⟨g,o0,rfl,hc⟩:=(HV.out.keeps hkw).addr (by omega);obtain ⟨a0,a1,a2,a3,a4⟩:=Qs hc k hlt;have HC1:=Ja hC1;have hcall:=Ja (Jrs l[k] id p wr (Jc hkw HP.out));unfold Jo at hcall;clear hC hC1 hc;generalize l[k]=x at *;by_cases hx:x.id=id
   ·have hRk:R=(k:Int):=by rw [←HC1.out];simp [hx]
    rw [decide_eq_true hx] at hcall;subst hRk;clear HC1 hx;go_wp2_with fail;refine hcall.out.mono ?_;rintro e w3 ⟨rfl,hk3⟩;go_wp2_with fail;go_ret;exact ⟨rfl,hkw.trans hk3⟩
   ·have HC2:Hid (Jbr id (l.drop (k+1)) (k+1)=R):=Ja (by have:=HC1.out;simpa [hx] using this);rw [decide_eq_false hx] at hcall;clear HC1 hx;go_wp2_with fail;refine hcall.out.mono ?_;rintro e w3 ⟨rfl,hk3⟩;have HK3:=Ja (hkw.trans hk3);clear hk3 a0 a1 a2 a3 a4;go_wp2_with fail;go_roundw
    case rel=>exact ⟨k+1,by omega,by go_num,HK3.out,HC2⟩
    case measure=>simp [intOf];omega
  ·have hRR:R= -1:=by
    rw [←hC.out,List.drop_eq_nil_of_le (by omega)];rfl
   subst hRR;go_wp2_with fail;go_ret;exact ⟨rfl,hkw⟩
set_option maxRecDepth 4000 in
theorem Jfx (w:World) (B k:Nat) (ev rv:Value) (s:Sh) (id:List UInt8) (h:XT w B k ev rv s):
  Calls Tryz.prog 121 #[.pointer (some ⟨k,0,none⟩),.string ⟨id.toArray⟩] w fun e w'=>e=.returned (.int .i64 (YO id s.es))∧Jb [] w w':=by
 obtain ⟨es,rd⟩:=s;have hes:=h.es;simp only at hes ⊢;obtain ⟨eo,ec,rfl⟩:=Jg hes;obtain ⟨W,hW⟩: ∃ W,w.alloc (.cells #[.string ⟨id.toArray⟩] 9)=W:=⟨_,rfl⟩;have hkW:Jb [] w W:=by rw [←hW];exact (Jb.refl [] w).alloc _
 have hb:=(Qb rfl hW).1;have q0:W.cell? ⟨w.heap.size,0,none⟩=some (.string ⟨id.toArray⟩):=Jd hb 0;have c0:W.cell? ⟨k,0,none⟩=some (.slice eo es.length ec):=Jc hkW (Jd h.blk 0);have hcall:=Ja (JmV id w.heap.size W _ es ((Jh.of_row hes).keeps hkW) q0);have HKW:=Ja hkW;have HW:=Ja hW;generalize YO id es=R at *;have hmf: ∀ (fn:Fn) (first cap:Array Value) (w:World),(Instr.makeFunc fn first cap).run Tryz.prog w=.ok (.func fn first cap) w:=fun _ _ _ _=>rfl;clear hkW hb hW h hes q0;go_enter Tryz.func121,Tryz.ntmps121;go_upto_region 1 with fail;rw [HW.out];go_wp2_with fail;refine hcall.out.mono ?_;rintro e w3 ⟨rfl,hk3⟩;go_wp2_with fail;go_ret;exact ⟨rfl,HKW.out.trans hk3⟩
theorem Jdv {P:Program} {ops:Array Oper} {o:Oper} {a:Act} {w:World} {K:Act→World→Prop} {Q:Exit→Act→World→Prop} {E:Prop}
  (hg:o.guard=none) (s x:Operand) (t:TypeId) (hop:o.op=Op.call { callee:=Callee.builtin Builtin.append,args:=#[s,x],argTypes:=#[t,t] })
  (e:TypeId) (i:TypeInfo) (size:Nat) (h1:P.underlying t=some (.slice e)) (h2:P.info? e=some i) (h4:i.size=size)
  (g n cap:Nat) (hs:a.eval s=.slice (some ⟨g,0,none⟩) n cap) (cur:Array Value) (hb:w.heap[g]?=some (.cells cur e (0,0)))
  (ad:Addr) (m c:Nat) (news:List Value) (hx:a.eval x=.slice (some ad) m c) (hn:news.length=m * size) (hc: ∀ j u,news[j]?=some u→w.cell? (ad.add j)=some u) (h1c: ∀ u∈news,u.oneCell'=true)
  (hroom:n+m≤cap) (hfit:n * size+news.length≤cur.size)
  (hK:K (a.put o.dst (.slice (some ⟨g,0,none⟩) (n+m) cap)) (w.setRow g (QC cur (n * size) news))):
  if Region.wanted o (yielded ops a.tmps)=true then Oper.wp P o a w K Q else E:=by
 have hw:Region.wanted o (yielded ops a.tmps)=true:=by simp [Region.wanted,hg]
 rw [if_pos hw];subst h4;have hrun:=run_append_room (P:=P) w t o.type e i h1 h2 g n cap cur hb ad m c news hn hc h1c hroom hfit;unfold Oper.wp execOp;simp only [hop,resolve,invoke,builtin,Sem.run_bind,Sem.run_pure,Result.andThen_ok,List.map_toArray,List.map_cons,List.map_nil,hs,hx,hrun];exact hK
theorem Jfj (l:List (List UInt8)) (k:Nat):(Jq l).take (k * 1)=Jq (l.take k):=by simp [Jq]
theorem Jfi (l:List (List UInt8)) (k:Nat):(Jq l).drop (k * 1)=Jq (l.drop k):=by simp [Jq]
theorem Z5 (l:List (List UInt8)):(Jq l).length=l.length * 1:=by simp [Jq]
set_option maxRecDepth 8000 in
theorem JeG (w:World) (g cap n i j:Nat) (cur:Array Value) (l:List En) (hg:w.heap[g]?=some (.cells cur 75 (0,0))) (hn:l.length=n) (hnc:n≤cap) (hcs:cur.size=cap * 5) (htake:cur.toList.take (n * 5)=Je l) (hij:i≤j) (hj:j≤n):
  Calls Tryz.prog 190 #[.slice (some ⟨g,0,none⟩) n cap,.int .i64 i,.int .i64 j] w fun e w'=>e=.returned (.slice (some ⟨g,0,none⟩) (n - (j - i)) cap)∧ ∃ cur',w'.heap[g]?=some (.cells cur' 75 (0,0))∧cur'.size=cap * 5∧cur'.toList.take ((n - (j - i)) * 5)=Je (l.take i++l.drop j)∧Jb [g] w w':=by
 obtain ⟨i0,hi,hz0,hz1,hz2⟩:=info_parts Jcf;have hv: ∀ w,(zeroValue 75).run Tryz.prog w=.ok (.agg #[.string ⟨#[]⟩,.string ⟨#[]⟩,.string ⟨#[]⟩,.int .i64 0,.string ⟨#[]⟩]) w:=fun w=>by simp [zeroValue,typeInfo,hi,hz0]
 by_cases heq:i=j
 ·subst heq;have h0:Calls Tryz.prog 190 #[.slice (some ⟨g,0,none⟩) n cap,.int .i64 i,.int .i64 i] w fun e w'=>e=.returned (.slice (some ⟨g,0,none⟩) n cap)∧w'=w:=by
   clear hg htake;go_enter Tryz.func190,Tryz.ntmps190;go_wp2_with fail
   all_goals (go_ret;exact ⟨rfl,rfl⟩)
  refine h0.mono ?_;rintro e w' ⟨rfl,rfl⟩;exact ⟨by rw [Nat.sub_self,Nat.sub_zero],cur,hg,hcs,by rw [Nat.sub_self,Nat.sub_zero,htake,List.take_append_drop],Jb.refl _ _⟩
 ·have hlt:i<j:=by omega
  obtain ⟨news,hnews⟩: ∃ news,news=Je (l.drop j):=⟨_,rfl⟩;have hlen:news.length=(n - j) * 5:=by rw [hnews,Qu,List.length_drop,hn]
  have hcell: ∀ t u,news[t]?=some u→w.cell? ⟨g,j * 5+t,none⟩=some u:=fun t u hu=>by
   rw [hnews, ←Jcr,List.getElem?_drop] at hu;rw [←htake,List.getElem?_take] at hu;split at hu
   ·rw [cell_of_row w g (j * 5+t) cur 75 (0,0) hg];simpa using hu
   ·cases hu
  obtain ⟨A,hA,hsrc⟩: ∃ A:Addr,(if cap=j then (some (⟨g,0,none⟩:Addr)) else some ⟨g,j * 5,none⟩)=some A∧Hid (∀ t u,news[t]?=some u→w.drew.cell? (A.add t)=some u):=by
   by_cases h:cap=j
   ·refine ⟨⟨g,0,none⟩,by simp [h],fun t u hu=>?_⟩
    have h0:news.length=0:=by rw [hlen];have:n - j=0:=by omega
                              rw [this,Nat.zero_mul]
    rw [List.length_eq_zero_iff.1 h0] at hu;simp at hu
   ·refine ⟨⟨g,j * 5,none⟩,by simp [h],fun t u hu=>?_⟩;rw [Addr.add_lit];exact hcell t u hu
  have s1:Hid (news.length=(n - j) * 5):=Ja hlen;have s2:Hid (∀ u∈news,u.oneCell'=true):=by rw [hnews];exact Ja (Ja4 _)
  have hf1:i * 5+news.length≤cur.size:=by rw [hlen,hcs];omega
  have s3:=Ja hf1;obtain ⟨cur1,hcur1⟩: ∃ cur1,QC cur (i * 5) news=cur1:=⟨_,rfl⟩;obtain ⟨W1,hW1⟩: ∃ W1,w.drew.setRow g cur1=W1:=⟨_,rfl⟩;have hz1':cur1.size=cap * 5:=by rw [←hcur1,Xk hf1,hcs]
  have hg1:W1.heap[g]?=some (.cells cur1 75 (0,0)):=by rw [←hW1];exact Q6 (w:=w.drew) hg cur1
  have ht1:cur1.toList.take ((n - (j - i)) * 5)=Je (l.take i++l.drop j):=by
   rw [←hcur1,Zt hf1 (by rw [hlen];omega),hnews,XH, ←ZH l i, ←htake,List.take_take,Nat.min_eq_left (by omega)]
  have hcl: ∀ ty,(Builtin.clear_ #[61] ty #[.slice (some ⟨g,(i+(n - j)) * 5,none⟩) (n - (i+(n - j))) (cap - (i+(n - j)))]).run Tryz.prog W1=.ok (.tuple #[]) (W1.setRow g (QC cur1 ((i+(n - j)) * 5) (Builtin.zeroCells ((.agg #[.string ⟨#[]⟩,.string ⟨#[]⟩,.string ⟨#[]⟩,.int .i64 0,.string ⟨#[]⟩]):Value).cells (n - (i+(n - j)))).toList)):=
   fun ty=>Jcu W1 61 75 ty (.agg #[.string ⟨#[]⟩,.string ⟨#[]⟩,.string ⟨#[]⟩,.int .i64 0,.string ⟨#[]⟩]) Tryz.underlying61 hv (by intro u hu;simp [Value.cells] at hu;rcases hu with rfl | rfl | rfl | rfl | rfl<;>rfl) g ((i+(n - j)) * 5) _ _ cur1 75 hg1 (by omega) (by rw [hz1'];show _+_ * 5≤_;omega)
  have hf2:(i+(n - j)) * 5+(Builtin.zeroCells ((.agg #[.string ⟨#[]⟩,.string ⟨#[]⟩,.string ⟨#[]⟩,.int .i64 0,.string ⟨#[]⟩]):Value).cells (n - (i+(n - j)))).toList.length≤cur1.size:=by rw [X9,hz1'];show _+_ * 5≤_;omega
  obtain ⟨cur2,hcur2⟩: ∃ cur2,QC cur1 ((i+(n - j)) * 5) (Builtin.zeroCells ((.agg #[.string ⟨#[]⟩,.string ⟨#[]⟩,.string ⟨#[]⟩,.int .i64 0,.string ⟨#[]⟩]):Value).cells (n - (i+(n - j)))).toList=cur2:=⟨_,rfl⟩;rw [hcur2] at hcl;have hz2':cur2.size=cap * 5:=by rw [←hcur2,Xk hf2,hz1']
  have ht2:cur2.toList.take ((n - (j - i)) * 5)=Je (l.take i++l.drop j):=by
   rw [←hcur2,JcG hf2 (by omega)];exact ht1
  have hg2:(W1.setRow g cur2).heap[g]?=some (.cells cur2 75 (0,0)):=Q6 hg1 cur2;have HKK:=Ja (show Jb [g] w (W1.setRow g cur2) from by rw [←hW1];exact (((Jb.refl [g] w).drew).trans (QW _ g cur1)).trans (QW _ g cur2));have HG:=Ja (show w.drew.heap[g]?=some (.cells cur 75 (0,0)) from hg);have HW1:=Ja hW1;have HC1:=Ja hcur1;have HFIN:=Ja (And.intro hg2 (And.intro hz2' ht2));have hic:i≤cap:=by omega
  have hjc:j≤cap:=by omega
  have hic2: ¬ cap=i:=by omega
  have hc3: ¬ cap=i+(n - j):=by omega
  have hnij:n - (j - i)=i+(n - j):=by omega
  rw [hnij] at HFIN ⊢;clear hg htake hnews hlen hcell hcur1 hcur2 hz1' hg1 ht1 hf1 hf2 hz2' ht2 hg2 hW1 hcs hv;go_enter Tryz.func190,Tryz.ntmps190;go_wp2_with fail
  go_region_law (refine Jdv rfl (.tmp 22) (.tmp 25) 61 rfl 75 i0 5 Tryz.underlying61 hi hz1 g i cap (by simp [Act.eval,Act.put]) cur HG.out A (n - j) (cap - j) news (by simp [Act.eval,Act.put]) s1.out hsrc.out s2.out (by omega) s3.out ?_;rw [HC1.out,HW1.out])
  go_wp2_with fail;go_ret;exact ⟨rfl,cur2,HFIN.out.1,HFIN.out.2.1,HFIN.out.2.2,HKK.out⟩
set_option maxRecDepth 8000 in
theorem Jju (w:World) (g cap n i j:Nat) (cur:Array Value) (l:List (List UInt8)) (hg:w.heap[g]?=some (.cells cur 9 (0,0))) (hn:l.length=n) (hnc:n≤cap) (hcs:cur.size=cap * 1) (htake:cur.toList.take (n * 1)=Jq l) (hij:i≤j) (hj:j≤n):
  Calls Tryz.prog 199 #[.slice (some ⟨g,0,none⟩) n cap,.int .i64 i,.int .i64 j] w fun e w'=>e=.returned (.slice (some ⟨g,0,none⟩) (n - (j - i)) cap)∧ ∃ cur',w'.heap[g]?=some (.cells cur' 9 (0,0))∧cur'.size=cap * 1∧cur'.toList.take ((n - (j - i)) * 1)=Jq (l.take i++l.drop j)∧Jb [g] w w':=by
 obtain ⟨i0,hi,hz0,hz1,hz2⟩:=info_parts Jcg;have hv: ∀ w,(zeroValue 9).run Tryz.prog w=.ok (.string ⟨#[]⟩) w:=fun w=>by simp [zeroValue,typeInfo,hi,hz0]
 by_cases heq:i=j
 ·subst heq;have h0:Calls Tryz.prog 199 #[.slice (some ⟨g,0,none⟩) n cap,.int .i64 i,.int .i64 i] w fun e w'=>e=.returned (.slice (some ⟨g,0,none⟩) n cap)∧w'=w:=by
   clear hg htake;go_enter Tryz.func199,Tryz.ntmps199;go_wp2_with fail
   all_goals (go_ret;exact ⟨rfl,rfl⟩)
  refine h0.mono ?_;rintro e w' ⟨rfl,rfl⟩;exact ⟨by rw [Nat.sub_self,Nat.sub_zero],cur,hg,hcs,by rw [Nat.sub_self,Nat.sub_zero,htake,List.take_append_drop],Jb.refl _ _⟩
 ·have hlt:i<j:=by omega
  obtain ⟨news,hnews⟩: ∃ news,news=Jq (l.drop j):=⟨_,rfl⟩;have hlen:news.length=(n - j) * 1:=by rw [hnews,Z5,List.length_drop,hn]
  have hcell: ∀ t u,news[t]?=some u→w.cell? ⟨g,j * 1+t,none⟩=some u:=fun t u hu=>by
   rw [hnews, ←Jfi,List.getElem?_drop] at hu;rw [←htake,List.getElem?_take] at hu;split at hu
   ·rw [cell_of_row w g (j * 1+t) cur 9 (0,0) hg];simpa using hu
   ·cases hu
  obtain ⟨A,hA,hsrc⟩: ∃ A:Addr,(if cap=j then (some (⟨g,0,none⟩:Addr)) else some ⟨g,j * 1,none⟩)=some A∧Hid (∀ t u,news[t]?=some u→w.drew.cell? (A.add t)=some u):=by
   by_cases h:cap=j
   ·refine ⟨⟨g,0,none⟩,by simp [h],fun t u hu=>?_⟩
    have h0:news.length=0:=by rw [hlen];have:n - j=0:=by omega
                              rw [this,Nat.zero_mul]
    rw [List.length_eq_zero_iff.1 h0] at hu;simp at hu
   ·refine ⟨⟨g,j * 1,none⟩,by simp [h],fun t u hu=>?_⟩;rw [Addr.add_lit];exact hcell t u hu
  have s1:Hid (news.length=(n - j) * 1):=Ja hlen;have s2:Hid (∀ u∈news,u.oneCell'=true):=by rw [hnews];exact Ja (JbR _)
  have hf1:i * 1+news.length≤cur.size:=by rw [hlen,hcs];omega
  have s3:=Ja hf1;obtain ⟨cur1,hcur1⟩: ∃ cur1,QC cur (i * 1) news=cur1:=⟨_,rfl⟩;obtain ⟨W1,hW1⟩: ∃ W1,w.drew.setRow g cur1=W1:=⟨_,rfl⟩;have hz1':cur1.size=cap * 1:=by rw [←hcur1,Xk hf1,hcs]
  have hg1:W1.heap[g]?=some (.cells cur1 9 (0,0)):=by rw [←hW1];exact Q6 (w:=w.drew) hg cur1
  have ht1:cur1.toList.take ((n - (j - i)) * 1)=Jq (l.take i++l.drop j):=by
   rw [←hcur1,Zt hf1 (by rw [hlen];omega),hnews,JaX, ←Jfj l i, ←htake,List.take_take,Nat.min_eq_left (by omega)]
  have hcl: ∀ ty,(Builtin.clear_ #[62] ty #[.slice (some ⟨g,(i+(n - j)) * 1,none⟩) (n - (i+(n - j))) (cap - (i+(n - j)))]).run Tryz.prog W1=.ok (.tuple #[]) (W1.setRow g (QC cur1 ((i+(n - j)) * 1) (Builtin.zeroCells ((.string ⟨#[]⟩):Value).cells (n - (i+(n - j)))).toList)):=
   fun ty=>Jcu W1 62 9 ty (.string ⟨#[]⟩) Tryz.underlying62 hv (by intro u hu;simp [Value.cells] at hu;subst hu;rfl) g ((i+(n - j)) * 1) _ _ cur1 9 hg1 (by omega) (by rw [hz1'];show _+_ * 1≤_;omega)
  have hf2:(i+(n - j)) * 1+(Builtin.zeroCells ((.string ⟨#[]⟩):Value).cells (n - (i+(n - j)))).toList.length≤cur1.size:=by rw [X9,hz1'];show _+_ * 1≤_;omega
  obtain ⟨cur2,hcur2⟩: ∃ cur2,QC cur1 ((i+(n - j)) * 1) (Builtin.zeroCells ((.string ⟨#[]⟩):Value).cells (n - (i+(n - j)))).toList=cur2:=⟨_,rfl⟩;rw [hcur2] at hcl;have hz2':cur2.size=cap * 1:=by rw [←hcur2,Xk hf2,hz1']
  have ht2:cur2.toList.take ((n - (j - i)) * 1)=Jq (l.take i++l.drop j):=by
   rw [←hcur2,JcG hf2 (by omega)];exact ht1
  have hg2:(W1.setRow g cur2).heap[g]?=some (.cells cur2 9 (0,0)):=Q6 hg1 cur2;have HKK:=Ja (show Jb [g] w (W1.setRow g cur2) from by rw [←hW1];exact (((Jb.refl [g] w).drew).trans (QW _ g cur1)).trans (QW _ g cur2));have HG:=Ja (show w.drew.heap[g]?=some (.cells cur 9 (0,0)) from hg);have HW1:=Ja hW1;have HC1:=Ja hcur1;have HFIN:=Ja (And.intro hg2 (And.intro hz2' ht2));have hic:i≤cap:=by omega
  have hjc:j≤cap:=by omega
  have hic2: ¬ cap=i:=by omega
  have hc3: ¬ cap=i+(n - j):=by omega
  have hnij:n - (j - i)=i+(n - j):=by omega
  rw [hnij] at HFIN ⊢;clear hg htake hnews hlen hcell hcur1 hcur2 hz1' hg1 ht1 hf1 hf2 hz2' ht2 hg2 hW1 hcs hv;simp only [Nat.mul_one] at hA hcl;go_enter Tryz.func199,Tryz.ntmps199;go_wp2_with fail
  go_region_law (refine Jdv rfl (.tmp 22) (.tmp 25) 62 rfl 9 i0 1 Tryz.underlying62 hi hz1 g i cap (by simp [Act.eval,Act.put]) cur HG.out A (n - j) (cap - j) news (by simp [Act.eval,Act.put]) s1.out hsrc.out s2.out (by omega) s3.out ?_;rw [HC1.out,HW1.out])
  go_wp2_with fail;go_ret;exact ⟨rfl,cur2,HFIN.out.1,HFIN.out.2.1,HFIN.out.2.2,HKK.out⟩
theorem JpD {cur:Array Value} {a z:Nat} {X D:List Value} (hX:X.length=z) (hf:a+z+D.length≤cur.size):
  QC (QC cur (a+z) D) a X=(cur.toList.take a++X++D++cur.toList.drop (a+z+D.length)).toArray:=by
 have e1:(QC cur (a+z) D).toList.take a=cur.toList.take a:=JcG hf (by omega);have e2:(QC cur (a+z) D).toList.drop (a+z)=D++cur.toList.drop (a+z+D.length):=by
  simp only [QC];rw [List.append_assoc,List.drop_append_of_le_length (by simp;omega),List.drop_eq_nil_of_le (by simp;omega),List.nil_append]
 unfold QC at e1 e2 ⊢;rw [e1,hX,e2];simp
theorem Jjc {cur:Array Value} {a z n:Nat} {A X D:List Value} (hX:X.length=z) (hf:a+z+D.length≤cur.size) (hA:cur.toList.take a=A) (hn:n=a+z+D.length):
  (QC (QC cur (a+z) D) a X).toList.take n=A++X++D:=by
 subst hn;have hAl:A.length=a:=by rw [←hA,List.length_take];simp;omega
 rw [JpD hX hf,hA];simp only;rw [List.take_append_of_le_length (by simp;omega)];exact List.take_of_length_le (by simp;omega)
theorem Jdu {w:World} {g:Nat} {cs:Array Value} {t:TypeId} {fz:Nat × Nat} (h:w.heap[g]?=some (.cells cs t fz)):w.shape? g=some (t,cs.size):=by simp [World.shape?,h]
set_option maxRecDepth 8000 in
theorem Jjw (w:World) (B:Nat) (v:Value) (n:Nat) (l:List En) (x:En) (vb:Nat) (h:w.ownsRow B 75 5 v n (Je l)) (hn:n≤1000) (hvb:w.heap[vb]?=some (.cells (Je [x]).toArray 75 (0,0))) (hB:B≤w.heap.size):
  Calls Tryz.prog 193 #[v,.int .i64 n,.slice (some ⟨vb,0,none⟩) 1 1] w fun e w'=> ∃ v',e=.returned v'∧w'.ownsRow B 75 5 v' (n+1) (Je l++Je [x])∧Jb v.ownBlock.toList w w'∧(v'.ownBlock=v.ownBlock∨v'.ownBlock=some w.heap.size):=by
 obtain ⟨i0,hi,hz0,hz1,hz2⟩:=info_parts Jcf;have hsrc: ∀ j u,(Je [x])[j]?=some u→w.cell? ((⟨vb,0,none⟩:Addr).add j)=some u:=fun j u hj=>by
  rw [Addr.add_lit,Nat.zero_add,cell_of_row w vb j _ _ _ hvb];simpa using hj
 have hlen:(Je [x]).length=1 * 5:=rfl;have hone:=Ja4 [x];obtain ⟨vo,vc,rfl⟩:=Jg h;have HH:=Ja h;have HS:=Ja hsrc;generalize Je [x]=X at *;generalize Je l=L at *;clear h hsrc hvb;rcases HH.out.2 with ⟨e,rfl⟩ | ⟨g,cap,cur,e,hBg,hg,hnc,hcap,_,_⟩
 ·injection e with e1 e2 e3
  subst e1 e3;go_enter Tryz.func193,Tryz.ntmps193;go_wp2_with (at_builtin;refine Jl _ rfl _ _ 61 rfl B 75 i0 _ 5 72 Tryz.underlying61 hi hz0 hz1 hz2 (by kernel_rfl) (by decide) (.slice none 0 0) 0 L rfl HH.out ⟨vb,0,none⟩ 1 1 X rfl hlen HS.out hone (by unfold maxLen;omega) (by omega) hB ?_);intro v3 w3 ho3 hg3 hw3;obtain ⟨o3,c3,rfl⟩:=Jg ho3;have HO:=Ja ho3;have HK:=Ja ((Jb.refl ((Value.slice none 0 0).ownBlock.toList) w).grown hg3 (fun i e=>.inl (by simp [Value.ownBlock] at e)));have HW3:=Ja hw3;clear ho3 hg3 hw3;go_wp2_with fail;go_ret;exact ⟨_,rfl,HO.out,HK.out,HW3.out⟩
 ·injection e with e1 e2 e3
  subst e1 e3;unfold maxLen at hcap;have hli:0<w.heap.size:=by have:=lt_of_block hg;omega
  clear hg;go_enter Tryz.func193,Tryz.ntmps193;go_wp2_with (at_builtin;refine Jl _ rfl _ _ 61 rfl B 75 i0 _ 5 72 Tryz.underlying61 hi hz0 hz1 hz2 (by kernel_rfl) (by decide) (.slice (some ⟨g,0,none⟩) n vc) n L rfl HH.out ⟨vb,0,none⟩ 1 1 X rfl hlen HS.out hone (by unfold maxLen;omega) (by omega) hB ?_)
  all_goals
   intro v3 w3 ho3 hg3 hw3;obtain ⟨o3,c3,rfl⟩:=Jg ho3;have HO:=Ja ho3;have HK:=Ja ((Jb.refl ((Value.slice (some ⟨g,0,none⟩) n vc).ownBlock.toList) w).grown hg3 (fun i e=>.inl (by simpa [Value.ownBlock,eq_comm] using e)));have HW3:=Ja hw3;clear ho3 hg3 hw3;go_wp2_with fail;go_ret;exact ⟨_,rfl,HO.out,HK.out,HW3.out⟩
set_option maxRecDepth 8000 in
theorem Jhv (w:World) (B g n cap i:Nat) (cur:Array Value) (l:List En) (x:En) (vb:Nat) (hl:l.length=n) (hBg:B≤g) (hg:w.heap[g]?=some (.cells cur 75 (0,0))) (hcs:cur.size=cap * 5) (htake:cur.toList.take (n * 5)=Je l) (hcap:cap≤maxLen) (hi':i<n) (hroom:n+1≤cap) (hn:n≤1000) (hvb:w.heap[vb]?=some (.cells (Je [x]).toArray 75 (0,0))) (hne:vb≠g):
  Calls Tryz.prog 193 #[.slice (some ⟨g,0,none⟩) n cap,.int .i64 i,.slice (some ⟨vb,0,none⟩) 1 1] w fun e w'=>e=.returned (.slice (some ⟨g,0,none⟩) (n+1) cap)∧w'.ownsRow B 75 5 (.slice (some ⟨g,0,none⟩) (n+1) cap) (n+1) (Je (l.take i++x::l.drop i))∧Jb [g] w w':=by
 obtain ⟨i0,hi,hz0,hz1,hz2⟩:=info_parts Jcf;have hsO: ∀ w,(Go.sizeOf 75).run Tryz.prog w=.ok 5 w:=fun w=>by simp [Go.sizeOf,typeInfo,hi,hz1]
 have hsrc: ∀ j u,(Je [x])[j]?=some u→w.cell? ((⟨vb,0,none⟩:Addr).add j)=some u:=fun j u hj=>by
  rw [Addr.add_lit,Nat.zero_add,cell_of_row w vb j _ _ _ hvb];simpa using hj
 have hlenX:(Je [x]).length=5:=rfl;have hone:=Ja4 [x];have hlenD:(Je (l.drop i)).length=(n - i) * 5:=by rw [Qu,List.length_drop,hl]
 have honeD:=Ja4 (l.drop i);have hsrcD: ∀ j u,(Je (l.drop i))[j]?=some u→w.cell? ((⟨g,i * 5,none⟩:Addr).add j)=some u:=fun j u hj=>by
  rw [Addr.add_lit];rw [←Jcr,List.getElem?_drop, ←htake,List.getElem?_take] at hj;split at hj
  ·rw [cell_of_row w g _ cur _ _ hg];simpa using hj
  ·cases hj
 have hA:cur.toList.take (i * 5)=Je (l.take i):=by rw [←ZH l i, ←htake,List.take_take,Nat.min_eq_left (by omega)]
 have hfit:i * 5+5+(Je (l.drop i)).length≤cur.size:=by rw [hlenD,hcs];omega
 have hfin:=Jjc (n:=(n+1) * 5) hlenX hfit hA (by rw [hlenD];omega);have hfinl:Je (l.take i)++Je [x]++Je (l.drop i)=Je (l.take i++x::l.drop i):=by rw [←XH, ←XH,List.append_assoc];rfl
 rw [hfinl] at hfin;have hov: ∀ lb cb,(callFunc 268 #[.slice (some ⟨vb,0,none⟩) 1 1,.slice (some ⟨g,(i+1) * 5,none⟩) lb cb]).run Tryz.prog w=.ok (.value (.bool false)) w:=fun lb cb=>by
  rw [run_callFunc_extern Tryz.func268 (by kernel_rfl) (by kernel_rfl) (by kernel_rfl) (e:=Extern.SlicesOverlaps.overlaps #[61,61] #[4]) (by kernel_rfl),
   Lib.run_overlaps_apart w 61 4 75 Tryz.underlying61 5 hsO ⟨vb,0,none⟩ ⟨g,(i+1) * 5,none⟩ 1 1 lb cb hne 75 75 5 cur.size (Jdu hvb) (Jdu hg) (by omega) (Jn hvb 0) (Jn hvb _)]
  rfl
 have e5:(i+1) * 5=i * 5+5:=by omega
 obtain ⟨cur1,hcur1⟩: ∃ c,QC cur ((i+1) * 5) (Je (l.drop i))=c:=⟨_,rfl⟩;rw [←e5,hcur1] at hfin;have hz1':cur1.size=cap * 5:=by rw [←hcur1,Xk (by rw [e5];exact hfit),hcs]
 obtain ⟨cur2,hcur2⟩: ∃ c,QC cur1 (i * 5) (Je [x])=c:=⟨_,rfl⟩;rw [hcur2] at hfin;have hz2':cur2.size=cap * 5:=by rw [←hcur2,Xk (by rw [hlenX,hz1'];omega),hz1']
 have hcp1: ∀ ty dc sc,(Builtin.copy_ #[61,61] ty #[.slice (some ⟨g,(i+1) * 5,none⟩) (n - i) dc,.slice (some ⟨g,i * 5,none⟩) (n+1 - i) sc]).run Tryz.prog w.drew=.ok (goInt ((n - i:Nat):Int)) (w.drew.setRow g cur1):=fun ty dc sc=>by
  have:=X7 (P:=Tryz.prog) w.drew 61 61 ty 75 i0 5 g ((i+1) * 5) (n - i) dc ⟨g,i * 5,none⟩ (n+1 - i) sc cur 75 (Je (l.drop i)) Tryz.underlying61 hi hz1 hg (n - i) (by simp only [Nat.min_def];split<;>omega) hlenD hsrcD (by rw [e5];exact hfit) honeD;rw [hcur1] at this;exact this
 obtain ⟨W1,hW1⟩: ∃ W1,w.drew.setRow g cur1=W1:=⟨_,rfl⟩;rw [hW1] at hcp1;have hg1:W1.heap[g]?=some (.cells cur1 75 (0,0)):=by rw [←hW1];exact Q6 (w:=w.drew) hg cur1
 have hvb1:W1.heap[vb]?=some (.cells (Je [x]).toArray 75 (0,0)):=by rw [←hW1,JaM _ hne];exact hvb
 have hcp2: ∀ (W:World),W.heap=W1.heap→ ∀ ty dc,(Builtin.copy_ #[61,61] ty #[.slice (some ⟨g,i * 5,none⟩) (n+1 - i) dc,.slice (some ⟨vb,0,none⟩) 1 1]).run Tryz.prog W=.ok (goInt ((1:Nat):Int)) (W.setRow g cur2):=fun W hWh ty dc=>by
  have:=X7 (P:=Tryz.prog) W 61 61 ty 75 i0 5 g (i * 5) (n+1 - i) dc ⟨vb,0,none⟩ 1 1 cur1 75 (Je [x]) Tryz.underlying61 hi hz1 (by rw [hWh];exact hg1) 1 (by simp only [Nat.min_def];split<;>omega) (by rw [hlenX]) (fun j u hj=>by
   rw [Addr.add_lit,Nat.zero_add,cell_of_row W vb j _ _ _ (by rw [hWh];exact hvb1)];simpa using hj) (by rw [hlenX,hz1'];omega) hone
  rw [hcur2] at this;exact this
 have HFIN:=Ja hfin;have HZ2:=Ja hz2';have HG1:=Ja hg1;have HW1:=Ja hW1;unfold maxLen at hcap;have hic: ¬ cap=i:=by omega
 have hic1: ¬ cap=i+1:=by omega
 have hwi:IntKind.i64.wrap ((i:Int)+1)=(i:Int)+1:=by rw [IntKind.wrap_i64];omega
 have hwn:IntKind.i64.wrap ((n:Int)+1)=(n:Int)+1:=by rw [IntKind.wrap_i64];omega
 have hb1:(0:Int)≤(i:Int)+1:=by omega
 have htn:((i:Int)+1).toNat=i+1:=by omega
 have hb3:(i:Int)≤(n:Int)+1:=by omega
 have hin2:i≤n:=by omega
 have hin: ¬ ((i:Int)=(n:Int)):=by omega
 have hcap2: ¬ ((cap:Int)<(n:Int)+1):=by omega
 have hi1:(i:Int)≤(n:Int):=by omega
 clear hsrc hsrcD hA hfit hfin hfinl hcur1 hcur2 hz1' hz2' hlenX hlenD hone honeD htake hg hvb hg1 hvb1 hW1 e5;go_enter Tryz.func193,Tryz.ntmps193;go_wp2_with (simp only [hov])
 go_region_law (refine step_copy_runI rfl _ _ 61 61 rfl _ _ (by simp [Act.eval,Act.put]) (by simp [Act.eval,Act.put]) (hcp1 _ _ _) ?_)
 go_wp2_with (at_builtin;refine wpList_copy_runI _ rfl _ _ 61 61 rfl _ _ rfl rfl (hcp2 _ rfl _ _) ?_);go_ret;refine ⟨rfl,⟨by rw [Qu];simp [hl];omega,.inr ⟨g,cap,cur2,rfl,hBg,Q6 HG1.out cur2,hroom,by unfold maxLen;exact hcap,HZ2.out,HFIN.out⟩⟩,?_⟩;rw [←HW1.out];exact (((Jb.refl [g] w).drew).trans (QW _ g cur1)).trans (QW _ g cur2)
set_option maxRecDepth 8000 in
theorem Jif (w:World) (B g n cap i:Nat) (cur:Array Value) (l:List En) (x:En) (vb:Nat) (hl:l.length=n) (hB:B≤w.heap.size) (hg:w.heap[g]?=some (.cells cur 75 (0,0))) (htake:cur.toList.take (n * 5)=Je l) (hi':i<n) (hnc:n≤cap) (hroom:cap<n+1) (hn:n≤1000) (hvb:w.heap[vb]?=some (.cells (Je [x]).toArray 75 (0,0))):
  Calls Tryz.prog 193 #[.slice (some ⟨g,0,none⟩) n cap,.int .i64 i,.slice (some ⟨vb,0,none⟩) 1 1] w fun e w'=> ∃ G,e=.returned (.slice (some ⟨w.heap.size,0,none⟩) (n+1) G)∧w'.ownsRow B 75 5 (.slice (some ⟨w.heap.size,0,none⟩) (n+1) G) (n+1) (Je (l.take i++x::l.drop i))∧Jb [] w w':=by
 obtain ⟨i0,hi,hz0,hz1,hz2⟩:=info_parts Jcf;have hgl:=lt_of_block hg;have hvl:=lt_of_block hvb;have hlenX:(Je [x]).length=5:=rfl;have hone:=Ja4 [x];have hlenD:(Je (l.drop i)).length=(n - i) * 5:=by rw [Qu,List.length_drop,hl]
 have honeD:=Ja4 (l.drop i);have hlenT:(Je (l.take i)).length=i * 5:=by rw [Qu,List.length_take,hl,Nat.min_eq_left (by omega)]
 have hA:cur.toList.take (i * 5)=Je (l.take i):=by rw [←ZH l i, ←htake,List.take_take,Nat.min_eq_left (by omega)]
 have hsrcD: ∀ j u,(Je (l.drop i))[j]?=some u→w.cell? ((⟨g,i * 5,none⟩:Addr).add j)=some u:=fun j u hj=>by
  rw [Addr.add_lit];rw [←Jcr,List.getElem?_drop, ←htake,List.getElem?_take] at hj;split at hj
  ·rw [cell_of_row w g _ cur _ _ hg];simpa using hj
  ·cases hj
 have hold:(Builtin.firstCells i0.size i (.slice (some ⟨g,0,none⟩) i cap)).run Tryz.prog w.drew=.ok (Je (l.take i)).toArray w.drew:=by
  rw [hz1];exact run_firstCells_some w.drew 5 i ⟨g,0,none⟩ i cap (Je (l.take i)) hlenT (fun j v hj=>by
   rw [Addr.add_lit,Nat.zero_add];rw [←hA,List.getElem?_take] at hj;split at hj
   ·show w.cell? _=_;rw [cell_of_row w g _ cur _ _ hg];simpa using hj
   ·cases hj)
 have hkk:(n:Int)+1 - (i:Int)=((n+1 - i:Nat):Int):=by omega
 have hik:i+(n+1 - i)=n+1:=by omega
 obtain ⟨G,hG⟩: ∃ G,grownCap w (n+1) cap 75=G:=⟨_,rfl⟩;have hGn:n+1≤G:=by rw [←hG];exact grownCap_ge w _ _ _
 have hGm:G≤maxLen:=by rw [←hG];exact grownCap_le_maxLen w (n+1) cap 75 (by unfold maxLen;omega)
 obtain ⟨ROW,hROW⟩: ∃ ROW:Array Value,(Je (l.take i)).toArray++Builtin.zeroCells ((.agg #[.string ⟨#[]⟩,.string ⟨#[]⟩,.string ⟨#[]⟩,.int .i64 0,.string ⟨#[]⟩]):Value).cells (n+1 - i)++Builtin.zeroCells ((.agg #[.string ⟨#[]⟩,.string ⟨#[]⟩,.string ⟨#[]⟩,.int .i64 0,.string ⟨#[]⟩]):Value).cells (G - (n+1))=ROW:=⟨_,rfl⟩;have hRs:ROW.size=G * 5:=by
  have z1:=X9 ((.agg #[.string ⟨#[]⟩,.string ⟨#[]⟩,.string ⟨#[]⟩,.int .i64 0,.string ⟨#[]⟩])) (n+1 - i);have z2:=X9 ((.agg #[.string ⟨#[]⟩,.string ⟨#[]⟩,.string ⟨#[]⟩,.int .i64 0,.string ⟨#[]⟩])) (G - (n+1));have zz:((.agg #[.string ⟨#[]⟩,.string ⟨#[]⟩,.string ⟨#[]⟩,.int .i64 0,.string ⟨#[]⟩]):Value).cells.size=5:=rfl;rw [zz] at z1 z2;rw [←hROW,Array.size_append,Array.size_append, ←Array.length_toList, ←Array.length_toList (xs:=Builtin.zeroCells _ (n+1 - i)), ←Array.length_toList (xs:=Builtin.zeroCells _ (G - (n+1))),z1,z2];simp only [hlenT];omega
 have hRt:ROW.toList.take (i * 5)=Je (l.take i):=by
  rw [←hROW];simp only [Array.toList_append];rw [List.append_assoc,List.take_append_of_le_length (by simp only [hlenT];omega),List.take_of_length_le (by simp only [hlenT];omega)]
 have hrz: ∀ ty,(Builtin.append_ #[61,3] ty #[.slice (some ⟨g,0,none⟩) i cap,.int .i64 ((n:Int)+1 - (i:Int))]).run Tryz.prog w=.ok (.slice (some ⟨w.heap.size,0,none⟩) (n+1) G) (w.drew.alloc (.cells ROW 75)):=fun ty=>by
  have h:=Lib.run_append_grow_zeros w 61 3 ty 75 i0 _ .i64 .i64 Tryz.underlying61 Tryz.underlying3 hi hz0 (some ⟨g,0,none⟩) i cap (Je (l.take i)) hold (n+1 - i) (by omega) (by omega) (by omega) (by omega) (by rw [hz2];omega) (by rw [hz2,hik];exact growslice_fits hroom (by omega));rw [hik,hG,hROW] at h;rw [hkk];exact h
 obtain ⟨W1,hW1⟩: ∃ W1,w.drew.alloc (.cells ROW 75)=W1:=⟨_,rfl⟩;rw [hW1] at hrz;have hN:W1.heap[w.heap.size]?=some (.cells ROW 75 (0,0)):=by rw [←hW1];exact heap_alloc_new w.drew _
 have hold1: ∀ k,k<w.heap.size→W1.heap[k]?=w.heap[k]?:=fun k hk=>by rw [←hW1];exact heap_alloc_old w.drew _ hk
 obtain ⟨cur1,hcur1⟩: ∃ c,QC ROW (i * 5) (Je [x])=c:=⟨_,rfl⟩;have hf1:i * 5+(Je [x]).length≤ROW.size:=by rw [hlenX,hRs];omega
 have hs1:cur1.size=G * 5:=by rw [←hcur1,Xk hf1,hRs]
 have ht1:cur1.toList.take ((i+1) * 5)=Je (l.take i)++Je [x]:=by rw [←hcur1,Zt hf1 (by rw [hlenX];omega),hRt]
 obtain ⟨cur2,hcur2⟩: ∃ c,QC cur1 ((i+1) * 5) (Je (l.drop i))=c:=⟨_,rfl⟩;have hf2:(i+1) * 5+(Je (l.drop i)).length≤cur1.size:=by rw [hlenD,hs1];omega
 have hs2:cur2.size=G * 5:=by rw [←hcur2,Xk hf2,hs1]
 have hfinl:Je (l.take i)++Je [x]++Je (l.drop i)=Je (l.take i++x::l.drop i):=by rw [←XH, ←XH,List.append_assoc];rfl
 have ht2:cur2.toList.take ((n+1) * 5)=Je (l.take i++x::l.drop i):=by rw [←hcur2,Zt hf2 (by rw [hlenD];omega),ht1,hfinl]
 have hcpA: ∀ (W:World),W.heap=W1.heap→ ∀ ty dc,(Builtin.copy_ #[61,61] ty #[.slice (some ⟨w.heap.size,i * 5,none⟩) (n+1 - i) dc,.slice (some ⟨vb,0,none⟩) 1 1]).run Tryz.prog W=.ok (goInt ((1:Nat):Int)) (W.setRow w.heap.size cur1):=fun W hWh ty dc=>by
  have:=X7 (P:=Tryz.prog) W 61 61 ty 75 i0 5 w.heap.size (i * 5) (n+1 - i) dc ⟨vb,0,none⟩ 1 1 ROW 75 (Je [x]) Tryz.underlying61 hi hz1 (by rw [hWh];exact hN) 1 (by simp only [Nat.min_def];split<;>omega) (by rw [hlenX]) (fun j u hj=>by
   rw [Addr.add_lit,Nat.zero_add,cell_of_row W vb j _ _ _ (by rw [hWh,hold1 _ hvl];exact hvb)];simpa using hj) hf1 hone
  rw [hcur1] at this;exact this
 have hcpB: ∀ (W:World),W.heap=(W1.setRow w.heap.size cur1).heap→ ∀ ty dc sc,(Builtin.copy_ #[61,61] ty #[.slice (some ⟨w.heap.size,(i+1) * 5,none⟩) (n - i) dc,.slice (some ⟨g,i * 5,none⟩) (n - i) sc]).run Tryz.prog W=.ok (goInt ((n - i:Nat):Int)) (W.setRow w.heap.size cur2):=fun W hWh ty dc sc=>by
  have:=X7 (P:=Tryz.prog) W 61 61 ty 75 i0 5 w.heap.size ((i+1) * 5) (n - i) dc ⟨g,i * 5,none⟩ (n - i) sc cur1 75 (Je (l.drop i)) Tryz.underlying61 hi hz1 (by rw [hWh];exact Q6 hN cur1) (n - i) (by simp only [Nat.min_def];split<;>omega) hlenD (fun j u hj=>by
   have:=hsrcD j u hj;rw [Addr.add_lit] at this ⊢;rw [cell_of_row w g _ cur _ _ hg] at this;rw [cell_of_row W g _ cur _ _ (by rw [hWh,JaM _ (by omega),hold1 _ hgl];exact hg)];exact this) hf2 honeD
  rw [hcur2] at this;exact this
 have HT2:=Ja ht2;have HS2:=Ja hs2;have HN:=Ja hN;have HW1:=Ja hW1;have HGM:=Ja hGm;unfold maxLen at hGm;have hic: ¬ cap=i:=by omega
 have hGi: ¬ G=i:=by omega
 have hGi1: ¬ G=i+1:=by omega
 have hwi:IntKind.i64.wrap ((i:Int)+1)=(i:Int)+1:=by rw [IntKind.wrap_i64];omega
 have hwn:IntKind.i64.wrap ((n:Int)+1)=(n:Int)+1:=by rw [IntKind.wrap_i64];omega
 have hwk:IntKind.i64.wrap ((n:Int)+1 - (i:Int))=(n:Int)+1 - (i:Int):=by rw [IntKind.wrap_i64];omega
 have hb1:(0:Int)≤(i:Int)+1:=by omega
 have htn:((i:Int)+1).toNat=i+1:=by omega
 have hb3:(i:Int)≤(n:Int)+1:=by omega
 have hin2:i≤n:=by omega
 have hin: ¬ ((i:Int)=(n:Int)):=by omega
 have hcap2:(cap:Int)<(n:Int)+1:=by omega
 have hi1:(i:Int)≤(n:Int):=by omega
 clear hsrcD hA hlenX hlenD hlenT hone honeD htake hg hvb hN hW1 hold1 hold hkk hik hG hROW hRs hRt hf1 hs1 ht1 hf2 hs2 ht2 hfinl hcur1 hcur2;go_enter Tryz.func193,Tryz.ntmps193
 go_wp2_with (first
  | (at_builtin;refine Lib.wpList_append_run _ rfl _ _ _ _ rfl _ _ rfl rfl _ _ (hrz _) ?_)
  | (at_builtin;refine wpList_copy_runI _ rfl _ _ 61 61 rfl _ _ rfl rfl (hcpA _ rfl _ _) ?_))
 go_region_law (refine step_copy_runI rfl _ _ 61 61 rfl (.slice (some ⟨w.heap.size,(i+1) * 5,none⟩) (n - i) (G - (i+1))) (.slice (some ⟨g,i * 5,none⟩) (n - i) (cap - i)) (by simp [Act.eval,Act.put]) (by simp [Act.eval,Act.put]) (hcpB ((W1.setRow w.heap.size cur1).drew) rfl 3 (G - (i+1)) (cap - i)) ?_)
 go_wp2_with fail;go_ret;have k1:Jb [] w W1:=by rw [←HW1.out];exact ((Jb.refl [] w).drew).alloc _
 have hg9: ∀ g',g'∈[w.heap.size]→¬ g'<w.heap.size:=fun g' hg'=>by simp at hg';omega
 have k2:=JF k1 (QW W1 w.heap.size cur1) (fun g' hg' hlt=>(hg9 g' hg' hlt).elim);have k4:=JF (k2.drew) (QW _ w.heap.size cur2) (fun g' hg' hlt=>(hg9 g' hg' hlt).elim);exact ⟨G,rfl,⟨by rw [Qu];simp [hl];omega,.inr ⟨w.heap.size,G,cur2,rfl,hB,Q6 (Q6 HN.out cur1) cur2,hGn,HGM.out,HS2.out,HT2.out⟩⟩,k4⟩
theorem JeH (w:World) (B i:Nat) (v:Value) (l:List En) (x:En) (vb:Nat) (h:w.ownsRow B 75 5 v l.length (Je l)) (hi':i≤l.length) (hn:l.length≤1000) (hvb:w.heap[vb]?=some (.cells (Je [x]).toArray 75 (0,0))) (hne:v.ownBlock≠some vb) (hB:B≤w.heap.size):
  Calls Tryz.prog 193 #[v,.int .i64 i,.slice (some ⟨vb,0,none⟩) 1 1] w fun e w'=> ∃ v',e=.returned v'∧w'.ownsRow B 75 5 v' (l.length+1) (Je (l.take i++x::l.drop i))∧Jb v.ownBlock.toList w w'∧(v'.ownBlock=v.ownBlock∨v'.ownBlock=some w.heap.size):=by
 by_cases hil:i=l.length
 ·subst hil;refine (Jjw w B v l.length l x vb h hn hvb hB).mono ?_;rintro e w' ⟨v',rfl,ho,hk,hv⟩;refine ⟨v',rfl,?_,hk,hv⟩;rw [List.take_of_length_le (Nat.le_refl _),List.drop_eq_nil_of_le (Nat.le_refl _),XH];exact ho
 ·rcases h.2 with ⟨rfl,h0⟩ | ⟨g,cap,cur,rfl,hBg,hg,hnc,hcap,hcs,htake⟩
  ·omega
  ·by_cases hroom:l.length+1≤cap
   ·refine (Jhv w B g l.length cap i cur l x vb rfl hBg hg hcs htake hcap (by omega) hroom hn hvb (fun e=>hne (by rw [e];rfl))).mono ?_;rintro e w' ⟨rfl,ho,hk⟩;exact ⟨_,rfl,ho,hk,.inl rfl⟩
   ·refine (Jif w B g l.length cap i cur l x vb rfl hB hg htake (by omega) hnc (by omega) hn hvb).mono ?_;rintro e w' ⟨G,rfl,ho,hk⟩;exact ⟨_,rfl,ho,hk.to (by simp),.inr rfl⟩
set_option maxRecDepth 8000 in
theorem Jjy (w:World) (B:Nat) (v:Value) (n:Nat) (l:List (List UInt8)) (x:(List UInt8)) (vb:Nat) (h:w.ownsRow B 9 1 v n (Jq l)) (hn:n≤1000) (hvb:w.heap[vb]?=some (.cells (Jq [x]).toArray 9 (0,0))) (hB:B≤w.heap.size):
  Calls Tryz.prog 198 #[v,.int .i64 n,.slice (some ⟨vb,0,none⟩) 1 1] w fun e w'=> ∃ v',e=.returned v'∧w'.ownsRow B 9 1 v' (n+1) (Jq l++Jq [x])∧Jb v.ownBlock.toList w w'∧(v'.ownBlock=v.ownBlock∨v'.ownBlock=some w.heap.size):=by
 obtain ⟨i0,hi,hz0,hz1,hz2⟩:=info_parts Jcg;have hsrc: ∀ j u,(Jq [x])[j]?=some u→w.cell? ((⟨vb,0,none⟩:Addr).add j)=some u:=fun j u hj=>by
  rw [Addr.add_lit,Nat.zero_add,cell_of_row w vb j _ _ _ hvb];simpa using hj
 have hlen:(Jq [x]).length=1 * 1:=rfl;have hone:=JbR [x];obtain ⟨vo,vc,rfl⟩:=Jg h;have HH:=Ja h;have HS:=Ja hsrc;generalize Jq [x]=X at *;generalize Jq l=L at *;clear h hsrc hvb;rcases HH.out.2 with ⟨e,rfl⟩ | ⟨g,cap,cur,e,hBg,hg,hnc,hcap,_,_⟩
 ·injection e with e1 e2 e3
  subst e1 e3;go_enter Tryz.func198,Tryz.ntmps198;go_wp2_with (at_builtin;refine Jl _ rfl _ _ 62 rfl B 9 i0 _ 1 16 Tryz.underlying62 hi hz0 hz1 hz2 (by kernel_rfl) (by decide) (.slice none 0 0) 0 L rfl HH.out ⟨vb,0,none⟩ 1 1 X rfl hlen HS.out hone (by unfold maxLen;omega) (by omega) hB ?_);intro v3 w3 ho3 hg3 hw3;obtain ⟨o3,c3,rfl⟩:=Jg ho3;have HO:=Ja ho3;have HK:=Ja ((Jb.refl ((Value.slice none 0 0).ownBlock.toList) w).grown hg3 (fun i e=>.inl (by simp [Value.ownBlock] at e)));have HW3:=Ja hw3;clear ho3 hg3 hw3;go_wp2_with fail;go_ret;exact ⟨_,rfl,HO.out,HK.out,HW3.out⟩
 ·injection e with e1 e2 e3
  subst e1 e3;unfold maxLen at hcap;have hli:0<w.heap.size:=by have:=lt_of_block hg;omega
  clear hg;go_enter Tryz.func198,Tryz.ntmps198;go_wp2_with (at_builtin;refine Jl _ rfl _ _ 62 rfl B 9 i0 _ 1 16 Tryz.underlying62 hi hz0 hz1 hz2 (by kernel_rfl) (by decide) (.slice (some ⟨g,0,none⟩) n vc) n L rfl HH.out ⟨vb,0,none⟩ 1 1 X rfl hlen HS.out hone (by unfold maxLen;omega) (by omega) hB ?_)
  all_goals
   intro v3 w3 ho3 hg3 hw3;obtain ⟨o3,c3,rfl⟩:=Jg ho3;have HO:=Ja ho3;have HK:=Ja ((Jb.refl ((Value.slice (some ⟨g,0,none⟩) n vc).ownBlock.toList) w).grown hg3 (fun i e=>.inl (by simpa [Value.ownBlock,eq_comm] using e)));have HW3:=Ja hw3;clear ho3 hg3 hw3;go_wp2_with fail;go_ret;exact ⟨_,rfl,HO.out,HK.out,HW3.out⟩
set_option maxRecDepth 8000 in
theorem Jhw (w:World) (B g n cap i:Nat) (cur:Array Value) (l:List (List UInt8)) (x:(List UInt8)) (vb:Nat) (hl:l.length=n) (hBg:B≤g) (hg:w.heap[g]?=some (.cells cur 9 (0,0))) (hcs:cur.size=cap * 1) (htake:cur.toList.take (n * 1)=Jq l) (hcap:cap≤maxLen) (hi':i<n) (hroom:n+1≤cap) (hn:n≤1000) (hvb:w.heap[vb]?=some (.cells (Jq [x]).toArray 9 (0,0))) (hne:vb≠g):
  Calls Tryz.prog 198 #[.slice (some ⟨g,0,none⟩) n cap,.int .i64 i,.slice (some ⟨vb,0,none⟩) 1 1] w fun e w'=>e=.returned (.slice (some ⟨g,0,none⟩) (n+1) cap)∧w'.ownsRow B 9 1 (.slice (some ⟨g,0,none⟩) (n+1) cap) (n+1) (Jq (l.take i++x::l.drop i))∧Jb [g] w w':=by
 obtain ⟨i0,hi,hz0,hz1,hz2⟩:=info_parts Jcg;have hsO: ∀ w,(Go.sizeOf 9).run Tryz.prog w=.ok 1 w:=fun w=>by simp [Go.sizeOf,typeInfo,hi,hz1]
 have hsrc: ∀ j u,(Jq [x])[j]?=some u→w.cell? ((⟨vb,0,none⟩:Addr).add j)=some u:=fun j u hj=>by
  rw [Addr.add_lit,Nat.zero_add,cell_of_row w vb j _ _ _ hvb];simpa using hj
 have hlenX:(Jq [x]).length=1:=rfl;have hone:=JbR [x];have hlenD:(Jq (l.drop i)).length=(n - i) * 1:=by rw [Z5,List.length_drop,hl]
 have honeD:=JbR (l.drop i);have hsrcD: ∀ j u,(Jq (l.drop i))[j]?=some u→w.cell? ((⟨g,i * 1,none⟩:Addr).add j)=some u:=fun j u hj=>by
  rw [Addr.add_lit];rw [←Jfi,List.getElem?_drop, ←htake,List.getElem?_take] at hj;split at hj
  ·rw [cell_of_row w g _ cur _ _ hg];simpa using hj
  ·cases hj
 have hA:cur.toList.take (i * 1)=Jq (l.take i):=by rw [←Jfj l i, ←htake,List.take_take,Nat.min_eq_left (by omega)]
 have hfit:i * 1+1+(Jq (l.drop i)).length≤cur.size:=by rw [hlenD,hcs];omega
 have hfin:=Jjc (n:=(n+1) * 1) hlenX hfit hA (by rw [hlenD];omega);have hfinl:Jq (l.take i)++Jq [x]++Jq (l.drop i)=Jq (l.take i++x::l.drop i):=by rw [←JaX, ←JaX,List.append_assoc];rfl
 rw [hfinl] at hfin;have hov: ∀ lb cb,(callFunc 273 #[.slice (some ⟨vb,0,none⟩) 1 1,.slice (some ⟨g,(i+1) * 1,none⟩) lb cb]).run Tryz.prog w=.ok (.value (.bool false)) w:=fun lb cb=>by
  rw [run_callFunc_extern Tryz.func273 (by kernel_rfl) (by kernel_rfl) (by kernel_rfl) (e:=Extern.SlicesOverlaps.overlaps #[62,62] #[4]) (by kernel_rfl),
   Lib.run_overlaps_apart w 62 4 9 Tryz.underlying62 1 hsO ⟨vb,0,none⟩ ⟨g,(i+1) * 1,none⟩ 1 1 lb cb hne 9 9 1 cur.size (Jdu hvb) (Jdu hg) (by omega) (Jn hvb 0) (Jn hvb _)]
  rfl
 have e5:(i+1) * 1=i * 1+1:=by omega
 obtain ⟨cur1,hcur1⟩: ∃ c,QC cur ((i+1) * 1) (Jq (l.drop i))=c:=⟨_,rfl⟩;rw [←e5,hcur1] at hfin;have hz1':cur1.size=cap * 1:=by rw [←hcur1,Xk (by rw [e5];exact hfit),hcs]
 obtain ⟨cur2,hcur2⟩: ∃ c,QC cur1 (i * 1) (Jq [x])=c:=⟨_,rfl⟩;rw [hcur2] at hfin;have hz2':cur2.size=cap * 1:=by rw [←hcur2,Xk (by rw [hlenX,hz1'];omega),hz1']
 have hcp1: ∀ ty dc sc,(Builtin.copy_ #[62,62] ty #[.slice (some ⟨g,(i+1) * 1,none⟩) (n - i) dc,.slice (some ⟨g,i * 1,none⟩) (n+1 - i) sc]).run Tryz.prog w.drew=.ok (goInt ((n - i:Nat):Int)) (w.drew.setRow g cur1):=fun ty dc sc=>by
  have:=X7 (P:=Tryz.prog) w.drew 62 62 ty 9 i0 1 g ((i+1) * 1) (n - i) dc ⟨g,i * 1,none⟩ (n+1 - i) sc cur 9 (Jq (l.drop i)) Tryz.underlying62 hi hz1 hg (n - i) (by simp only [Nat.min_def];split<;>omega) hlenD hsrcD (by rw [e5];exact hfit) honeD;rw [hcur1] at this;exact this
 obtain ⟨W1,hW1⟩: ∃ W1,w.drew.setRow g cur1=W1:=⟨_,rfl⟩;rw [hW1] at hcp1;have hg1:W1.heap[g]?=some (.cells cur1 9 (0,0)):=by rw [←hW1];exact Q6 (w:=w.drew) hg cur1
 have hvb1:W1.heap[vb]?=some (.cells (Jq [x]).toArray 9 (0,0)):=by rw [←hW1,JaM _ hne];exact hvb
 have hcp2: ∀ (W:World),W.heap=W1.heap→ ∀ ty dc,(Builtin.copy_ #[62,62] ty #[.slice (some ⟨g,i * 1,none⟩) (n+1 - i) dc,.slice (some ⟨vb,0,none⟩) 1 1]).run Tryz.prog W=.ok (goInt ((1:Nat):Int)) (W.setRow g cur2):=fun W hWh ty dc=>by
  have:=X7 (P:=Tryz.prog) W 62 62 ty 9 i0 1 g (i * 1) (n+1 - i) dc ⟨vb,0,none⟩ 1 1 cur1 9 (Jq [x]) Tryz.underlying62 hi hz1 (by rw [hWh];exact hg1) 1 (by simp only [Nat.min_def];split<;>omega) (by rw [hlenX]) (fun j u hj=>by
   rw [Addr.add_lit,Nat.zero_add,cell_of_row W vb j _ _ _ (by rw [hWh];exact hvb1)];simpa using hj) (by rw [hlenX,hz1'];omega) hone
  rw [hcur2] at this;exact this
 have HFIN:=Ja hfin;have HZ2:=Ja hz2';have HG1:=Ja hg1;have HW1:=Ja hW1;unfold maxLen at hcap;have hic: ¬ cap=i:=by omega
 have hic1: ¬ cap=i+1:=by omega
 have hwi:IntKind.i64.wrap ((i:Int)+1)=(i:Int)+1:=by rw [IntKind.wrap_i64];omega
 have hwn:IntKind.i64.wrap ((n:Int)+1)=(n:Int)+1:=by rw [IntKind.wrap_i64];omega
 have hb1:(0:Int)≤(i:Int)+1:=by omega
 have htn:((i:Int)+1).toNat=i+1:=by omega
 have hb3:(i:Int)≤(n:Int)+1:=by omega
 have hin2:i≤n:=by omega
 have hin: ¬ ((i:Int)=(n:Int)):=by omega
 have hcap2: ¬ ((cap:Int)<(n:Int)+1):=by omega
 have hi1:(i:Int)≤(n:Int):=by omega
 clear hsrc hsrcD hA hfit hfin hfinl hcur1 hcur2 hz1' hz2' hlenX hlenD hone honeD htake hg hvb hg1 hvb1 hW1 e5;simp only [Nat.mul_one] at hov hcp1 hcp2;go_enter Tryz.func198,Tryz.ntmps198;go_wp2_with (simp only [hov])
 go_region_law (refine step_copy_runI rfl _ _ 62 62 rfl _ _ (by simp [Act.eval,Act.put]) (by simp [Act.eval,Act.put]) (hcp1 _ _ _) ?_)
 go_wp2_with (at_builtin;refine wpList_copy_runI _ rfl _ _ 62 62 rfl _ _ rfl rfl (hcp2 _ rfl _ _) ?_);go_ret;refine ⟨rfl,⟨by rw [Z5];simp [hl];omega,.inr ⟨g,cap,cur2,rfl,hBg,Q6 HG1.out cur2,hroom,by unfold maxLen;exact hcap,HZ2.out,HFIN.out⟩⟩,?_⟩;rw [←HW1.out];exact (((Jb.refl [g] w).drew).trans (QW _ g cur1)).trans (QW _ g cur2)
set_option maxRecDepth 8000 in
theorem Jig (w:World) (B g n cap i:Nat) (cur:Array Value) (l:List (List UInt8)) (x:(List UInt8)) (vb:Nat) (hl:l.length=n) (hB:B≤w.heap.size) (hg:w.heap[g]?=some (.cells cur 9 (0,0))) (htake:cur.toList.take (n * 1)=Jq l) (hi':i<n) (hnc:n≤cap) (hroom:cap<n+1) (hn:n≤1000) (hvb:w.heap[vb]?=some (.cells (Jq [x]).toArray 9 (0,0))):
  Calls Tryz.prog 198 #[.slice (some ⟨g,0,none⟩) n cap,.int .i64 i,.slice (some ⟨vb,0,none⟩) 1 1] w fun e w'=> ∃ G,e=.returned (.slice (some ⟨w.heap.size,0,none⟩) (n+1) G)∧w'.ownsRow B 9 1 (.slice (some ⟨w.heap.size,0,none⟩) (n+1) G) (n+1) (Jq (l.take i++x::l.drop i))∧Jb [] w w':=by
 obtain ⟨i0,hi,hz0,hz1,hz2⟩:=info_parts Jcg;have hgl:=lt_of_block hg;have hvl:=lt_of_block hvb;have hlenX:(Jq [x]).length=1:=rfl;have hone:=JbR [x];have hlenD:(Jq (l.drop i)).length=(n - i) * 1:=by rw [Z5,List.length_drop,hl]
 have honeD:=JbR (l.drop i);have hlenT:(Jq (l.take i)).length=i * 1:=by rw [Z5,List.length_take,hl,Nat.min_eq_left (by omega)]
 have hA:cur.toList.take (i * 1)=Jq (l.take i):=by rw [←Jfj l i, ←htake,List.take_take,Nat.min_eq_left (by omega)]
 have hsrcD: ∀ j u,(Jq (l.drop i))[j]?=some u→w.cell? ((⟨g,i * 1,none⟩:Addr).add j)=some u:=fun j u hj=>by
  rw [Addr.add_lit];rw [←Jfi,List.getElem?_drop, ←htake,List.getElem?_take] at hj;split at hj
  ·rw [cell_of_row w g _ cur _ _ hg];simpa using hj
  ·cases hj
 have hold:(Builtin.firstCells i0.size i (.slice (some ⟨g,0,none⟩) i cap)).run Tryz.prog w.drew=.ok (Jq (l.take i)).toArray w.drew:=by
  rw [hz1];exact run_firstCells_some w.drew 1 i ⟨g,0,none⟩ i cap (Jq (l.take i)) hlenT (fun j v hj=>by
   rw [Addr.add_lit,Nat.zero_add];rw [←hA,List.getElem?_take] at hj;split at hj
   ·show w.cell? _=_;rw [cell_of_row w g _ cur _ _ hg];simpa using hj
   ·cases hj)
 have hkk:(n:Int)+1 - (i:Int)=((n+1 - i:Nat):Int):=by omega
 have hik:i+(n+1 - i)=n+1:=by omega
 obtain ⟨G,hG⟩: ∃ G,grownCap w (n+1) cap 9=G:=⟨_,rfl⟩;have hGn:n+1≤G:=by rw [←hG];exact grownCap_ge w _ _ _
 have hGm:G≤maxLen:=by rw [←hG];exact grownCap_le_maxLen w (n+1) cap 9 (by unfold maxLen;omega)
 obtain ⟨ROW,hROW⟩: ∃ ROW:Array Value,(Jq (l.take i)).toArray++Builtin.zeroCells ((.string ⟨#[]⟩):Value).cells (n+1 - i)++Builtin.zeroCells ((.string ⟨#[]⟩):Value).cells (G - (n+1))=ROW:=⟨_,rfl⟩;have hRs:ROW.size=G * 1:=by
  have z1:=X9 ((.string ⟨#[]⟩)) (n+1 - i);have z2:=X9 ((.string ⟨#[]⟩)) (G - (n+1));have zz:((.string ⟨#[]⟩):Value).cells.size=1:=rfl;rw [zz] at z1 z2;rw [←hROW,Array.size_append,Array.size_append, ←Array.length_toList, ←Array.length_toList (xs:=Builtin.zeroCells _ (n+1 - i)), ←Array.length_toList (xs:=Builtin.zeroCells _ (G - (n+1))),z1,z2];simp only [hlenT];omega
 have hRt:ROW.toList.take (i * 1)=Jq (l.take i):=by
  rw [←hROW];simp only [Array.toList_append];rw [List.append_assoc,List.take_append_of_le_length (by simp only [hlenT];omega),List.take_of_length_le (by simp only [hlenT];omega)]
 have hrz: ∀ ty,(Builtin.append_ #[62,3] ty #[.slice (some ⟨g,0,none⟩) i cap,.int .i64 ((n:Int)+1 - (i:Int))]).run Tryz.prog w=.ok (.slice (some ⟨w.heap.size,0,none⟩) (n+1) G) (w.drew.alloc (.cells ROW 9)):=fun ty=>by
  have h:=Lib.run_append_grow_zeros w 62 3 ty 9 i0 _ .i64 .i64 Tryz.underlying62 Tryz.underlying3 hi hz0 (some ⟨g,0,none⟩) i cap (Jq (l.take i)) hold (n+1 - i) (by omega) (by omega) (by omega) (by omega) (by rw [hz2];omega) (by rw [hz2,hik];exact growslice_fits hroom (by omega));rw [hik,hG,hROW] at h;rw [hkk];exact h
 obtain ⟨W1,hW1⟩: ∃ W1,w.drew.alloc (.cells ROW 9)=W1:=⟨_,rfl⟩;rw [hW1] at hrz;have hN:W1.heap[w.heap.size]?=some (.cells ROW 9 (0,0)):=by rw [←hW1];exact heap_alloc_new w.drew _
 have hold1: ∀ k,k<w.heap.size→W1.heap[k]?=w.heap[k]?:=fun k hk=>by rw [←hW1];exact heap_alloc_old w.drew _ hk
 obtain ⟨cur1,hcur1⟩: ∃ c,QC ROW (i * 1) (Jq [x])=c:=⟨_,rfl⟩;have hf1:i * 1+(Jq [x]).length≤ROW.size:=by rw [hlenX,hRs];omega
 have hs1:cur1.size=G * 1:=by rw [←hcur1,Xk hf1,hRs]
 have ht1:cur1.toList.take ((i+1) * 1)=Jq (l.take i)++Jq [x]:=by rw [←hcur1,Zt hf1 (by rw [hlenX];omega),hRt]
 obtain ⟨cur2,hcur2⟩: ∃ c,QC cur1 ((i+1) * 1) (Jq (l.drop i))=c:=⟨_,rfl⟩;have hf2:(i+1) * 1+(Jq (l.drop i)).length≤cur1.size:=by rw [hlenD,hs1];omega
 have hs2:cur2.size=G * 1:=by rw [←hcur2,Xk hf2,hs1]
 have hfinl:Jq (l.take i)++Jq [x]++Jq (l.drop i)=Jq (l.take i++x::l.drop i):=by rw [←JaX, ←JaX,List.append_assoc];rfl
 have ht2:cur2.toList.take ((n+1) * 1)=Jq (l.take i++x::l.drop i):=by rw [←hcur2,Zt hf2 (by rw [hlenD];omega),ht1,hfinl]
 have hcpA: ∀ (W:World),W.heap=W1.heap→ ∀ ty dc,(Builtin.copy_ #[62,62] ty #[.slice (some ⟨w.heap.size,i * 1,none⟩) (n+1 - i) dc,.slice (some ⟨vb,0,none⟩) 1 1]).run Tryz.prog W=.ok (goInt ((1:Nat):Int)) (W.setRow w.heap.size cur1):=fun W hWh ty dc=>by
  have:=X7 (P:=Tryz.prog) W 62 62 ty 9 i0 1 w.heap.size (i * 1) (n+1 - i) dc ⟨vb,0,none⟩ 1 1 ROW 9 (Jq [x]) Tryz.underlying62 hi hz1 (by rw [hWh];exact hN) 1 (by simp only [Nat.min_def];split<;>omega) (by rw [hlenX]) (fun j u hj=>by
   rw [Addr.add_lit,Nat.zero_add,cell_of_row W vb j _ _ _ (by rw [hWh,hold1 _ hvl];exact hvb)];simpa using hj) hf1 hone
  rw [hcur1] at this;exact this
 have hcpB: ∀ (W:World),W.heap=(W1.setRow w.heap.size cur1).heap→ ∀ ty dc sc,(Builtin.copy_ #[62,62] ty #[.slice (some ⟨w.heap.size,(i+1) * 1,none⟩) (n - i) dc,.slice (some ⟨g,i * 1,none⟩) (n - i) sc]).run Tryz.prog W=.ok (goInt ((n - i:Nat):Int)) (W.setRow w.heap.size cur2):=fun W hWh ty dc sc=>by
  have:=X7 (P:=Tryz.prog) W 62 62 ty 9 i0 1 w.heap.size ((i+1) * 1) (n - i) dc ⟨g,i * 1,none⟩ (n - i) sc cur1 9 (Jq (l.drop i)) Tryz.underlying62 hi hz1 (by rw [hWh];exact Q6 hN cur1) (n - i) (by simp only [Nat.min_def];split<;>omega) hlenD (fun j u hj=>by
   have:=hsrcD j u hj;rw [Addr.add_lit] at this ⊢;rw [cell_of_row w g _ cur _ _ hg] at this;rw [cell_of_row W g _ cur _ _ (by rw [hWh,JaM _ (by omega),hold1 _ hgl];exact hg)];exact this) hf2 honeD
  rw [hcur2] at this;exact this
 have HT2:=Ja ht2;have HS2:=Ja hs2;have HN:=Ja hN;have HW1:=Ja hW1;have HGM:=Ja hGm;unfold maxLen at hGm;have hic: ¬ cap=i:=by omega
 have hGi: ¬ G=i:=by omega
 have hGi1: ¬ G=i+1:=by omega
 have hwi:IntKind.i64.wrap ((i:Int)+1)=(i:Int)+1:=by rw [IntKind.wrap_i64];omega
 have hwn:IntKind.i64.wrap ((n:Int)+1)=(n:Int)+1:=by rw [IntKind.wrap_i64];omega
 have hwk:IntKind.i64.wrap ((n:Int)+1 - (i:Int))=(n:Int)+1 - (i:Int):=by rw [IntKind.wrap_i64];omega
 have hb1:(0:Int)≤(i:Int)+1:=by omega
 have htn:((i:Int)+1).toNat=i+1:=by omega
 have hb3:(i:Int)≤(n:Int)+1:=by omega
 have hin2:i≤n:=by omega
 have hin: ¬ ((i:Int)=(n:Int)):=by omega
 have hcap2:(cap:Int)<(n:Int)+1:=by omega
 have hi1:(i:Int)≤(n:Int):=by omega
 clear hsrcD hA hlenX hlenD hlenT hone honeD htake hg hvb hN hW1 hold1 hold hkk hik hG hROW hRs hRt hf1 hs1 ht1 hf2 hs2 ht2 hfinl hcur1 hcur2;simp only [Nat.mul_one] at hcpA hcpB;go_enter Tryz.func198,Tryz.ntmps198
 go_wp2_with (first
  | (at_builtin;refine Lib.wpList_append_run _ rfl _ _ _ _ rfl _ _ rfl rfl _ _ (hrz _) ?_)
  | (at_builtin;refine wpList_copy_runI _ rfl _ _ 62 62 rfl _ _ rfl rfl (hcpA _ rfl _ _) ?_))
 go_region_law (refine step_copy_runI rfl _ _ 62 62 rfl (.slice (some ⟨w.heap.size,i+1,none⟩) (n - i) (G - (i+1))) (.slice (some ⟨g,i,none⟩) (n - i) (cap - i)) (by simp [Act.eval,Act.put]) (by simp [Act.eval,Act.put]) (hcpB ((W1.setRow w.heap.size cur1).drew) rfl 3 (G - (i+1)) (cap - i)) ?_)
 go_wp2_with fail;go_ret;have k1:Jb [] w W1:=by rw [←HW1.out];exact ((Jb.refl [] w).drew).alloc _
 have hg9: ∀ g',g'∈[w.heap.size]→¬ g'<w.heap.size:=fun g' hg'=>by simp at hg';omega
 have k2:=JF k1 (QW W1 w.heap.size cur1) (fun g' hg' hlt=>(hg9 g' hg' hlt).elim);have k4:=JF (k2.drew) (QW _ w.heap.size cur2) (fun g' hg' hlt=>(hg9 g' hg' hlt).elim);exact ⟨G,rfl,⟨by rw [Z5];simp [hl];omega,.inr ⟨w.heap.size,G,cur2,rfl,hB,Q6 (Q6 HN.out cur1) cur2,hGn,HGM.out,HS2.out,HT2.out⟩⟩,k4⟩
theorem Jjx (w:World) (B i:Nat) (v:Value) (l:List (List UInt8)) (x:(List UInt8)) (vb:Nat) (h:w.ownsRow B 9 1 v l.length (Jq l)) (hi':i≤l.length) (hn:l.length≤1000) (hvb:w.heap[vb]?=some (.cells (Jq [x]).toArray 9 (0,0))) (hne:v.ownBlock≠some vb) (hB:B≤w.heap.size):
  Calls Tryz.prog 198 #[v,.int .i64 i,.slice (some ⟨vb,0,none⟩) 1 1] w fun e w'=> ∃ v',e=.returned v'∧w'.ownsRow B 9 1 v' (l.length+1) (Jq (l.take i++x::l.drop i))∧Jb v.ownBlock.toList w w'∧(v'.ownBlock=v.ownBlock∨v'.ownBlock=some w.heap.size):=by
 by_cases hil:i=l.length
 ·subst hil;refine (Jjy w B v l.length l x vb h hn hvb hB).mono ?_;rintro e w' ⟨v',rfl,ho,hk,hv⟩;refine ⟨v',rfl,?_,hk,hv⟩;rw [List.take_of_length_le (Nat.le_refl _),List.drop_eq_nil_of_le (Nat.le_refl _),JaX];exact ho
 ·rcases h.2 with ⟨rfl,h0⟩ | ⟨g,cap,cur,rfl,hBg,hg,hnc,hcap,hcs,htake⟩
  ·omega
  ·by_cases hroom:l.length+1≤cap
   ·refine (Jhw w B g l.length cap i cur l x vb rfl hBg hg hcs htake hcap (by omega) hroom hn hvb (fun e=>hne (by rw [e];rfl))).mono ?_;rintro e w' ⟨rfl,ho,hk⟩;exact ⟨_,rfl,ho,hk,.inl rfl⟩
   ·refine (Jig w B g l.length cap i cur l x vb rfl hB hg htake (by omega) hnc (by omega) hn hvb).mono ?_;rintro e w' ⟨G,rfl,ho,hk⟩;exact ⟨_,rfl,ho,hk.to (by simp),.inr rfl⟩
def Yz (l:List En) (x:En):Nat:=(l.takeWhile (JQ · x)).length
theorem Ja2 (l:List En) (x:En):Yz l x≤l.length:=by
 unfold Yz;exact (List.takeWhile_sublist _).length_le
theorem Jms {l:List En} (h:Xd l) (x:En) (k:Nat) (hk:k<l.length):JbU l[k] x<0↔k<Yz l x:=by
 rw [JrH];have hs:=List.takeWhile_append_dropWhile (p:=(JQ · x)) (l:=l);constructor
 ·intro ha;rcases Nat.lt_or_ge k (Yz l x) with h1 | h1
  ·exact h1
  ·have hm:l[k]∈l.dropWhile (JQ · x):=by
    have e:l[k]=(l.takeWhile (JQ · x)++l.dropWhile (JQ · x))[k]'(by rw [hs];exact hk):=by simp only [hs]
    rw [e,List.getElem_append_right h1];exact List.getElem_mem _
   rw [JaW x l h _ hm] at ha;cases ha
 ·intro h1;have hm:l[k]∈l.takeWhile (JQ · x):=by
   have e:l[k]=(l.takeWhile (JQ · x)++l.dropWhile (JQ · x))[k]'(by rw [hs];exact hk):=by simp only [hs]
   rw [e,List.getElem_append_left h1];exact List.getElem_mem _
  exact Jcw (f:=(JQ · x)) hm
theorem Jk9 (l:List En) (x:En):l.take (Yz l x)=l.takeWhile (JQ · x):=by
 have hs:=List.takeWhile_append_dropWhile (p:=(JQ · x)) (l:=l);exact (congrArg (List.take (Yz l x)) hs.symm).trans (List.take_left ..)
theorem Jk8 (l:List En) (x:En):l.drop (Yz l x)=l.dropWhile (JQ · x):=by
 have hs:=List.takeWhile_append_dropWhile (p:=(JQ · x)) (l:=l);exact (congrArg (List.drop (Yz l x)) hs.symm).trans (List.drop_left ..)
set_option maxRecDepth 8000 in
theorem JeN (w:World) (v:Value) (l:List En) (x:En) (hv:Jh w v l.length 5 (Je l)) (hs:Xd l) (hl:l.length≤1000000):
  Calls Tryz.prog 191 #[v,.agg (Jo x).toArray,.func (.func 192) #[] #[]] w fun e w'=> ∃ b,e=.returned (.tuple #[.int .i64 (Yz l x),.bool b])∧Jb [] w w':=by
 have hE:Jy 192:=JC Tryz.func192 (by kernel_rfl) (by kernel_rfl);unfold Jy at hE;obtain ⟨o,c,rfl,h1,h2⟩:=hv.form;unfold maxLen at h2;obtain ⟨m,hm⟩: ∃ m,Yz l x=m:=⟨_,rfl⟩;have hmn:m≤l.length:=by rw [←hm];exact Ja2 l x
 have hiff:=Ja (fun k (hk:k<l.length)=>hm ▸ Jms hs x k hk);rw [hm];obtain ⟨W,hW⟩: ∃ W,w.alloc (.cells (Jo x).toArray 75)=W:=⟨_,rfl⟩;have hkW:Jb [] w W:=by rw [←hW];exact (Jb.refl [] w).alloc _
 have hb:=(Qb rfl hW).1;have HV:=Ja hv;have HB:=Ja hb;have HKW:=Ja hkW;have HW:=Ja hW;have hord:=Ja (fun y w=>Ji3 y x w);clear hkW hb hW hv hs hm;go_enter Tryz.func191,Tryz.ntmps191;go_upto_region 1 with fail;rw [HW.out];go_wp2_with fail;go_loopw [9,10] (fun a b wr=> ∃ lo hi:Nat,a=.int .i64 lo∧b=.int .i64 hi∧lo≤m∧m≤hi∧hi≤l.length∧Jb [] W wr) (fun a b _=>(intOf b - intOf a).toNat)
 case atStart=>exact ⟨0,l.length,rfl,rfl,Nat.zero_le _,hmn,Nat.le_refl _,Jb.refl _ _⟩
 case round=>
  obtain ⟨lo,hi,rfl,rfl,hlo,hhi,hin,hkr⟩:=hrel;by_cases hlt:lo<hi
  ·obtain ⟨M,hM1,hM2,hMI⟩: ∃ M:Nat,lo≤M∧M<hi∧((lo:Int)+(hi:Int)) / 2=(M:Int):=⟨(lo+hi) / 2,by omega,by omega,by omega⟩;have hmid:M<l.length:=by omega
   obtain ⟨g,o0,rfl,hc⟩:=(HV.out.keeps (HKW.out.trans hkr)).addr (by omega);have hm0:(0:Int)≤(M:Int):=by omega
   have hm1:(M:Int)<(l.length:Int):=by omega
   have hcell:=Qs hc _ hmid;have hif:=hiff.out _ hmid;have HORD:=Ja (hord.out l[M]);obtain ⟨OD,hOD⟩: ∃ OD,JbU l[M] x=OD:=⟨_,rfl⟩;rw [hOD] at hif HORD;have hS0:SP wr w.heap.size x g (o0+M * 5) l[M] wr:=⟨Jb.refl _ _,⟨Jz hkr HB.out 0,Jz hkr HB.out 1,Jz hkr HB.out 2,Jz hkr HB.out 3,Jz hkr HB.out 4⟩,hcell⟩;have HKR:=Ja hkr;have HMI:=Ja hMI;clear hc hcell hOD hkr hMI;unfold Jo at HORD;generalize l[M]=y at *;by_cases hneg:OD<0
   ·have hd:decide (OD<0)=true:=decide_eq_true hneg;have hlm:=hif.1 hneg;clear hif hneg;go_upto_region 5 with fail;rw [HMI.out];have hS1:=hS0;obtain ⟨_,⟨b0',b1,b2,b3,b4⟩,c0,c1,c2,c3,c4⟩:=hS1
    go_region_held3 (SP wr w.heap.size x g (o0+M * 5) y) ((first | assumption | (refine SP.keeps hS0 ?_;first | exact (Jb.refl [] wr) | exact (Jb.refl [] wr).drew | exact (‹SP wr w.heap.size x g (o0+M * 5) y _›).1.trans hkx | exact (‹SP wr w.heap.size x g (o0+M * 5) y _›).1.alloc _ | exact (‹SP wr w.heap.size x g (o0+M * 5) y _›).1.drewN _)))
     (first
       | (go_at_call 192;refine (HORD.out _).mono ?_;rintro e w7 ⟨rfl,hkx⟩))
    all_goals go_wp2_with fail
    all_goals go_roundw
    case rel=>exact ⟨M+1,hi,by go_num,rfl,by omega,hhi,hin,HKR.out.trans (‹SP wr w.heap.size x g (o0+M * 5) y _›).1⟩
    case measure=>simp [intOf];omega
   ·have hd:decide (OD<0)=false:=decide_eq_false hneg;have hlm: ¬ M<m:=fun h=>hneg (hif.2 h);clear hif hneg;go_upto_region 5 with fail;rw [HMI.out];have hS1:=hS0;obtain ⟨_,⟨b0',b1,b2,b3,b4⟩,c0,c1,c2,c3,c4⟩:=hS1
    go_region_held3 (SP wr w.heap.size x g (o0+M * 5) y) ((first | assumption | (refine SP.keeps hS0 ?_;first | exact (Jb.refl [] wr) | exact (Jb.refl [] wr).drew | exact (‹SP wr w.heap.size x g (o0+M * 5) y _›).1.trans hkx | exact (‹SP wr w.heap.size x g (o0+M * 5) y _›).1.alloc _ | exact (‹SP wr w.heap.size x g (o0+M * 5) y _›).1.drewN _)))
     (first
       | (go_at_call 192;refine (HORD.out _).mono ?_;rintro e w7 ⟨rfl,hkx⟩))
    all_goals go_wp2_with fail
    all_goals go_roundw
    case rel=>exact ⟨lo,M,rfl,rfl,hlo,by omega,by omega,HKR.out.trans (‹SP wr w.heap.size x g (o0+M * 5) y _›).1⟩
    case measure=>simp [intOf];omega
  ·have hlm:lo=m:=by omega
   subst hlm;have HKR:=Ja hkr;by_cases hlt2:lo<l.length
   ·obtain ⟨g,o0,rfl,hc⟩:=(HV.out.keeps (HKW.out.trans hkr)).addr (by omega);have hm0:(0:Int)≤(lo:Int):=by omega
    have hm1:(lo:Int)<(l.length:Int):=by omega
    have hd:decide ((lo:Int)<(l.length:Int))=true:=decide_eq_true hm1;have hcell:=Qs hc _ hlt2;have HORD:=Ja (hord.out l[lo]);obtain ⟨OD,hOD⟩: ∃ OD,JbU l[lo] x=OD:=⟨_,rfl⟩;rw [hOD] at HORD;have hS0:SP wr w.heap.size x g (o0+lo * 5) l[lo] wr:=⟨Jb.refl _ _,⟨Jz hkr HB.out 0,Jz hkr HB.out 1,Jz hkr HB.out 2,Jz hkr HB.out 3,Jz hkr HB.out 4⟩,hcell⟩;clear hc hcell hOD hkr;unfold Jo at HORD;generalize l[lo]=y at *;go_upto_region 8 with fail;have hS1:=hS0;obtain ⟨_,⟨b0',b1,b2,b3,b4⟩,c0,c1,c2,c3,c4⟩:=hS1
    go_region_held3 (SP wr w.heap.size x g (o0+lo * 5) y) ((first | assumption | (refine SP.keeps hS0 ?_;first | exact (Jb.refl [] wr) | exact (Jb.refl [] wr).drew | exact (‹SP wr w.heap.size x g (o0+lo * 5) y _›).1.trans hkx | exact (‹SP wr w.heap.size x g (o0+lo * 5) y _›).1.alloc _ | exact (‹SP wr w.heap.size x g (o0+lo * 5) y _›).1.drewN _)))
     (first
       | (go_at_call 192;refine (HORD.out _).mono ?_;rintro e w7 ⟨rfl,hkx⟩))
    all_goals go_wp2_with fail
    all_goals go_ret2
    all_goals exact ⟨_,rfl,HKW.out.trans (HKR.out.trans (‹SP wr w.heap.size x g (o0+lo * 5) y _›).1)⟩
   ·have hd:decide ((lo:Int)<(l.length:Int))=false:=decide_eq_false (by omega);clear hkr;go_upto_region 8 with fail
    go_quiet (fail)
    go_wp2_with fail
    go_ret2
    exact ⟨_,rfl,HKW.out.trans (HKR.out.drewN _)⟩
theorem Jng (x:List UInt8) (w:World):Calls Tryz.prog 272 #[.string ⟨x.toArray⟩] w fun e w'=>e=.returned (.bool false)∧w'=w:=by
 have h:=JnQ x x;rw [decide_eq_false (fun h=>h rfl)] at h;go_enter Tryz.func272,Tryz.ntmps272;go_wp2_with fail;go_ret;exact ⟨by simp,rfl⟩
theorem JlB (x y:List UInt8) (w:World):Calls Tryz.prog 271 #[.string ⟨x.toArray⟩,.string ⟨y.toArray⟩] w fun e w'=>e=.returned (.bool (JH x y))∧w'=w:=by
 have n:=Ja (fun x w=>JhD x w);have b:=Jb3 x y;obtain ⟨R,hR⟩: ∃ R,JH x y=R:=⟨_,rfl⟩;rw [hR] at b ⊢;clear hR;go_enter Tryz.func271,Tryz.ntmps271;go_wp2_with fail;refine (n.out _ _).mono ?_;rintro e w1 ⟨rfl,h9⟩;subst h9;go_wp2_with fail;go_ret;exact ⟨rfl,rfl⟩
def QM (l:List (List UInt8)) (x:List UInt8):Nat:=(l.takeWhile (JH · x)).length
theorem JeW (l:List (List UInt8)) (x:List UInt8):QM l x≤l.length:=(List.takeWhile_sublist _).length_le
theorem JdT {l:List (List UInt8)} (h:Yt l) (x:List UInt8) (k:Nat) (hk:k<l.length):JH l[k] x=true↔k<QM l x:=by
 have hs:=List.takeWhile_append_dropWhile (p:=(JH · x)) (l:=l);constructor
 ·intro ha;rcases Nat.lt_or_ge k (QM l x) with h1 | h1
  ·exact h1
  ·have hm:l[k]∈l.dropWhile (JH · x):=by
    have e:l[k]=(l.takeWhile (JH · x)++l.dropWhile (JH · x))[k]'(by rw [hs];exact hk):=by simp only [hs]
    rw [e,List.getElem_append_right h1];exact List.getElem_mem _
   rw [Jcy x l h _ hm] at ha;cases ha
 ·intro h1;have hm:l[k]∈l.takeWhile (JH · x):=by
   have e:l[k]=(l.takeWhile (JH · x)++l.dropWhile (JH · x))[k]'(by rw [hs];exact hk):=by simp only [hs]
   rw [e,List.getElem_append_left h1];exact List.getElem_mem _
  exact JdP (f:=(JH · x)) hm
theorem Jk7 (l:List (List UInt8)) (x:List UInt8):l.take (QM l x)=l.takeWhile (JH · x):=by
 have hs:=List.takeWhile_append_dropWhile (p:=(JH · x)) (l:=l);exact (congrArg (List.take (QM l x)) hs.symm).trans (List.take_left ..)
theorem Jk6 (l:List (List UInt8)) (x:List UInt8):l.drop (QM l x)=l.dropWhile (JH · x):=by
 have hs:=List.takeWhile_append_dropWhile (p:=(JH · x)) (l:=l);exact (congrArg (List.drop (QM l x)) hs.symm).trans (List.drop_left ..)
theorem Jg2 {l:List (List UInt8)} (h:Yt l) (x:List UInt8):x∈l↔ ∃ hk:QM l x<l.length,l[QM l x]=x:=by
 constructor
 ·intro hx;obtain ⟨k,hk,e⟩:=List.getElem_of_mem hx;have hnk: ¬ k<QM l x:=fun hl=>by
   have:=(JdT h x k hk).2 hl;rw [e,Xq] at this;cases this
  have hm:QM l x<l.length:=by omega
  refine ⟨hm,?_⟩;have hn: ¬ JH l[QM l x] x=true:=fun ha=>by
   have:=(JdT h x _ hm).1 ha;omega
  rcases Nat.lt_or_ge (QM l x) k with hlt | hge
  ·have:=List.pairwise_iff_getElem.1 h _ _ hm hk hlt;rw [e] at this;exact absurd this hn
  ·have:QM l x=k:=by omega
   simp only [this];exact e
 ·rintro ⟨hk,e⟩;rw [←e];exact List.getElem_mem _
set_option maxRecDepth 8000 in
theorem JeO (w:World) (v:Value) (l:List (List UInt8)) (x:List UInt8) (hv:Jh w v l.length 1 (Jq l)) (hs:Yt l) (hl:l.length≤1000000):
  Calls Tryz.prog 197 #[v,.string ⟨x.toArray⟩] w fun e w'=>e=.returned (.tuple #[.int .i64 (QM l x),.bool (decide (x∈l))])∧w'=w:=by
 obtain ⟨o,c,rfl,h1,h2⟩:=hv.form;unfold maxLen at h2;have hmem:=(Jg2 hs x).trans List.getElem?_eq_some_iff.symm;obtain ⟨R,hR⟩: ∃ R,decide (x∈l)=R:=⟨_,rfl⟩;rw [hR];obtain ⟨m,hm⟩: ∃ m,QM l x=m:=⟨_,rfl⟩;have hmn:m≤l.length:=by rw [←hm];exact JeW l x
 have hiff:=Ja (fun k (hk:k<l.length)=>hm ▸ JdT hs x k hk);rw [hm] at hmem ⊢;have HMEM:=Ja hmem;have HR:=Ja hR;have HV:=Ja hv;have hls:=Ja (fun y w=>JlB y x w);have hna:=Ja (fun y w=>Jng y w);clear hv hs hm hmem hR;go_enter Tryz.func197,Tryz.ntmps197;go_wp2_with fail;go_loopw [7,8] (fun a b wr=> ∃ lo hi:Nat,a=.int .i64 lo∧b=.int .i64 hi∧lo≤m∧m≤hi∧hi≤l.length∧wr=w) (fun a b _=>(intOf b - intOf a).toNat)
 case atStart=>exact ⟨0,l.length,rfl,rfl,Nat.zero_le _,hmn,Nat.le_refl _,rfl⟩
 case round=>
  obtain ⟨lo,hi,rfl,rfl,hlo,hhi,hin,rfl⟩:=hrel;by_cases hlt:lo<hi
  ·obtain ⟨M,hM1,hM2,hMI⟩: ∃ M:Nat,lo≤M∧M<hi∧((lo:Int)+(hi:Int)) / 2=(M:Int):=⟨(lo+hi) / 2,by omega,by omega,by omega⟩;have hmid:M<l.length:=by omega
   obtain ⟨g,o0,rfl,hc⟩:=HV.out.addr (by omega);have hm0:(0:Int)≤(M:Int):=by omega
   have hm1:(M:Int)<(l.length:Int):=by omega
   have a0:=hc _ _ (ZO l M hmid);have hif:=hiff.out _ hmid;have HMI:=Ja hMI;clear hc hMI;generalize l[M]=y at *;obtain ⟨OD,hOD⟩: ∃ OD,JH y x=OD:=⟨_,rfl⟩;have HLS:=Ja (hls.out y);rw [hOD] at hif HLS;clear hOD;cases OD
   ·have hlm: ¬ M<m:=fun h=>by have:=hif.2 h;cases this
    clear hif;go_upto_region 5 with fail;rw [HMI.out];go_wp2_with fail;refine (HLS.out _).mono ?_;rintro e w3 ⟨rfl,h9⟩;subst h9;go_wp2_with fail;go_roundw
    case rel=>exact ⟨lo,M,rfl,rfl,hlo,by omega,by omega,trivial⟩
    case measure=>simp [intOf];omega
   ·have hlm:=hif.1 rfl;clear hif;go_upto_region 5 with fail;rw [HMI.out];go_wp2_with fail;refine (HLS.out _).mono ?_;rintro e w3 ⟨rfl,h9⟩;subst h9;go_wp2_with fail;go_roundw
    case rel=>exact ⟨M+1,hi,by go_num,rfl,by omega,hhi,hin,trivial⟩
    case measure=>simp [intOf];omega
  ·have hlm:lo=m:=by omega
   subst hlm;by_cases hlt2:lo<l.length
   ·obtain ⟨g,o0,rfl,hc⟩:=HV.out.addr (by omega);have hm0:(0:Int)≤(lo:Int):=by omega
    have hm1:(lo:Int)<(l.length:Int):=by omega
    have hd:decide ((lo:Int)<(l.length:Int))=true:=decide_eq_true hm1;have a0:=hc _ _ (ZO l lo hlt2);have hRR:R=decide (l[lo]=x):=by
     rw [←HR.out];exact decide_eq_decide.2 (HMEM.out.trans (List.getElem?_eq_some_iff.trans ⟨fun ⟨_,e⟩=>e,fun e=>⟨hlt2,e⟩⟩))
    clear hc;have heq:(l[lo]==x)=R:=by rw [hRR];exact Bool.beq_eq_decide_eq _ _
    clear hRR;generalize l[lo]=y at *;cases R
    ·go_upto_region 8 with fail;go_wp2_with fail;refine (hna.out _ _).mono ?_;rintro e w3 ⟨rfl,h9⟩;subst h9;go_wp2_with fail
     go_ret2
     exact ⟨rfl,rfl⟩
    ·go_upto_region 8 with fail;go_wp2_with fail
     go_ret2
     exact ⟨rfl,rfl⟩
   ·have hd:decide ((lo:Int)<(l.length:Int))=false:=decide_eq_false (by omega);have hRR:R=false:=by
     rw [←HR.out];exact decide_eq_false (fun h=>by obtain ⟨hk,_⟩:=List.getElem?_eq_some_iff.1 (HMEM.out.1 h);omega)
    subst hRR;go_upto_region 8 with fail;go_wp2_with fail
    go_ret2
    exact ⟨rfl,rfl⟩
theorem XT.lt {w:World} {B k:Nat} {ev rv:Value} {s:Sh} (h:XT w B k ev rv s):k<w.heap.size:=lt_of_block h.blk
theorem XT.keepsNil {w w':World} {B k:Nat} {ev rv:Value} {s:Sh} (h:XT w B k ev rv s) (hk:Jb [] w w'):XT w' B k ev rv s:=
 ⟨(hk.block _ h.lt List.not_mem_nil).trans h.blk,hk.owns h.es (fun _ _=>List.not_mem_nil),hk.owns h.rd (fun _ _=>List.not_mem_nil),h.hb⟩
theorem XT.ge {w:World} {B k:Nat} {ev rv:Value} {s:Sh} (h:XT w B k ev rv s): ∀ g,g∈tK k ev rv→B≤g∧g<w.heap.size:=by
 intro g hg;simp only [tK,List.mem_cons,List.mem_append,Option.mem_toList] at hg;rcases hg with rfl | hg | hg
 ·exact ⟨h.hb,h.lt⟩
 ·exact h.es.lt g hg
 ·exact h.rd.lt g hg
theorem JdL {w w3:World} {B k:Nat} {ev rv v3:Value} {s:Sh} {es':List En} (h:XT w B k ev rv s) (hk:Jb ev.ownBlock.toList w w3) (ho:w3.ownsRow B 75 5 v3 es'.length (Je es')) (hw:v3.ownBlock=ev.ownBlock∨ ∃ n,v3.ownBlock=some n∧w.heap.size≤n):
  XT (w3.setCell ⟨k,0,none⟩ v3) B k v3 rv ⟨es',s.rd⟩∧Stp w (tK k ev rv) (w3.setCell ⟨k,0,none⟩ v3) (tK k v3 rv):=by
 have hbo:k∉ev.ownBlock.toList:=fun hm=>Jt h.es h.blk (by decide) (by simpa using hm);have hblk3:w3.heap[k]?=some (.cells #[ev,rv] 155 (0,0)):=by rw [hk.block k h.lt hbo];exact h.blk
 have hks:Jb [k] w3 (w3.setCell ⟨k,0,none⟩ v3):=(Jb.refl [k] w3).setCell (.inl (by simp)) _;have hrd3:w3.ownsRow B 9 1 rv s.rd.length (Jq s.rd):=hk.owns h.rd (fun g hg hm=>Qk h.rd h.es (by decide) hg (by simpa using hm));refine ⟨⟨by simp [World.setCell,Array.getElem?_modify,hblk3],X3 ho (Jt ho hblk3 (by decide)) _,X3 hrd3 (Jt hrd3 hblk3 (by decide)) _,h.hb⟩,?_,?_⟩
 ·exact (hk.to (T:=tK k ev rv) (fun g hg=>by simp [tK] at hg ⊢;exact .inr (.inl hg))).trans (hks.to (fun g hg=>by simp [tK] at hg ⊢;exact .inl hg))
 ·intro g hg hlt;simp [tK] at hg ⊢;rcases hg with hg | hg | hg
  ·exact .inl hg
  ·rcases hw with hw | ⟨n,hw,hn⟩
   ·exact .inr (.inl (hw ▸ hg))
   ·rw [hw] at hg;simp at hg;omega
  ·exact .inr (.inr hg)
theorem Jma {w w3:World} {B k:Nat} {ev rv v3:Value} {s:Sh} {rd':List (List UInt8)} (h:XT w B k ev rv s) (hk:Jb rv.ownBlock.toList w w3) (ho:w3.ownsRow B 9 1 v3 rd'.length (Jq rd')) (hw:v3.ownBlock=rv.ownBlock∨ ∃ n,v3.ownBlock=some n∧w.heap.size≤n):
  XT (w3.setCell ⟨k,1,none⟩ v3) B k ev v3 ⟨s.es,rd'⟩∧Stp w (tK k ev rv) (w3.setCell ⟨k,1,none⟩ v3) (tK k ev v3):=by
 have hbo:k∉rv.ownBlock.toList:=fun hm=>Jt h.rd h.blk (by decide) (by simpa using hm);have hblk3:w3.heap[k]?=some (.cells #[ev,rv] 155 (0,0)):=by rw [hk.block k h.lt hbo];exact h.blk
 have hks:Jb [k] w3 (w3.setCell ⟨k,1,none⟩ v3):=(Jb.refl [k] w3).setCell (.inl (by simp)) _;have hes3:w3.ownsRow B 75 5 ev s.es.length (Je s.es):=hk.owns h.es (fun g hg hm=>Qk h.es h.rd (by decide) hg (by simpa using hm));refine ⟨⟨by simp [World.setCell,Array.getElem?_modify,hblk3],X3 hes3 (Jt hes3 hblk3 (by decide)) _,X3 ho (Jt ho hblk3 (by decide)) _,h.hb⟩,?_,?_⟩
 ·exact (hk.to (T:=tK k ev rv) (fun g hg=>by simp [tK] at hg ⊢;exact .inr (.inr hg))).trans (hks.to (fun g hg=>by simp [tK] at hg ⊢;exact .inl hg))
 ·intro g hg hlt;simp [tK] at hg ⊢;rcases hg with hg | hg | hg
  ·exact .inl hg
  ·exact .inr (.inl hg)
  ·rcases hw with hw | ⟨n,hw,hn⟩
   ·exact .inr (.inr (hw ▸ hg))
   ·rw [hw] at hg;simp at hg;omega
theorem Jgj (id:List UInt8): ∀ (l:List En) (k:Nat),(Jbr id l k= -1∧ ∀ y∈l,y.id≠id)∨ ∃ i, ∃ hi:i<l.length,Jbr id l k=((k+i:Nat):Int)∧l[i].id=id
 | [],_=>.inl ⟨rfl,by simp⟩
 | x::r,k=>by
   unfold Jbr;by_cases h:x.id=id
   ·rw [if_pos h];exact .inr ⟨0,by simp,by simp,h⟩
   ·rw [if_neg h];rcases Jgj id r (k+1) with ⟨h1,h2⟩ | ⟨i,hi,h1,h2⟩
    ·exact .inl ⟨h1,fun y hy=>by rcases List.mem_cons.1 hy with rfl | hy;exact h;exact h2 y hy⟩
    ·exact .inr ⟨i+1,by simp;omega,by rw [h1];congr 1;omega,by simpa using h2⟩
theorem YX (id:List UInt8) (l:List En):(YO id l= -1∧ ∀ y∈l,y.id≠id)∨ ∃ i, ∃ hi:i<l.length,YO id l=(i:Int)∧l[i].id=id:=by
 have:=Jgj id l 0;simpa [YO] using this
theorem Jp7 {l:List En} {x:En} (h: ∀ y∈l,y.id≠x.id):Zy l x=Zr l x:=by
 unfold Zy;rw [List.find?_eq_none.2 (fun y hy=>by simpa using h y hy)]
theorem Jmf {l:List En} (h:Yb l) {i j:Nat} (hi:i<l.length) (hj:j<l.length) (hne:i≠j):l[i].id≠l[j].id:=by
 rcases Nat.lt_or_gt_of_ne hne with h1 | h1
 ·exact List.pairwise_iff_getElem.1 h i j hi hj h1
 ·exact (List.pairwise_iff_getElem.1 h j i hj hi h1).symm
theorem Jho {l:List En} (h:Yb l) {i:Nat} (hi:i<l.length) {id:List UInt8} (hid:l[i].id=id):l.filter (fun z=> !(z.id==id))=l.take i++l.drop (i+1):=by
 have e:l=l.take i++l[i]::l.drop (i+1):=by rw [←List.drop_eq_getElem_cons hi,List.take_append_drop]
 conv=>lhs;rw [e]
 rw [List.filter_append,List.filter_cons];have h1:(l.take i).filter (fun z=> !(z.id==id))=l.take i:=List.filter_eq_self.2 (fun y hy=>by
  obtain ⟨j,hj,rfl⟩:=List.getElem_of_mem hy;rw [List.length_take] at hj;have:=Jmf h (i:=j) (j:=i) (by omega) hi (by omega);rw [List.getElem_take];rw [hid] at this;simpa using this)
 have h2:(l.drop (i+1)).filter (fun z=> !(z.id==id))=l.drop (i+1):=List.filter_eq_self.2 (fun y hy=>by
  obtain ⟨j,hj,rfl⟩:=List.getElem_of_mem hy;rw [List.length_drop] at hj;have:=Jmf h (i:=i+1+j) (j:=i) (by omega) hi (by omega);rw [List.getElem_drop];rw [hid] at this;simpa using this)
 rw [h1,h2,hid];simp
theorem Jny {l:List En} {x:En} (h:Yb l) {i:Nat} (hi:i<l.length) (hid:l[i].id=x.id):Zy l x=if x.tm<l[i].tm then l else Zr (l.take i++l.drop (i+1)) x:=by
 unfold Zy;cases hf:l.find? (fun y=>y.id==x.id) with
 | none=>
   have:=List.find?_eq_none.1 hf l[i] (List.getElem_mem hi);simp [hid] at this
 | some y=>
   have hy:=List.mem_of_find?_eq_some hf;have he:=List.find?_some hf;have:y=l[i]:=JdM h hy (List.getElem_mem hi) (by rw [hid];simpa using he);subst this;simp only;rw [Jho h hi hid]
theorem Jie (l:List En) (x:En):Zr l x=l.take (Yz l x)++x::l.drop (Yz l x):=by
 rw [Jk9,Jk8];rfl
theorem Jeg (l:List En) (x:En):(Zr l x).length=l.length+1:=by
 rw [Jie];have:=Ja2 l x;simp;omega
theorem JiL:Jy 191:=JC Tryz.func191 (by kernel_rfl) (by kernel_rfl)
theorem JiM:Jy 193:=JC Tryz.func193 (by kernel_rfl) (by kernel_rfl)
set_option maxRecDepth 8000 in
theorem Jty (w:World) (B k:Nat) (ev rv:Value) (es:List En) (rd:List (List UInt8)) (x:En) (h:XT w B k ev rv ⟨es,rd⟩) (hs:Xd es) (ho:Yb es) (hl:es.length≤900):
  Calls Tryz.prog 118 #[.pointer (some ⟨k,0,none⟩),.agg (Jo x).toArray] w fun e w'=>e=.returned (.tuple #[])∧ ∃ ev',XT w' B k ev' rv ⟨Zy es x,rd⟩∧Stp w (tK k ev rv) w' (tK k ev' rv):=by
 obtain ⟨W,hW⟩: ∃ W,w.alloc (.cells (Jo x).toArray 75)=W:=⟨_,rfl⟩;have hkW:Jb [] w W:=by rw [←hW];exact (Jb.refl [] w).alloc _
 have hb:=(Qb rfl hW).1;have b0:W.cell? ⟨w.heap.size,0,none⟩=some (.string ⟨x.id.toArray⟩):=Jd hb 0;have hpl:=Ja (Jfx W B k ev rv ⟨es,rd⟩ x.id (h.keepsNil hkW));have HH:=Ja h;have HKW:=Ja hkW;have HB:=Ja hb;have HW:=Ja hW;have hS:=Ja hs;have hO:=Ja ho;simp only at hpl;clear h hkW hb hW hs ho;rcases YX x.id es with ⟨hidx,hno⟩ | ⟨i,hi,hidx,hid⟩
 ·rw [hidx] at hpl;have hput:=Jp7 hno;clear hidx hno;go_enter Tryz.func118,Tryz.ntmps118;go_upto_region 1 with fail;rw [HW.out];go_wp2_with fail;refine hpl.out.mono ?_;rintro e w1 ⟨rfl,hk1⟩;have hkp1:=HH.out.keepsNil (HKW.out.trans hk1);have hbx1:=(hk1.block _ (lt_of_block HB.out) List.not_mem_nil).trans HB.out;have HACC:=Ja (Stp.nil (HKW.out.trans hk1) (tK k ev rv));clear hk1 b0;have hes:=(hkp1).es;have hblk:=(hkp1).blk;have hlk:=(hkp1).lt;have hBk:=(hkp1).hb;simp only at hes;obtain ⟨eo,ec,rfl⟩:=Jg hes;have c0:=Jd hblk 0;simp at c0;have a0:=Jz (Jb.refl _ _) hbx1 0;have a1:=Jz (Jb.refl _ _) hbx1 1;have a2:=Jz (Jb.refl _ _) hbx1 2;have a3:=Jz (Jb.refl _ _) hbx1 3;have a4:=Jz (Jb.refl _ _) hbx1 4;simp [Jo] at a0 a1 a2 a3 a4;have hsr:=Ja (fun w' (hk':Jb [] w1 w')=>JeN w' _ _ x ((Jh.of_row hes).keeps hk') hS.out (by have:=hl;omega));unfold Jo at hsr;have hins:=Ja (fun w' (hk':Jb [] w1 w') (vb:Nat) (hvb:w'.heap[vb]?=some (.cells (Je [x]).toArray 75 (0,0))) (hvn:w1.heap.size≤vb)=>JeH w' B (Yz (es) x) _ _ x vb (hk'.owns hes (fun _ _=>List.not_mem_nil)) (Ja2 _ _) (by have:=hl;omega) hvb (fun e=>by have:=(hes.lt _ e).2;omega) (Nat.le_trans (Nat.le_trans hBk (Nat.le_of_lt hlk)) hk'.size));rw [←Jie] at hins;have HBLK:=Ja hblk;have HES:=Ja hes;have HBX:=Ja hbx1;have HKP:=Ja hkp1;have hLN:=hl;clear hes hblk;obtain ⟨m,hm⟩: ∃ m,Yz (es) x=m:=⟨_,rfl⟩;rw [hm] at hsr hins;have hmle:m≤(es).length:=by rw [←hm];exact Ja2 _ _
  clear hm;go_upto_region 5 with fail
  go_cut [5,6] from 38 to 60 (fun p q wc=>p=.int .i64 m∧Jb [] w1 wc)
  case first=>
   go_region_law (refine Xg rfl 191 _ _ rfl JiL #[.slice eo (es).length ec,.agg #[.string ⟨x.id.toArray⟩,.string ⟨x.title.toArray⟩,.string ⟨x.link.toArray⟩,.int .i64 x.tm,.string ⟨x.html.toArray⟩],.func (.func 192) #[] #[]] (by first | (simp [Act.eval];done) | (simp [Act.eval,Act.put];done) | kernel_rfl) (hsr.out _ (by first | exact Jb.refl _ _ | exact (Jb.refl _ _).drew)) ?_;rintro e w2 ⟨bb,rfl,hk2⟩;refine ⟨_,rfl,?_⟩)
   all_goals go_wp2_with fail
   all_goals go_meet
   all_goals exact ⟨rfl,by first | exact hk2 | exact ((Jb.refl _ _).drew).trans hk2⟩
  case rest=>
   obtain ⟨rfl,hkc⟩:=hcut;have HKC:=Ja hkc;have d0:=Jc hkc c0;have e0:=Jc hkc a0;have e1:=Jc hkc a1;have e2:=Jc hkc a2;have e3:=Jc hkc a3;have e4:=Jc hkc a4;have hszc:=hkc.size;have d0a: ∀ o,(wc.alloc o).cell? ⟨k,0,none⟩=some (.slice eo (es).length ec):=fun o=>(JI (a:=⟨k,0,none⟩) (Nat.lt_of_lt_of_le hlk hszc) o).trans d0;clear hkc c0 a0 a1 a2 a3 a4 hsr;go_upto_region 6 with fail
   go_region_law (refine Xg rfl 193 _ _ rfl JiM #[.slice eo (es).length ec,.int .i64 m,.slice (some ⟨wc.heap.size,0,none⟩) 1 1] (by first | (simp [Act.eval];done) | (simp [Act.eval,Act.put];done) | kernel_rfl) (hins.out _ (by first | exact Jb.refl _ _ | exact (Jb.refl _ _).drew | exact (HKC.out.alloc _).drew | exact (HKC.out.drew).alloc _ | exact HKC.out.alloc _ | exact HKC.out.drew | exact HKC.out) wc.heap.size (by first | exact heap_alloc_new wc _ | exact heap_alloc_new wc.drew _) hszc) ?_;rintro e w7 ⟨v7,rfl,ho7,hk7,hw7⟩;obtain ⟨o7,c7,rfl⟩:=Jg ho7;refine ⟨_,rfl,?_⟩;have hb7:=(hk7.block k (Nat.lt_of_lt_of_le hlk (Nat.le_trans hszc (by simp))) (fun hm9=>Jt HES.out HBLK.out (by decide) (by simpa using hm9))).trans ((HKP.out.keepsNil (by first | exact Jb.refl _ _ | exact (Jb.refl _ _).drew | exact (HKC.out.alloc _).drew | exact (HKC.out.drew).alloc _ | exact HKC.out.alloc _ | exact HKC.out.drew | exact HKC.out)).blk);have x7:=Jd hb7 0;have y7:=Jn hb7 0;simp at x7)
   all_goals go_wp2_with fail
   all_goals go_end0
   all_goals
    have hfin:=JdL (es':=Zr (es) x) (HKP.out.keepsNil (by first | exact Jb.refl _ _ | exact (Jb.refl _ _).drew | exact (HKC.out.alloc _).drew | exact (HKC.out.drew).alloc _ | exact HKC.out.alloc _ | exact HKC.out.drew | exact HKC.out)) hk7 (by rw [Jeg];exact ho7) (hw7.imp id (fun e=>⟨_,e,Nat.le_refl _⟩));refine ⟨rfl,.slice o7 ((es).length+1) c7,?_,?_⟩
    ·rw [hput];exact hfin.1
    ·exact (HACC.out).trans ((Stp.nil (by first | exact Jb.refl _ _ | exact (Jb.refl _ _).drew | exact (HKC.out.alloc _).drew | exact (HKC.out.drew).alloc _ | exact HKC.out.alloc _ | exact HKC.out.drew | exact HKC.out) _).trans hfin.2)
 ·rw [hidx] at hpl;have hput:=Jny hO.out hi hid;have hit:(0:Int)≤(i:Int):=by omega
  have hil:(i:Int)<(es.length:Int):=by omega
  clear hidx;go_enter Tryz.func118,Tryz.ntmps118;go_upto_region 1 with fail;rw [HW.out];go_wp2_with fail;refine hpl.out.mono ?_;rintro e w1 ⟨rfl,hk1⟩;have hkp1:=HH.out.keepsNil (HKW.out.trans hk1);have hbx1:=(hk1.block _ (lt_of_block HB.out) List.not_mem_nil).trans HB.out;have HACC:=Ja (Stp.nil (HKW.out.trans hk1) (tK k ev rv));have hes1:=hkp1.es;simp only at hes1;obtain ⟨g,cap,cur,rfl,hBg,hg,hnc,hcap,hcs,htake⟩: ∃ g cap cur,ev=.slice (some ⟨g,0,none⟩) es.length cap∧B≤g∧w1.heap[g]?=some (.cells cur 75 (0,0))∧es.length≤cap∧cap≤maxLen∧cur.size=cap * 5∧cur.toList.take (es.length * 5)=Je es:=by
   rcases hes1.2 with ⟨_,h0⟩ | h1
   ·omega
   ·exact h1
  obtain ⟨_,_,e9,hc9⟩:=(Jh.of_row hes1).addr (by omega);injection e9 with e9
  injection e9 with e91 e92 e93
  subst e91 e92;obtain ⟨a0,a1,a2,a3,a4⟩:=Qs hc9 i hi;have t3:=Jz (Jb.refl _ _) hbx1 3;simp [Jo] at t3;simp only [Nat.zero_add] at a0 a1 a2 a3 a4;have c0:=Jd hkp1.blk 0;simp at c0;unfold maxLen at hcap;clear hk1 b0 hc9 e93;by_cases hlt:x.tm<es[i].tm
  ·have hd:decide (x.tm<es[i].tm)=true:=decide_eq_true hlt;rw [if_pos hlt] at hput;clear hlt;generalize es[i]=y at *;go_wp2_with fail
   go_quiet (fail)
   go_wp2_with fail;refine bodyPost_ret (results_none rfl _ _ _) rfl ?_;refine ⟨rfl,.slice (some ⟨g,0,none⟩) es.length cap,?_,?_⟩
   ·rw [hput];exact hkp1.keepsNil ((Jb.refl _ _).drewN _)
   ·exact HACC.out.trans (Stp.nil ((Jb.refl _ _).drewN _) _)
  ·have hd:decide (x.tm<es[i].tm)=false:=decide_eq_false hlt;rw [if_neg hlt] at hput;clear hlt;have hwi:IntKind.i64.wrap ((i:Int)+1)=(i:Int)+1:=by rw [IntKind.wrap_i64];omega
   have hdl:=Ja (fun w' (hk':Jb [] w1 w')=>JeG w' g cap es.length i (i+1) cur es ((hk'.block _ (lt_of_block hg) List.not_mem_nil).trans hg) rfl hnc hcs htake (by omega) (by omega));have hei:((i+1:Nat):Int)=(i:Int)+1:=by omega
   rw [hei] at hdl;have hlen2:(es.take i++es.drop (i+1)).length=es.length - (i+1 - i):=by simp;omega
   rw [←hlen2] at hdl;have hl2:(es.take i++es.drop (i+1)).length≤900:=by rw [hlen2];omega
   have hl2c:(es.take i++es.drop (i+1)).length≤cap:=by rw [hlen2];omega
   have hS2:Xd (es.take i++es.drop (i+1)):=by rw [←Jho hO.out hi hid];exact JeQ hS.out _
   generalize es[i]=y at *;have HG:=Ja hg;have HKP1:=Ja hkp1;have HBX1:=Ja hbx1;have HS2:=Ja hS2;clear hg htake hcs hS2 hlen2;obtain ⟨E2,hE2⟩: ∃ E2,es.take i++es.drop (i+1)=E2:=⟨_,rfl⟩;rw [hE2] at hput HS2 hdl hl2 hl2c;clear hE2 hkp1 hbx1;go_wp2_with fail
   go_quiet (fail)
   have hkq:Jb [] w1 (w1.drewN nq):=(Jb.refl [] w1).drewN nq;have c0n:=Jc hkq c0;clear c0 a0 a1 a2 a3 a4 t3;go_wp2_with fail;refine (hdl.out _ hkq).mono ?_;rintro e w4 ⟨rfl,cur4,hg4,hcs4,ht4,hk4⟩;have hkpq:=HKP1.out.keepsNil hkq;have hkg:k≠g:=fun e=>Jt hkpq.es hkpq.blk (by decide) (by rw [e];rfl);have hb4:=(hk4.block k hkpq.lt (by simpa using hkg)).trans hkpq.blk;have x4:=Jd hb4 0;have y4:=Jn hb4 0;simp at x4;have hown4:w4.ownsRow B 75 5 (.slice (some ⟨g,0,none⟩) E2.length cap) E2.length (Je E2):=⟨Qu E2,.inr ⟨g,cap,cur4,rfl,hBg,hg4,hl2c,by unfold maxLen;exact hcap,hcs4,ht4⟩⟩;have hfin4:=JdL (es':=E2) hkpq (show Jb (Value.slice (some ⟨g,0,none⟩) es.length cap).ownBlock.toList (w1.drewN nq) w4 from hk4) hown4 (.inl rfl);have hgl:g<w.heap.size:=(HH.out.es.lt g rfl).2;have hkl:k<w.heap.size:=HH.out.lt;have hbx4:=(hk4.block w.heap.size (Nat.lt_of_lt_of_le (lt_of_block HBX1.out) hkq.size) (by simp;omega)).trans ((hkq.block _ (lt_of_block HBX1.out) List.not_mem_nil).trans HBX1.out);obtain ⟨W5,hW5⟩: ∃ W5,w4.setCell ⟨k,0,none⟩ (.slice (some ⟨g,0,none⟩) E2.length cap)=W5:=⟨_,rfl⟩;rw [hW5] at hfin4;have hbx5:W5.heap[w.heap.size]?=some (.cells (Jo x).toArray 75 (0,0)):=by
    rw [←hW5];exact (((Jb.refl [k] w4).setCell (.inl (by simp)) _).block _ (lt_of_block hbx4) (by simp;omega)).trans hbx4
   have HW5:=Ja hW5;have hkp5:=hfin4.1;have HACC5:=Ja ((HACC.out.trans (Stp.nil hkq _)).trans hfin4.2);clear hg4 hcs4 ht4 hk4 hkpq hb4 hown4 hfin4 hbx4 hW5 c0n hdl hkq HKP1 HBX1 hi hil hit hwi hei;go_upto_region 5 with fail;rw [HW5.out];have hes:=(hkp5).es;have hblk:=(hkp5).blk;have hlk:=(hkp5).lt;have hBk:=(hkp5).hb;simp only at hes;have c0:=Jd hblk 0;simp at c0;have a0:=Jz (Jb.refl _ _) hbx5 0;have a1:=Jz (Jb.refl _ _) hbx5 1;have a2:=Jz (Jb.refl _ _) hbx5 2;have a3:=Jz (Jb.refl _ _) hbx5 3;have a4:=Jz (Jb.refl _ _) hbx5 4;simp [Jo] at a0 a1 a2 a3 a4;have hsr:=Ja (fun w' (hk':Jb [] W5 w')=>JeN w' _ _ x ((Jh.of_row hes).keeps hk') HS2.out (by have:=hl2;omega));unfold Jo at hsr;have hins:=Ja (fun w' (hk':Jb [] W5 w') (vb:Nat) (hvb:w'.heap[vb]?=some (.cells (Je [x]).toArray 75 (0,0))) (hvn:W5.heap.size≤vb)=>JeH w' B (Yz (E2) x) _ _ x vb (hk'.owns hes (fun _ _=>List.not_mem_nil)) (Ja2 _ _) (by have:=hl2;omega) hvb (fun e=>by have:=(hes.lt _ e).2;omega) (Nat.le_trans (Nat.le_trans hBk (Nat.le_of_lt hlk)) hk'.size));rw [←Jie] at hins;have HBLK:=Ja hblk;have HES:=Ja hes;have HBX:=Ja hbx5;have HKP:=Ja hkp5;have hLN:=hl2;clear hes hblk;obtain ⟨m,hm⟩: ∃ m,Yz (E2) x=m:=⟨_,rfl⟩;rw [hm] at hsr hins;have hmle:m≤(E2).length:=by rw [←hm];exact Ja2 _ _
   clear hm
   go_cut [5,6] from 38 to 60 (fun p q wc=>p=.int .i64 m∧Jb [] W5 wc)
   case first=>
    go_region_law (refine Xg rfl 191 _ _ rfl JiL #[.slice (some ⟨g,0,none⟩) (E2).length cap,.agg #[.string ⟨x.id.toArray⟩,.string ⟨x.title.toArray⟩,.string ⟨x.link.toArray⟩,.int .i64 x.tm,.string ⟨x.html.toArray⟩],.func (.func 192) #[] #[]] (by first | (simp [Act.eval];done) | (simp [Act.eval,Act.put];done) | kernel_rfl) (hsr.out _ (by first | exact Jb.refl _ _ | exact (Jb.refl _ _).drew)) ?_;rintro e w2 ⟨bb,rfl,hk2⟩;refine ⟨_,rfl,?_⟩)
    all_goals go_wp2_with fail
    all_goals go_meet
    all_goals exact ⟨rfl,by first | exact hk2 | exact ((Jb.refl _ _).drew).trans hk2⟩
   case rest=>
    obtain ⟨rfl,hkc⟩:=hcut;have HKC:=Ja hkc;have d0:=Jc hkc c0;have e0:=Jc hkc a0;have e1:=Jc hkc a1;have e2:=Jc hkc a2;have e3:=Jc hkc a3;have e4:=Jc hkc a4;have hszc:=hkc.size;have d0a: ∀ o,(wc.alloc o).cell? ⟨k,0,none⟩=some (.slice (some ⟨g,0,none⟩) (E2).length cap):=fun o=>(JI (a:=⟨k,0,none⟩) (Nat.lt_of_lt_of_le hlk hszc) o).trans d0;clear hkc c0 a0 a1 a2 a3 a4 hsr;go_upto_region 6 with fail
    go_region_law (refine Xg rfl 193 _ _ rfl JiM #[.slice (some ⟨g,0,none⟩) (E2).length cap,.int .i64 m,.slice (some ⟨wc.heap.size,0,none⟩) 1 1] (by first | (simp [Act.eval];done) | (simp [Act.eval,Act.put];done) | kernel_rfl) (hins.out _ (by first | exact Jb.refl _ _ | exact (Jb.refl _ _).drew | exact (HKC.out.alloc _).drew | exact (HKC.out.drew).alloc _ | exact HKC.out.alloc _ | exact HKC.out.drew | exact HKC.out) wc.heap.size (by first | exact heap_alloc_new wc _ | exact heap_alloc_new wc.drew _) hszc) ?_;rintro e w7 ⟨v7,rfl,ho7,hk7,hw7⟩;obtain ⟨o7,c7,rfl⟩:=Jg ho7;refine ⟨_,rfl,?_⟩;have hb7:=(hk7.block k (Nat.lt_of_lt_of_le hlk (Nat.le_trans hszc (by simp))) (fun hm9=>Jt HES.out HBLK.out (by decide) (by simpa using hm9))).trans ((HKP.out.keepsNil (by first | exact Jb.refl _ _ | exact (Jb.refl _ _).drew | exact (HKC.out.alloc _).drew | exact (HKC.out.drew).alloc _ | exact HKC.out.alloc _ | exact HKC.out.drew | exact HKC.out)).blk);have x7:=Jd hb7 0;have y7:=Jn hb7 0;simp at x7)
    all_goals go_wp2_with fail
    all_goals go_end0
    all_goals
     have hfin:=JdL (es':=Zr (E2) x) (HKP.out.keepsNil (by first | exact Jb.refl _ _ | exact (Jb.refl _ _).drew | exact (HKC.out.alloc _).drew | exact (HKC.out.drew).alloc _ | exact HKC.out.alloc _ | exact HKC.out.drew | exact HKC.out)) hk7 (by rw [Jeg];exact ho7) (hw7.imp id (fun e=>⟨_,e,Nat.le_refl _⟩));refine ⟨rfl,.slice o7 ((E2).length+1) c7,?_,?_⟩
     ·rw [hput];exact hfin.1
     ·exact (HACC5.out).trans ((Stp.nil (by first | exact Jb.refl _ _ | exact (Jb.refl _ _).drew | exact (HKC.out.alloc _).drew | exact (HKC.out.drew).alloc _ | exact HKC.out.alloc _ | exact HKC.out.drew | exact HKC.out) _).trans hfin.2)
theorem JmL (w:World):Calls Tryz.prog 190 #[.slice none 0 0,.int .i64 0,.int .i64 0] w fun e w'=>e=.returned (.slice none 0 0)∧w'=w:=by
 go_enter Tryz.func190,Tryz.ntmps190;go_wp2_with fail;go_ret;exact ⟨rfl,rfl⟩
theorem JmM (w:World) (B i j:Nat) (v:Value) (l:List En) (h:w.ownsRow B 75 5 v l.length (Je l)) (hij:i≤j) (hj:j≤l.length):
  Calls Tryz.prog 190 #[v,.int .i64 i,.int .i64 j] w fun e w'=> ∃ v',e=.returned v'∧w'.ownsRow B 75 5 v' (l.take i++l.drop j).length (Je (l.take i++l.drop j))∧Jb v.ownBlock.toList w w'∧v'.ownBlock=v.ownBlock:=by
 have hlen:(l.take i++l.drop j).length=l.length - (j - i):=by simp;omega
 rcases h.2 with ⟨rfl,h0⟩ | ⟨g,cap,cur,rfl,hBg,hg,hnc,hcap,hcs,htake⟩
 ·have hi0:i=0:=by omega
  have hj0:j=0:=by omega
  subst hi0 hj0;refine (JmL w).mono ?_;rintro e w' ⟨rfl,rfl⟩;refine ⟨_,rfl,?_,Jb.refl _ _,rfl⟩;rw [h0] at h;have:l=[]:=List.eq_nil_of_length_eq_zero h0;subst this;exact h
 ·refine (JeG w g cap l.length i j cur l hg rfl hnc hcs htake hij hj).mono ?_;rintro e w' ⟨rfl,cur',hg',hcs',ht',hk⟩;refine ⟨_,rfl,⟨Qu _,.inr ⟨g,cap,cur',by rw [hlen],hBg,hg',by omega,hcap,hcs',by rw [hlen];exact ht'⟩⟩,hk,rfl⟩
theorem JoV:Jy 190:=JC Tryz.func190 (by kernel_rfl) (by kernel_rfl)
theorem JsD (l:List En) (n:Nat):l.take (if l.length<n then l.length else n)++l.drop l.length=l.take n:=by
 rw [List.drop_eq_nil_of_le (Nat.le_refl _),List.append_nil];split
 ·rw [List.take_of_length_le (Nat.le_refl _),List.take_of_length_le (by omega)]
 ·rfl
set_option maxRecDepth 8000 in
theorem Jtj (w:World) (B k:Nat) (ev rv:Value) (es:List En) (rd:List (List UInt8)) (h:XT w B k ev rv ⟨es,rd⟩) (hl:es.length≤1000):
  Calls Tryz.prog 119 #[.pointer (some ⟨k,0,none⟩)] w fun e w'=>e=.returned (.tuple #[])∧ ∃ ev',XT w' B k ev' rv ⟨es.take 20,rd⟩∧Stp w (tK k ev rv) w' (tK k ev' rv):=by
 have hes:=h.es;simp only at hes;obtain ⟨eo,ec,rfl⟩:=Jg hes;have c0:=Jd h.blk 0;simp at c0;obtain ⟨M,hMe,hMl⟩: ∃ M:Nat,(if es.length<20 then es.length else 20)=M∧M≤es.length:=⟨_,rfl,by split<;>omega⟩;have hcl:=JsD es 20;rw [hMe] at hcl;have hMi:min (es.length:Int) 20=(M:Int):=by rw [←hMe];split<;>omega
 have hdl:=Ja (fun w' (hk':Jb [] w w')=>JmM w' B M es.length _ es (hk'.owns hes (fun _ _=>List.not_mem_nil)) hMl (Nat.le_refl _));rw [hcl] at hdl;have HH:=Ja h;clear h hMe hcl hes;obtain ⟨E2,hE2⟩: ∃ E2,es.take 20=E2:=⟨_,rfl⟩;rw [hE2] at hdl ⊢;clear hE2;go_enter Tryz.func119,Tryz.ntmps119
 go_region_law (refine Xg rfl 190 _ _ rfl JoV #[.slice eo es.length ec,.int .i64 M,.int .i64 es.length] (by first | (simp [Act.eval];done) | (simp [Act.eval,Act.put];done)) (hdl.out _ ((Jb.refl [] w).drew)) ?_;rintro e w7 ⟨v7,rfl,ho7,hk7,hw7⟩;obtain ⟨o7,c7,rfl⟩:=Jg ho7;refine ⟨_,rfl,?_⟩;have hb7:=(hk7.block k HH.out.lt (fun hm9=>Jt HH.out.es HH.out.blk (by decide) (by simpa using hm9))).trans HH.out.blk;have x7:=Jd hb7 0;have y7:=Jn hb7 0;simp at x7)
 all_goals go_wp2_with fail
 all_goals go_end0
 all_goals
  have hfin:=JdL (es':=E2) (HH.out.keepsNil ((Jb.refl [] w).drew)) hk7 ho7 (.inl hw7);exact ⟨rfl,_,hfin.1,(Stp.nil ((Jb.refl [] w).drew) _).trans hfin.2⟩
end Go.Proofs.YtlcljanibjdejaaGreat
