/- ShelfTells holds: the law returns true for every input, and each argument reads behind the call as it read before; no condition. A part of its proof. -/
import Derived.Test.YtlcljanibjdejaaGreatSt05
import Derived.Shelf.Strings.FieldsFuncAny
import Derived.Shelf.Strings.FieldsFuncGrows
import Derived.Shelf.Strings.Runes
import Derived.Shelf.Strings.OnBuilder
import Derived.Shelf.Small.Strs
import Derived.Shelf.Strings.LastIndex
import Derived.Lib.OthersKept
import Derived.Laws.Runes
import Derived.WalkMore
import Derived.Deep.RegionHeld3
set_option maxHeartbeats 64000000
namespace Go.Proofs.YtlcljanibjdejaaGreat
open Go.RowKit Go.Maps
def Zi (n:Nd) (b:List Nd) (i:Nat) (ar:List Nd):Int:=
 if n.name.isEmpty=true then JcM b i
 else if (Qm n.name&&decide (0<n.kids.length))=true then 1
 else if Ya [⟨2,n.name,n.attrs,n.text⟩]≠0 then Ya [⟨2,n.name,n.attrs,n.text⟩]
 else if Jm (ar.map Nd.name) n.name<ar.length then 4 else 0
def ZN (b:List Nd) (i:Nat) (ar:List Nd):Int:=
 match b[i]? with
 | none=>0
 | some n=>Zi n b i ar
def Qw:List Nd→Prop
 | []=>True
 | .mk n a _ k::r=>(n.length≤maxLen∧JjR a)∧Qw k∧Qw r
theorem JgG {n:Nd}:{ns:List Nd}→Qw ns→n∈ns→(n.name.length≤maxLen∧JjR n.attrs)∧Qw n.kids
 | .mk m a t k::r,h,hm=>by
   unfold Qw at h;rcases List.mem_cons.1 hm with rfl | hm
   ·exact ⟨h.1,h.2.1⟩
   ·exact JgG h.2.2 hm
theorem Ji4 {w:World} {B:Nat} {av:Value} {pl:List Pn} (h:w.ownsRow B 45 4 av pl.length (Jk pl)):JdS w av ((pl.map Pn.nd).map Nd.name):=by
 rw [List.map_map];rcases h.2 with ⟨e,h0⟩ | ⟨g,cap,cur,e,hb,hg,h3,h4,_⟩
 ·subst e;refine ⟨none,0,by simp [h0],by simp [h0],by simp [maxLen],fun i hi=>?_⟩;simp [h0] at hi
 ·subst e;refine ⟨some ⟨g,0,none⟩,cap,by simp,by simpa using h3,h4,fun i hi=>?_⟩;rw [List.length_map] at hi;refine ⟨g,0,rfl,?_⟩;have h9:=JhK pl i 0 hi (by omega);rw [Nat.add_zero] at h9;rw [Nat.zero_add,h.cellAt _ (by omega),h9];simp [Qd]
set_option maxRecDepth 4000 in
theorem Jjp (w:World) (P:Nat→Prop) (B1:Nat) (v:Value) (ns:List Nd) (i:Nat) (av:Value) (pl:List Pn) (hN:Ns w P v ns) (hF:Qw ns) (hi:i<ns.length) (hrow:w.ownsRow B1 45 4 av pl.length (Jk pl)) (_hpl:pl.length≤2000000):
  Calls Tryz.prog 94 #[v,.int .i64 i,av] w fun e w'=>e=.returned (.int .i64 (ZN ns i (pl.map Pn.nd)))∧Jb [] w w':=by
 have hct:=Ja (fun (W:World) (hk:Jb [] w W)=>Jjr W P v ns i (hN.keeps0 hk) hi);have hc0:ZN ns i (pl.map Pn.nd)=Zi ns[i] ns i (pl.map Pn.nd):=by
  unfold ZN;rw [List.getElem?_eq_getElem hi]
 rw [hc0];have hfit:=(JgG hF (List.getElem_mem hi)).1;cases hN with
 | mk _ l _ hns hl ha hk=>
 obtain ⟨o,c',rfl,h1,h2⟩:=hl.lies.form;obtain ⟨ao,ac,hav9⟩:=Jg hrow;subst hav9;have hil:i<l.length:=by rw [←hns,List.length_map] at hi;exact hi
 have hni:ns[i]=l[i].nd:=by subst hns;simp
 obtain ⟨g,x,rfl,hcl⟩:=hl.lies.addr (by omega);obtain ⟨a0,a1,a2,a3⟩:=YJ hcl i hil;have hat:=ha l[i] (List.getElem_mem hil);obtain ⟨oa,ca,hav⟩:=hat.form;obtain ⟨ok,ck,hkv⟩:=(hk l[i] (List.getElem_mem hil)).form;rw [hav] at a1 hat;rw [hkv] at a3;rw [hni] at hfit ⊢;have hnmd:=Ji4 hrow;have hcb:=Ja (fun (W:World) (hk:Jb [] w W)=>Je7 W (.slice ao pl.length ac) ((pl.map Pn.nd).map Nd.name) l[i].nd.name (Ji4 (hk.owns hrow (fun _ _=>List.not_mem_nil))));have hcle:=Jg9 ((pl.map Pn.nd).map Nd.name) l[i].nd.name;unfold Zi;clear hcl hav hkv ha hk hl hc0 hni hnmd hF;simp only [List.length_map] at hcle ⊢;generalize Jm ((pl.map Pn.nd).map Nd.name) l[i].nd.name=CL at *;generalize l[i].nd=nd at *;generalize JcM ns i=CT at *;have hie:=Ja (fun W=>JdA nd.name W);have hka:Jb [] w (w.alloc (.cells #[.string ⟨nd.name.toArray⟩,.slice oa nd.attrs.length ca,.string ⟨nd.text.toArray⟩,.slice ok nd.kids.length ck] 45)):=(Jb.refl [] w).alloc _;have hck:=Ja (fun (W:World) (hk:Jb [] w W)=>Je2 (W.alloc (.cells #[.int .i64 2,.string ⟨nd.name.toArray⟩,.slice oa nd.attrs.length ca,.string ⟨nd.text.toArray⟩] 117)) (.slice (some ⟨W.heap.size,0,none⟩) 1 1) [⟨2,nd.name,nd.attrs,nd.text⟩] ⟨[(⟨2,nd.name,nd.attrs,nd.text⟩,.slice oa nd.attrs.length ca)],rfl,Jks W _ 117 1 4 (by decide) rfl,by intro p hp;simp at hp;subst hp;exact hat.lies.keeps (hk.trans ((Jb.refl [] W).alloc _))⟩ (by intro t ht;simp at ht;subst ht;exact hfit));generalize Ya [⟨2,nd.name,nd.attrs,nd.text⟩]=E at *;generalize Qm nd.name=EN at *;clear hat hfit hrow;generalize nd.attrs.length=na at *;generalize nd.kids.length=nk at *;generalize nd.name=nm at *;generalize nd.text=tx at *;unfold maxLen at h2;clear hns hi;cases t0:nm.isEmpty
 ·rw [if_neg (by simp)];obtain ⟨W1,hW1⟩: ∃ W1,w.alloc (.cells #[.string ⟨nm.toArray⟩,.slice oa na ca,.string ⟨tx.toArray⟩,.slice ok nk ck] 45)=W1:=⟨_,rfl⟩;have hbx:W1.heap[w.heap.size]?=some (.cells #[.string ⟨nm.toArray⟩,.slice oa na ca,.string ⟨tx.toArray⟩,.slice ok nk ck] 45 (0,0)):=by rw [←hW1];exact heap_alloc_new w _
  rw [hW1] at hka;have HW1:=Ja hW1;clear hW1 hct;have k0:W1.cell? ⟨w.heap.size,0,none⟩=some (.string ⟨nm.toArray⟩):=Jd hbx 0;have k1:W1.cell? ⟨w.heap.size,1,none⟩=some (.slice oa na ca):=Jd hbx 1;have k2:W1.cell? ⟨w.heap.size,2,none⟩=some (.string ⟨tx.toArray⟩):=Jd hbx 2;have k3:W1.cell? ⟨w.heap.size,3,none⟩=some (.slice ok nk ck):=Jd hbx 3;have hkb:Jb [] w (W1.alloc (.cells #[.int .i64 2,.string ⟨nm.toArray⟩,.slice oa na ca,.string ⟨tx.toArray⟩] 117)):=hka.alloc _;have hc1:=hck.out _ hkb;have hsz1:(W1.alloc (.cells #[.int .i64 2,.string ⟨nm.toArray⟩,.slice oa na ca,.string ⟨tx.toArray⟩] 117)).heap.size=W1.heap.size+1:=by simp
  rw [hsz1] at hc1;have HC1:=Ja hc1;clear hc1 hsz1 hck;obtain ⟨R,hR⟩: ∃ R,(if (EN&&decide (0<nk))=true then (1:Int) else if E≠0 then E else if CL<pl.length then 4 else 0)=R:=⟨_,rfl⟩;rw [hR];cases EN
  ·rw [Bool.false_and,if_neg (by simp)] at hR;have HR:=Ja hR;clear hR;go_enter Tryz.func94,Tryz.ntmps94;go_wp2_with fail;rw [HW1.out];refine (hie.out _).mono ?_;rintro e w1 ⟨rfl,h1'⟩;obtain rfl:W1=w1:=h1'.symm;go_wp2_with fail;refine HC1.out.mono ?_;rintro e w3 ⟨rfl,hk3⟩;have hk03:=(hkb.alloc _).trans hk3;by_cases hE:E=0
   ·subst hE;have n3:w3.cell? ⟨w.heap.size,0,none⟩=some (.string ⟨nm.toArray⟩):=Jc (((Jb.refl [] W1).alloc _).alloc _ |>.trans hk3) k0;by_cases hC:CL<pl.length
    ·have hRe:R=4:=by rw [←HR.out,if_neg (by simp),if_pos hC]
     subst hRe;have hCi:(CL:Int)<(pl.length:Int):=by omega
     go_wp2_with fail;refine (hcb.out _ hk03).mono ?_;rintro e w4 ⟨rfl,h4⟩;obtain rfl:w3=w4:=h4.symm;go_wp2_with fail;go_ret;exact ⟨rfl,hk03⟩
    ·have hRe:R=0:=by rw [←HR.out,if_neg (by simp),if_neg hC]
     subst hRe;have hCi: ¬ (CL:Int)<(pl.length:Int):=by omega
     go_wp2_with fail;refine (hcb.out _ hk03).mono ?_;rintro e w4 ⟨rfl,h4⟩;obtain rfl:w3=w4:=h4.symm;go_wp2_with fail;go_ret;exact ⟨rfl,hk03⟩
   ·have hRe:R=E:=by rw [←HR.out,if_pos hE]
    subst hRe;have hEb:(R != 0)=true:=by simpa using hE
    go_wp2_with fail;go_ret;exact ⟨rfl,hk03⟩
  ·by_cases hn:0<nk
   ·have hnb:(true&&decide (0<nk))=true:=by simpa using hn
    rw [if_pos hnb] at hR;subst hR;clear hcb;go_enter Tryz.func94,Tryz.ntmps94;go_wp2_with fail;rw [HW1.out];refine (hie.out _).mono ?_;rintro e w1 ⟨rfl,h1'⟩;obtain rfl:W1=w1:=h1'.symm;go_wp2_with fail;go_ret;exact ⟨rfl,hka⟩
   ·have hnb: ¬ (true&&decide (0<nk))=true:=by simpa using hn
    rw [if_neg hnb] at hR;have HR:=Ja hR;clear hR hnb;go_enter Tryz.func94,Tryz.ntmps94;go_wp2_with fail;rw [HW1.out];refine (hie.out _).mono ?_;rintro e w1 ⟨rfl,h1'⟩;obtain rfl:W1=w1:=h1'.symm;go_wp2_with fail;refine HC1.out.mono ?_;rintro e w3 ⟨rfl,hk3⟩;have hk03:=(hkb.alloc _).trans hk3;by_cases hE:E=0
    ·subst hE;have n3:w3.cell? ⟨w.heap.size,0,none⟩=some (.string ⟨nm.toArray⟩):=Jc (((Jb.refl [] W1).alloc _).alloc _ |>.trans hk3) k0;by_cases hC:CL<pl.length
     ·have hRe:R=4:=by rw [←HR.out,if_neg (by simp),if_pos hC]
      subst hRe;have hCi:(CL:Int)<(pl.length:Int):=by omega
      go_wp2_with fail;refine (hcb.out _ hk03).mono ?_;rintro e w4 ⟨rfl,h4⟩;obtain rfl:w3=w4:=h4.symm;go_wp2_with fail;go_ret;exact ⟨rfl,hk03⟩
     ·have hRe:R=0:=by rw [←HR.out,if_neg (by simp),if_neg hC]
      subst hRe;have hCi: ¬ (CL:Int)<(pl.length:Int):=by omega
      go_wp2_with fail;refine (hcb.out _ hk03).mono ?_;rintro e w4 ⟨rfl,h4⟩;obtain rfl:w3=w4:=h4.symm;go_wp2_with fail;go_ret;exact ⟨rfl,hk03⟩
    ·have hRe:R=E:=by rw [←HR.out,if_pos hE]
     subst hRe;have hEb:(R != 0)=true:=by simpa using hE
     go_wp2_with fail;go_ret;exact ⟨rfl,hk03⟩
 ·rw [if_pos rfl];go_enter Tryz.func94,Tryz.ntmps94;go_wp2_with fail;refine (hct.out _ hka).mono ?_;rintro e w1 ⟨rfl,hk1⟩;go_wp2_with fail;go_ret;exact ⟨rfl,hka.trans hk1⟩
theorem Jrf:Jy 94:=JC Tryz.func94 (by kernel_rfl) (by kernel_rfl)
theorem JoU:Jy 182:=JC Tryz.func182 (by kernel_rfl) (by kernel_rfl)
def Jdr (_:Int) (b:List Nd) (i:Nat) (ar:List Nd):Int × Bool:=(ZN b i ar,ZN b i ar==0)
def JeU (w:World) (b:Nat):Prop:=w.heap[b]?=some (.cells #[.func (.func 94) #[] #[]] 129 (0,0))
theorem JeU.keeps {S:List Nat} {w w':World} {b:Nat} (h:JeU w b) (hk:Jb S w w') (hb:b∉S):JeU w' b:=by
 unfold JeU at *;rw [hk.block b (lt_of_block h) hb];exact h
set_option maxRecDepth 4000 in
theorem JmC (P:Nat→Prop) (B1 b c:Nat) (s:Int) (w:World) (v:Value) (ns:List Nd) (i:Nat) (av:Value) (pl:List Pn) (hbc:b≠c) (hf:JeU w b) (hI:ZS w c 22 s) (hN:Ns w P v ns) (hF:Qw ns) (hi:i<ns.length) (hrow:w.ownsRow B1 45 4 av pl.length (Jk pl)) (hpl:pl.length≤2000000):
  Calls Tryz.prog 182 #[v,.int .i64 i,av,.pointer (some ⟨b,0,none⟩),.pointer (some ⟨c,0,none⟩)] w fun e w'=>e=.returned (.bool (ZN ns i (pl.map Pn.nd)==0))∧(JeU w' b∧ZS w' c 22 (ZN ns i (pl.map Pn.nd)))∧Jb [c] w w':=by
 have hcn:=Ja (Jjp w P B1 v ns i av pl hN hF hi hrow hpl);generalize ZN ns i (pl.map Pn.nd)=E at *;obtain ⟨o,c',hv⟩:=hN.form;subst hv;obtain ⟨ao,ac,hav⟩:=Jg hrow;subst hav;have k0:w.cell? ⟨b,0,none⟩=some (.func (.func 94) #[] #[]):=Jd hf 0;have hE:=Jrf;unfold Jy at hE;clear hN hrow hF;go_enter Tryz.func182,Tryz.ntmps182;go_wp2_with fail;refine hcn.out.mono ?_;rintro e w1 ⟨rfl,hk1⟩;have hf1:=hf.keeps hk1 List.not_mem_nil;have hI1:=hI.keeps hk1 List.not_mem_nil;have n0:w1.cell? ⟨c,0,none⟩=some (.int .i64 s):=Jd hI1 0;have n1:w1.frozen? ⟨c,0,none⟩=false:=Jn hI1 0;clear hcn;go_wp2_with fail;go_ret;have hks:Jb [c] w1 (w1.setCell ⟨c,0,none⟩ (.int .i64 E)):=(Jb.refl [c] w1).setCell (.inl (by simp)) _;exact ⟨rfl,⟨hf1.keeps hks (by simpa using hbc),hI1.set E⟩,QN (hk1.to (T:=[c]) (by simp)) hks (fun g hg _=>hg)⟩
theorem Jow (b c B1:Nat) (hb:b<c) (h:c<B1):Vis 182 #[.pointer (some ⟨b,0,none⟩),.pointer (some ⟨c,0,none⟩)] Jdr (fun s w=>JeU w b∧ZS w c 22 s) [c] B1 (fun g=>g<b) Qw where
 call s w v ns i av pl hI hN hF hi hrow hpl _:=JmC _ B1 b c s w v ns i av pl (by omega) hI.1 hI.2 hN hF hi hrow hpl
 stable s w w' L hL hI hk:=⟨hI.1.keeps hk (fun hm=>by have:=hL b hm;omega),hI.2.keeps hk (fun hm=>by have:=hL c hm;omega)⟩
 down ns hF n hn:=(JgG hF hn).2
 low g hg:=by simp at hg;omega
 enters:=JoU
 part g hg:=⟨by omega,by simp;omega⟩
def XN (ns:List Nd):Int:=if (QL JaR ns ns 0 [] 0).2=true then (QL Jdr ns ns 0 [] 0).1 else 2
set_option maxRecDepth 4000 in
theorem Jij (w:World) (P:Nat→Prop) (v:Value) (ns:List Nd) (h:Ns w P v ns) (hsz:JD ns≤2000000) (hF:Qw ns):
  Calls Tryz.prog 93 #[v,.func (.func 94) #[] #[]] w fun e w'=>e=.returned (.int .i64 (XN ns))∧Jb [] w w':=by
 unfold XN;have hka:Jb [] w (w.alloc (.cells #[.func (.func 94) #[] #[]] 129)):=(Jb.refl [] w).alloc _;have hbx:JeU (w.alloc (.cells #[.func (.func 94) #[] #[]] 129)) w.heap.size:=heap_alloc_new w _;obtain ⟨W,hW⟩: ∃ W,w.alloc (.cells #[.func (.func 94) #[] #[]] 129)=W:=⟨_,rfl⟩;rw [hW] at hka hbx;have HW:=Ja hW;clear hW;have hfi:=Ja (Jri W P v ns (h.keeps0 hka) hsz);have hlow:Ns w (fun g=>g<w.heap.size) v ns:=h.lt;have hlt:w.heap.size<W.heap.size:=lt_of_block hbx;have hwk:=Ja (fun (W1:World) (hk1:Jb [] W W1)=>JjT (Jow w.heap.size W1.heap.size (W1.heap.size+1) (Nat.lt_of_lt_of_le hlt hk1.size) (by omega)) (W1.alloc (.cells #[.int .i64 0] 22)) v ns (hlow.keeps0 ((hka.trans hk1).alloc _)) 0 ⟨(hbx.keeps hk1 List.not_mem_nil).keeps ((Jb.refl [] W1).alloc _) List.not_mem_nil,heap_alloc_new W1 _⟩ (by simp) hsz hF);generalize QL Jdr ns ns 0 [] 0=R at *;obtain ⟨o,c',hv⟩:=h.form;subst hv;clear hlow h;cases hb:(QL JaR ns ns 0 [] 0).2
 ·rw [hb] at hfi;rw [if_neg (by simp)];clear hb hwk;go_enter Tryz.func93,Tryz.ntmps93;go_wp2_with fail;rw [HW.out];refine hfi.out.mono ?_;rintro e w1 ⟨rfl,hk1⟩;go_wp2_with fail;go_ret;exact ⟨rfl,hka.trans hk1⟩
 ·rw [hb] at hfi;rw [if_pos rfl];clear hb;go_enter Tryz.func93,Tryz.ntmps93;go_wp2_with fail;rw [HW.out];refine hfi.out.mono ?_;rintro e w1 ⟨rfl,hk1⟩;go_wp2_with fail;refine (hwk.out w1 hk1).mono ?_;rintro e w2 ⟨rfl,⟨_,hn2⟩,hk2⟩;have n0:w2.cell? ⟨w1.heap.size,0,none⟩=some (.int .i64 R.1):=Jd hn2 0;go_wp2_with fail;go_ret;refine ⟨rfl,QN ((hka.trans hk1).alloc _) hk2 (fun g hg hlt2=>?_)⟩;simp at hg;have:=hka.size;have:=hk1.size;omega
theorem JeR (w:World) (P:Nat→Prop) (v:Value) (ns:List Nd) (h:Ns w P v ns) (hsz:JD ns≤2000000) (hF:Qw ns):
  Calls Tryz.prog 26 #[v] w fun e w'=>e=.returned (.int .i64 (XN ns))∧Jb [] w w':=by
 have hc:=Ja (Jij w P v ns h hsz hF);generalize XN ns=R at *;obtain ⟨o,c',hv⟩:=h.form;subst hv;clear h;go_enter Tryz.func26,Tryz.ntmps26;go_wp2_with fail;refine hc.out.mono ?_;rintro e w1 ⟨rfl,hk1⟩;go_wp2_with fail;go_ret;exact ⟨rfl,hk1⟩
theorem Jl {P:Program} (w:World) {ops:Array Oper} {rest:List Oper} {o:Oper} {a:Act} {Q:Exit→Act→World→Prop} (hgd:o.guard=none) (s x:Operand) (t:TypeId)
  (ho:o.op=.call { callee:=.builtin .append,args:=#[s,x],argTypes:=#[t,t] })
  (base:Nat) (e:TypeId) (i:TypeInfo) (z:Value) (size bytes:Nat) (ht:P.underlying t=some (.slice e)) (hi:P.info? e=some i) (hz:i.zero=some z)
  (hsize:i.size=size) (hby:i.bytes=bytes) (hzs:z.cells.size=size) (hsz:0<size)
  (v:Value) (n:Nat) (xs:List Value) (hs:a.eval s=v) (hown:w.ownsRow base e size v n xs)
  (ad:Addr) (m c:Nat) (news:List Value) (hx:a.eval x=.slice (some ad) m c) (hl:news.length=m * size) (hnews: ∀ j u,news[j]?=some u→w.cell? (ad.add j)=some u) (h1: ∀ u∈news,u.oneCell'=true)
  (h63:n+m≤maxLen) (hbytes:(n+m) * bytes≤140737488355328) (hbase:base≤w.heap.size)
  (h: ∀ v' w',w'.ownsRow base e size v' (n+m) (xs++news)→w.grownBy w' v.ownBlock→(v'.ownBlock=v.ownBlock∨v'.ownBlock=some w.heap.size)→wpList P ops Q rest (a.put o.dst v') w'):wpList P ops Q (o::rest) a w:=by
 refine wpList_plain hgd fun K hK=>?_;obtain ⟨v',w',hr,h2,h3,_,h5⟩:=run_append_own_at (P:=P) w base t o.type e i z size bytes ht hi hz hsize hby hzs hsz v n xs hown ad m c news hl hnews h1 h63 hbytes hbase;unfold Oper.wp execOp;simp only [ho,resolve,invoke,builtin,Sem.run_bind,Sem.run_pure,Result.andThen_ok,List.map_toArray,List.map_cons,List.map_nil,hs,hx,hr];exact hK _ _ (h v' w' h2 h3 h5)
structure Y9 (w:World) (B b:Nat) (outv:Value) (l:List (Tok × Value)):Prop where
 blk:w.heap[b]?=some (.cells #[outv] 26 (0,0))
 row:w.ownsRow B 117 4 outv l.length (JT l)
 attrs: ∀ p∈l,J6 w B p
 hb:B≤b
def tO (b:Nat) (outv:Value):List Nat:=b::outv.ownBlock.toList
theorem Y9.lt {w:World} {B b:Nat} {outv:Value} {l:List (Tok × Value)} (h:Y9 w B b outv l):b<w.heap.size:=lt_of_block h.blk
theorem Y9.ge {w:World} {B b:Nat} {outv:Value} {l:List (Tok × Value)} (h:Y9 w B b outv l): ∀ g,g∈tO b outv→B≤g∧g<w.heap.size:=by
 intro g hg;simp [tO] at hg;rcases hg with rfl | hg
 ·exact ⟨h.hb,h.lt⟩
 ·exact h.row.lt g hg
theorem Y9.keepsNil {w w':World} {B b:Nat} {outv:Value} {l:List (Tok × Value)} (h:Y9 w B b outv l) (hk:Jb [] w w'):Y9 w' B b outv l:=
 ⟨by rw [hk.block b h.lt List.not_mem_nil];exact h.blk,hk.owns h.row (fun _ _=>List.not_mem_nil),fun p hp=>hk.owns (h.attrs p hp) (fun _ _=>List.not_mem_nil),h.hb⟩
theorem Y9.grow {w w3:World} {B b:Nat} {outv:Value} {l:List (Tok × Value)} (h:Y9 w B b outv l) (hk:Jb outv.ownBlock.toList w w3) {v3:Value} {p:Tok × Value} (ho:w3.ownsRow B 117 4 v3 (l.length+1) (JT l++QS p)) (hw:v3.ownBlock=outv.ownBlock∨ ∃ n,v3.ownBlock=some n∧w.heap.size≤n) (hp:J6 w B p):
  Y9 (w3.setCell ⟨b,0,none⟩ v3) B b v3 (l++[p])∧Stp w (tO b outv) (w3.setCell ⟨b,0,none⟩ v3) (tO b v3):=by
 have hbo:b∉outv.ownBlock.toList:=fun hm=>Jt h.row h.blk (by decide) (by simpa using hm);have hblk3:w3.heap[b]?=some (.cells #[outv] 26 (0,0)):=by rw [hk.block b h.lt hbo];exact h.blk
 have hks:Jb [b] w3 (w3.setCell ⟨b,0,none⟩ v3):=(Jb.refl [b] w3).setCell (.inl (by simp)) _;have hat: ∀ q,J6 w B q→J6 (w3.setCell ⟨b,0,none⟩ v3) B q:=fun q hq=>by
  have h3:J6 w3 B q:=hk.owns hq (fun g hg hm=>Qk hq h.row (by decide) hg (by simpa using hm));exact hks.owns h3 (fun g hg hm=>by simp at hm;subst hm;exact Jt h3 hblk3 (by decide) hg)
 refine ⟨⟨by simp [World.setCell,Array.getElem?_modify,hblk3],?_,?_,h.hb⟩,?_,?_⟩
 ·rw [Jc9,List.length_append];exact hks.owns ho (fun g hg hm=>by simp at hm;subst hm;exact Jt ho hblk3 (by decide) hg)
 ·intro q hq;rcases List.mem_append.1 hq with hq | hq
  ·exact hat q (h.attrs q hq)
  ·simp at hq;subst hq;exact hat q hp
 ·exact (hk.to (T:=tO b outv) (fun g hg=>by simp [tO] at hg ⊢;exact .inr hg)).trans (hks.to (fun g hg=>by simp [tO] at hg ⊢;exact .inl hg))
 ·intro g hg hlt;simp [tO] at hg ⊢;rcases hg with hg | hg
  ·exact .inl hg
  ·rcases hw with hw | ⟨n,hw,hn⟩
   ·exact .inr (hw ▸ hg)
   ·rw [hw] at hg;simp at hg;omega
set_option maxRecDepth 4000 in
theorem Jfy (B b:Nat) (outv:Value) (l:List (Tok × Value)) (w:World) (h:Y9 w B b outv l) (hl:l.length≤4000000) (kd:Int) (nm tx:List UInt8) (la:List Jw) (o:Option Addr) (n c:Nat) (hp:J6 w B (⟨kd,nm,la,tx⟩,.slice o n c)):
  Calls Tryz.prog 115 #[.agg #[.int .i64 kd,.string ⟨nm.toArray⟩,.slice o n c,.string ⟨tx.toArray⟩],.pointer (some ⟨b,0,none⟩)] w fun e w'=>
   e=.returned (.tuple #[])∧ ∃ v3,Y9 w' B b v3 (l++[(⟨kd,nm,la,tx⟩,.slice o n c)])∧Stp w (tO b outv) w' (tO b v3):=by
 obtain ⟨i0,hi,hz0,hz1,hz2⟩:=info_parts JdK;have hka:Jb [] w (w.alloc (.cells #[.int .i64 kd,.string ⟨nm.toArray⟩,.slice o n c,.string ⟨tx.toArray⟩] 117)):=(Jb.refl [] w).alloc _;have hbx:QI (w.alloc (.cells #[.int .i64 kd,.string ⟨nm.toArray⟩,.slice o n c,.string ⟨tx.toArray⟩] 117)) w.heap.size (⟨kd,nm,la,tx⟩,.slice o n c):=heap_alloc_new w _;obtain ⟨W,hW⟩: ∃ W,w.alloc (.cells #[.int .i64 kd,.string ⟨nm.toArray⟩,.slice o n c,.string ⟨tx.toArray⟩] 117)=W:=⟨_,rfl⟩;rw [hW] at hka hbx;have h1:=h.keepsNil hka;have hp1:J6 W B _:=hka.owns hp (fun _ _=>List.not_mem_nil);have c0:W.cell? ⟨b,0,none⟩=some outv:=Jd h1.blk 0;have b0:=hbx.cell 0;have b1:=hbx.cell 1;have b2:=hbx.cell 2;have b3:=hbx.cell 3;simp at b0 b1 b2 b3;have hBW:B≤W.heap.size:=Nat.le_trans h1.hb (Nat.le_of_lt h1.lt);obtain ⟨oo,oc,hov⟩:=Jg h1.row;subst hov;have HW:=Ja hW;have hrow:=h1.row;clear hW;go_enter Tryz.func115,Tryz.ntmps115;go_upto_region 1 with fail;rw [HW.out];go_wp2_with (at_builtin;refine Jl _ rfl _ _ 26 rfl B 117 i0 _ 4 64 Tryz.underlying26 hi hz0 hz1 hz2 (by kernel_rfl) (by decide) (.slice oo l.length oc) l.length (JT l) rfl (hrow.alloc _) ⟨W.heap.size,0,none⟩ 1 1 (QS (⟨kd,nm,la,tx⟩,.slice o n c)) rfl rfl ?c1 ?c2 ?c3 ?c4 ?c5 ?_)
 case c1=>exact J9 W _ 117
 case c2=>exact YZ rfl
 case c3=>unfold maxLen;omega
 case c4=>omega
 case c5=>exact Nat.le_trans hBW (by simp)
 intro v3 w3 ho3 hg3 hw3;obtain ⟨o3,c3,hv3⟩:=Jg ho3;subst hv3;have hk3:Jb (Value.slice oo l.length oc).ownBlock.toList W w3:=((Jb.refl _ W).alloc _).grown hg3 (fun i e=>.inl (by simp [e]));have hbo:b∉(Value.slice oo l.length oc).ownBlock.toList:=fun hm=>Jt h1.row h1.blk (by decide) (by simpa using hm);have hblk3:=(hk3.block b h1.lt hbo).trans h1.blk;have d0:w3.cell? ⟨b,0,none⟩=some (.slice oo l.length oc):=Jd hblk3 0;have d1:w3.frozen? ⟨b,0,none⟩=false:=Jn hblk3 0;go_wp2_with fail
 go_end0
 have hw4:(Value.slice o3 (l.length+1) c3).ownBlock=(Value.slice oo l.length oc).ownBlock∨ ∃ k,(Value.slice o3 (l.length+1) c3).ownBlock=some k∧W.heap.size≤k:=by
  rcases hw3 with hw3 | hw3
  ·exact .inl hw3
  ·exact .inr ⟨_,hw3,by simp⟩
 have hfin:=h1.grow hk3 ho3 hw4 hp1;exact ⟨rfl,_,hfin.1,(Stp.nil hka _).trans hfin.2⟩
theorem JiG:Jy 115:=JC Tryz.func115 (by kernel_rfl) (by kernel_rfl)
def JX:List Nd→List Tok
 | []=>[]
 | .mk n a t k::r=>(if n.isEmpty=true then [⟨1,[],[],t⟩] else ⟨2,n,a,[]⟩::(JX k++if Qm n=true then [] else [⟨3,n,[],[]⟩]))++JX r
theorem Jbn (n:Nd) (r:List Nd):JX (n::r)=(if n.name.isEmpty=true then [⟨1,[],[],n.text⟩] else ⟨2,n.name,n.attrs,[]⟩::(JX n.kids++if Qm n.name=true then [] else [⟨3,n.name,[],[]⟩]))++JX r:=by
 obtain ⟨n,a,t,k⟩:=n;rw [JX];rfl
theorem Jdq:(ns:List Nd)→(JX ns).length≤2 * JD ns
 | []=>by simp [JX]
 | .mk n a t k::r=>by
   have h1:=Jdq k;have h2:=Jdq r;rw [JX,JD,List.length_append];split
   ·simp;omega
   ·split<;>simp<;>omega
def Xb:List Nd→Prop
 | []=>True
 | .mk _ a _ k::r=>a.length≤2000000∧Xb k∧Xb r
theorem Jid {n:Nd}:{ns:List Nd}→Xb ns→n∈ns→n.attrs.length≤2000000∧Xb n.kids
 | .mk m a t k::r,h,hm=>by
   unfold Xb at h;rcases List.mem_cons.1 hm with rfl | hm
   ·exact ⟨h.1,h.2.1⟩
   ·exact Jid h.2.2 hm
set_option maxRecDepth 8000 in
theorem Jrk (B b:Nat) (w0:World) (v:Value) (ns:List Nd) (h:Ns w0 (fun g=>g<B) v ns): ∀ (w:World) (L:List Nat),Jb L w0 w→(∀ g,g∈L→B≤g)→ ∀ (outv:Value) (l:List (Tok × Value)),Y9 w B b outv l→l.length+2 * JD ns≤4000000→Xb ns→
  Calls Tryz.prog 114 #[v,.func (.func 115) #[] #[.pointer (some ⟨b,0,none⟩)]] w fun e w'=>e=.returned (.tuple #[])∧ ∃ v' l',l'.map (·.1)=l.map (·.1)++JX ns∧Y9 w' B b v' l'∧Stp w (tO b outv) w' (tO b v'):=by
 induction h with
 | mk v nl ns hns hl ha hk ih=>
   intro w L hkw hPL outv l hO hsz hFew;have hlw:=hl.keeps hkw (fun g hg hm=>by have:=hPL g hm;omega);obtain ⟨o,c,rfl,h1,h2⟩:=hlw.lies.form;unfold maxLen at h2;obtain ⟨R,hR⟩: ∃ R,l.map (·.1)++JX ns=R:=⟨_,rfl⟩;rw [hR];have hll:nl.length=ns.length:=by rw [←hns,List.length_map]
   have hE:=JiG;unfold Jy at hE;have HL:=Ja hlw;have HI:=Ja ih;have HKW:=Ja hkw;have HR:=Ja hR;have Hns:=Ja hns;have Hll:=Ja hll;have Hsz:=Ja hsz;have HA:=Ja ha;have HPL:=Ja hPL;have HFew:=Ja hFew;have HKD:=Ja hk;have HO:=Ja hO;clear hlw ih hkw hR hns hll hsz hl ha hk hPL hFew hO;go_enter Tryz.func114,Tryz.ntmps114;go_wp2_with fail;go_loopw [8] (fun i wr=> ∃ (k:Nat),k≤nl.length∧i=.int .i64 k∧Hid (∃ v' l',l'.map (·.1)++JX (ns.drop k)=R∧l'.length+2 * JD (ns.drop k)≤4000000∧Y9 wr B b v' l'∧Stp w (tO b outv) wr (tO b v'))) (fun i _=>nl.length - (intOf i).toNat)
   case atStart=>exact ⟨0,Nat.zero_le _,rfl,outv,l,HR.out,Hsz.out,HO.out,Stp.refl _ _⟩
   case round=>
    obtain ⟨k,hk,rfl,hrel⟩:=hrel;clear HR;obtain ⟨v',l',hf,hz,hO',hS'⟩:=hrel.out;by_cases hlt:k<nl.length
    ·have hge:=HO.out.ge;have hkr:Jb (tO b outv) w wr:=hS'.1;have hPc: ∀ g,g<B→g∉tO b outv:=fun g hg hm=>by have:=(hge g hm).1;omega
     obtain ⟨g,x,hoo,hcl⟩:=(HL.out.keeps hkr hPc).lies.addr (by omega);subst hoo;obtain ⟨a0,a1,a2,a3⟩:=YJ hcl k hlt;have hkn:k<ns.length:=by rw [←Hll.out];exact hlt
     have hpn:nl[k].nd=ns[k]:=by
      have h9:(nl.map Pn.nd)[k]?=ns[k]?:=by rw [Hns.out]
      simpa [List.getElem?_eq_getElem hlt,List.getElem?_eq_getElem hkn] using h9
     rw [List.drop_eq_getElem_cons hkn,Jbn, ←hpn] at hf;rw [List.drop_eq_getElem_cons hkn,ZP, ←hpn] at hz;have hpk:=HI.out nl[k] (List.getElem_mem hlt);have hak:=(((HA.out nl[k] (List.getElem_mem hlt)).keeps HKW.out (fun g hg hm=>by have:=HPL.out g hm;omega)).keeps hkr hPc);have hfew:=Jid HFew.out (n:=nl[k].nd) (by rw [hpn];exact List.getElem_mem hkn);have hkf:=(HKD.out nl[k] (List.getElem_mem hlt)).form;clear hcl;generalize nl[k]=p at *;obtain ⟨nd,pav,pkv⟩:=p;simp only at a0 a1 a2 a3 hf hz hpk hak hfew hkf;clear hpn;obtain ⟨qo,qc,hq⟩:=hak.form;subst hq;obtain ⟨ko,kc,hkv⟩:=hkf;subst hkv;obtain ⟨Wb,hWb⟩: ∃ Wb,wr.alloc (.cells #[.string ⟨nd.name.toArray⟩,.slice qo nd.attrs.length qc,.string ⟨nd.text.toArray⟩,.slice ko nd.kids.length kc] 45)=Wb:=⟨_,rfl⟩;have hka:Jb [] wr Wb:=by rw [←hWb];exact (Jb.refl [] wr).alloc _
     have hbx:Wb.heap[wr.heap.size]?=some (.cells #[.string ⟨nd.name.toArray⟩,.slice qo nd.attrs.length qc,.string ⟨nd.text.toArray⟩,.slice ko nd.kids.length kc] 45 (0,0)):=by rw [←hWb];exact heap_alloc_new wr _
     have hOb:=hO'.keepsNil hka;have hSb:=hS'.trans (Stp.nil hka (tO b v'));have hboxo: ∀ (Wx:World) (v2:Value),Stp Wb (tO b v') Wx (tO b v2)→Wx.heap[wr.heap.size]?=some (.cells #[.string ⟨nd.name.toArray⟩,.slice qo nd.attrs.length qc,.string ⟨nd.text.toArray⟩,.slice ko nd.kids.length kc] 45 (0,0)):=fun Wx v2 hs=>
      (hs.1.block _ (lt_of_block hbx) (fun hm=>by have:=(hO'.ge _ hm).2;omega)).trans hbx
     have HBX:=Ja hboxo;have hakb:=hak.keeps hka (fun _ _=>List.not_mem_nil);have k0:Wb.cell? ⟨wr.heap.size,0,none⟩=some (.string ⟨nd.name.toArray⟩):=Jd hbx 0;have k1:Wb.cell? ⟨wr.heap.size,1,none⟩=some (.slice qo nd.attrs.length qc):=Jd hbx 1;have k2:Wb.cell? ⟨wr.heap.size,2,none⟩=some (.string ⟨nd.text.toArray⟩):=Jd hbx 2;have Hf:=Ja hf;have Hz:=Ja hz;have HWb:=Ja hWb;clear hf hz hWb hrel hboxo;have hll':l'.length≤4000000:=by have:=Hz.out;omega
     cases t0:nd.name.isEmpty
     ·have hcp:=Ja (fun (W':World) (hk':Jb [] Wb W')=>Jhe W' _ nd.attrs (hakb.lies.keeps hk') hfew.1);have hBb:B≤Wb.heap.size:=Nat.le_trans hOb.hb (Nat.le_of_lt hOb.lt);have hput:=Ja (fun (W':World) (hk':Jb [] Wb W') (o9:Option Addr) (n9 c9:Nat) (hp9:J6 W' B (⟨2,nd.name,nd.attrs,[]⟩,.slice o9 n9 c9))=>Jfy B b v' l' W' (hOb.keepsNil hk') hll' 2 nd.name [] nd.attrs o9 n9 c9 hp9);go_upto_region 5 with fail;rw [HWb.out]
      go_cut [] from 20 to 27 (fun wc=> ∃ v3 av3,Y9 wc B b v3 (l'++[(⟨2,nd.name,nd.attrs,[]⟩,av3)])∧Stp Wb (tO b v') wc (tO b v3))
      case first=>
       go_region_law (first
        | (refine Xg rfl 165 _ _ rfl JiJ #[.slice qo nd.attrs.length qc] (by simp [Act.eval]) (hcp.out _ ((Jb.refl [] _).drew)) ?_;rintro e w2 ⟨v2,rfl,ho2,hk2⟩;obtain ⟨o2,c2,hv2⟩:=Jg ho2;subst hv2;refine ⟨_,rfl,?_⟩;have x0:=Jc hk2 k0;have hp2:J6 w2 B (⟨2,nd.name,nd.attrs,[]⟩,.slice o2 nd.attrs.length c2):=ho2.mono hBb)
        | (refine XC (by simp [Region.wanted]) (.tmp 20) _ _ rfl 115 #[.pointer (some ⟨b,0,none⟩)] rfl JiG #[.agg #[.int .i64 2,.string ⟨nd.name.toArray⟩,.slice o2 nd.attrs.length c2,.string ⟨#[]⟩]] (by first | (simp [Act.eval];done) | (simp [Act.eval,Act.put];done)) (hput.out w2 (((Jb.refl [] _).drew).trans hk2) _ _ _ hp2) ?_;rintro e w3 ⟨rfl,v3,hO3,hS3⟩;refine ⟨_,rfl,?_⟩))
       all_goals go_wp2
       all_goals go_meet
       all_goals exact ⟨v3,_,hO3,(Stp.nil (((Jb.refl [] _).drew).trans hk2) _).trans hS3⟩
      case rest=>
       obtain ⟨v3,av3,hO3,hS3⟩:=hcut;clear hcp hput;have hbx3:=HBX.out wc v3 hS3;have m3:wc.cell? ⟨wr.heap.size,3,none⟩=some (.slice ko nd.kids.length kc):=Jd hbx3 3;have hrec:=Ja (hpk wc (L++tO b outv) ((HKW.out.to (fun g hg=>List.mem_append_left _ hg)).trans ((hSb.trans hS3).1.to (fun g hg=>List.mem_append_right _ hg))) (fun g hg=>(List.mem_append.1 hg).elim (HPL.out g) (fun h9=>(hge g h9).1)) v3 _ hO3 (by have:=Hz.out;simp;omega) hfew.2);go_wp2_with fail;refine hrec.out.mono ?_;rintro e w4 ⟨rfl,v4,l4,hl4,hO4,hS4⟩;have hbx4:=HBX.out w4 v4 (hS3.trans hS4);have m0:w4.cell? ⟨wr.heap.size,0,none⟩=some (.string ⟨nd.name.toArray⟩):=Jd hbx4 0;have hie:=Ja (fun W'=>JdA nd.name W');have hl4l:l4.length=l'.length+1+(JX nd.kids).length:=by
        have h9:=congrArg List.length hl4;simp only [List.length_map,List.length_append,List.length_singleton] at h9;exact h9
       have hfl:=Jdq nd.kids;have Hl4:=Ja hl4;clear hrec hl4;have hl4b:l4.length≤4000000:=by have:=Hz.out;omega
       have hS04:=(hSb.trans hS3).trans hS4;cases t1:Qm nd.name
       ·rw [t1] at hie;have hput:=Ja (Jfy B b v4 l4 w4 hO4 hl4b 3 nd.name [] [] none 0 0 (World.ownsRow_nil _ _ _ _));go_wp2_with fail;refine (hie.out _).mono ?_;rintro e w5 ⟨rfl,h5⟩;obtain rfl:w4=w5:=h5.symm;go_wp2_with fail;refine hput.out.mono ?_;rintro e w6 ⟨rfl,v6,hO6,hS6⟩;go_wp2_with fail;go_roundw
        case rel=>
         refine ⟨k+1,by omega,by go_num,v6,_,?_,?_,hO6,hS04.trans hS6⟩
         ·have h9:=Hf.out;rw [if_neg (by rw [t0];simp),if_neg (by rw [t1];simp)] at h9;rw [←h9,List.map_append,Hl4.out];simp
         ·have:=Hz.out;simp;omega
        case measure=>simp [intOf];omega
       ·rw [t1] at hie;go_wp2_with fail;refine (hie.out _).mono ?_;rintro e w5 ⟨rfl,h5⟩;obtain rfl:w4=w5:=h5.symm;go_wp2_with fail;go_roundw
        case rel=>
         refine ⟨k+1,by omega,by go_num,v4,_,?_,?_,hO4,hS04⟩
         ·have h9:=Hf.out;rw [if_neg (by rw [t0];simp),if_pos t1] at h9;rw [←h9,Hl4.out];simp
         ·have:=Hz.out;omega
        case measure=>simp [intOf];omega
     ·have hput:=Ja (Jfy B b v' l' Wb hOb hll' 1 [] nd.text [] none 0 0 (World.ownsRow_nil _ _ _ _));go_upto_region 4 with fail;rw [HWb.out];go_wp2_with fail;refine hput.out.mono ?_;rintro e w2 ⟨rfl,v3,hO3,hS3⟩;go_wp2_with fail;go_roundw
      case rel=>
       refine ⟨k+1,by omega,by go_num,v3,_,?_,?_,hO3,hSb.trans hS3⟩
       ·have h9:=Hf.out;rw [if_pos t0] at h9;simpa using h9
       ·have:=Hz.out;simp;omega
      case measure=>simp [intOf];omega
    ·have hke:k=nl.length:=by omega
     subst hke;go_wp2_with fail
     go_end0
     refine ⟨rfl,v',l',?_,hO',hS'⟩;rw [Hll.out,List.drop_length] at hf;simpa [JX] using hf
set_option maxRecDepth 4000 in
theorem JkX (w:World) (P:Nat→Prop) (v:Value) (ns:List Nd) (h:Ns w P v ns) (hsz:JD ns≤2000000) (hF:Qw ns) (hFew:Xb ns):
  Calls Tryz.prog 38 #[v] w fun e w'=> ∃ v',e=.returned (.tuple #[v',.int .i64 (XN ns)])∧(∃ n c a,v'=.slice a n c∧n=if XN ns=0 then (JX ns).length else 0)∧Jbd w' v' (if XN ns=0 then JX ns else [])∧Jb [] w w':=by
 have hck:=Ja (JeR w P v ns h hsz hF);have hfl:=Ja (fun (w1:World) (hk1:Jb [] w w1)=>Jrk w1.heap.size w1.heap.size w1 v ns ((h.keeps0 hk1).lt) (w1.alloc (.cells #[.slice none 0 0] 26)) [] ((Jb.refl [] w1).alloc _) (by simp) (.slice none 0 0) [] ⟨heap_alloc_new w1 _,World.ownsRow_nil _ _ _ _,by simp,Nat.le_refl _⟩ (by simp;omega) hFew);obtain ⟨o,c',hv⟩:=h.form;subst hv;generalize XN ns=E at *;clear h;by_cases hE:E=0
 ·subst hE;rw [if_pos rfl,if_pos rfl];go_enter Tryz.func38,Tryz.ntmps38;go_wp2_with fail;refine hck.out.mono ?_;rintro e w1 ⟨rfl,hk1⟩;go_wp2_with fail;refine (hfl.out w1 hk1).mono ?_;rintro e w2 ⟨rfl,v2,l2,hl2,hO2,hS2⟩;have n0:w2.cell? ⟨w1.heap.size,0,none⟩=some v2:=Jd hO2.blk 0;obtain ⟨o2,c2,hv2⟩:=Jg hO2.row;subst hv2;have hll:=congrArg List.length hl2;simp only [List.length_map,List.map_nil,List.nil_append] at hll hl2;have hts:Jbd w2 (.slice o2 l2.length c2) (JX ns):=⟨l2,hl2,Jh.of_row hO2.row,fun p hp=>Jh.of_row (hO2.attrs p hp)⟩;have hkf:Jb [] w w2:=QN (hk1.alloc _) hS2.1 (fun g hg hlt=>by simp [tO,Value.ownBlock] at hg;have:=hk1.size;omega);rw [hll] at n0 hts;clear hck hfl hl2 hll hO2;go_wp2_with fail
  go_ret2
  exact ⟨_,rfl,⟨_,_,_,rfl,rfl⟩,hts,hkf⟩
 ·rw [if_neg hE,if_neg hE];have hEb:(E != 0)=true:=by simpa using hE
  go_enter Tryz.func38,Tryz.ntmps38;go_wp2_with fail;refine hck.out.mono ?_;rintro e w1 ⟨rfl,hk1⟩;go_wp2_with fail
  go_ret2
  exact ⟨_,rfl,⟨_,_,_,rfl,rfl⟩,⟨[],rfl,⟨rfl,.inl ⟨rfl,rfl⟩⟩,by simp⟩,hk1⟩
theorem J4.blk {B b:Nat} {w w':World} {g:Nat} {cs:Array Value} {ty:TypeId} (h:J4 B b w w') (ht:w.heap[g]?=some (.cells cs ty (0,0))) (hty:ty≠5) (hg:g≠b):w'.heap[g]?=some (.cells cs ty (0,0)):=by
 rw [h.block g (lt_of_block ht) hg (.inr (fun cs f e=>by rw [ht] at e;simp at e;exact hty e.2.1))];exact ht
theorem Jd7 {w W:World} {o:Obj} {k:Nat} (hk:w.heap.size=k) (hW:w.alloc o=W):W.heap[k]?=some o∧W.heap.size=k+1:=by
 subst hk;subst hW;exact ⟨heap_alloc_new w o,by simp⟩
end Go.Proofs.YtlcljanibjdejaaGreat
namespace Go.Proofs
open Go.Shelf
def Tryz.lays137_ren:Go.Shelf.Ren:=⟨fun | 137=>287 | 217=>315 | 266=>334 | n=>n,fun | 9=>9 | 5=>5 | 3=>3 | n=>n,fun | n=>n⟩
theorem Tryz.lays137:Go.Proofs.Lays.n137 Tryz.prog Tryz.lays137_ren:={
 mixed:=by kernel_rfl
 f137:=Tryz.func287.trans (congrArg some (by kernel_rfl))
 f217:=Tryz.func315.trans (congrArg some (by kernel_rfl))
 f266:=Tryz.func334.trans (congrArg some (by kernel_rfl))
 t3:=Tryz.underlying3
 a3:=Tryz.isAgg3
 z3:=Tryz.sizeOf3
 v3:=Tryz.zeroValue3
 t5:=Tryz.underlying5
 a5:=Tryz.isAgg5
 z5:=Tryz.sizeOf5
 v5:=Tryz.zeroValue5
 t9:=Tryz.underlying9
 a9:=Tryz.isAgg9
 z9:=Tryz.sizeOf9
 v9:=Tryz.zeroValue9 }
open Go.RowKit in
theorem Tryz.strings_IndexByte (s:ByteArray) (c:Int) (w:World):
 Calls Tryz.prog 287 #[.string s,.int .u8 c] w fun e w'=>e=.returned (.int .i64 (Lib.indexByte s.data.toList c.toNat.toUInt8))∧w'=w:=Any.strings_IndexByte Tryz.lays137 s c w
end Go.Proofs
namespace Go.Proofs.YtlcljanibjdejaaGreat
open Go.RowKit Go.Maps
@[reducible] def SKw (W w':World):Prop:=Jb [] W w'
theorem JW.pos {w:World} (h:JW w):0<w.heap.size:=by
 unfold JW World.cell? at h;rcases Nat.eq_zero_or_pos w.heap.size with h0 | h0
 ·rw [Array.getElem?_eq_none (by simp [h0])] at h;simp at h
 ·exact h0
end Go.Proofs.YtlcljanibjdejaaGreat
namespace Go.Proofs.YtlcljanibjdejaaGreat
open Go.RowKit
def Rt:List (List UInt8)→Bool→List Nd→Prop
 | _,_,[]=>True
 | ar,prev,.mk n a t k::r=>
   if n=[] then t≠[]∧a=[]∧k=[]∧prev=false∧Rt ar true r
   else JB n=true∧t=[]∧QR a []=0∧(Qm n=true→k=[])∧ar.length≤Jm ar n∧ar.length<8∧Rt (ar++[n]) false k∧Rt ar false r
theorem JcL (ar:List (List UInt8)) (prev:Bool) (n:Nd) (r:List Nd) (h:n.name=[]):Rt ar prev (n::r)↔n.text≠[]∧n.attrs=[]∧n.kids=[]∧prev=false∧Rt ar true r:=by
 obtain ⟨m,a,t,k⟩:=n;have h:m=[]:=h;rw [Rt,if_pos h];rfl
theorem JfQ (ar:List (List UInt8)) (prev:Bool) (n:Nd) (r:List Nd) (h:n.name≠[]):Rt ar prev (n::r)↔JB n.name=true∧n.text=[]∧QR n.attrs []=0∧(Qm n.name=true→n.kids=[])∧ar.length≤Jm ar n.name∧ar.length<8∧Rt (ar++[n.name]) false n.kids∧Rt ar false r:=by
 obtain ⟨m,a,t,k⟩:=n;have h:m≠[]:=h;rw [Rt,if_neg h];rfl
theorem Jcb (ar:List (List UInt8)) (prev:Bool):Rt ar prev []:=by rw [Rt];trivial
theorem Z9 {n:List UInt8} (h:JB n=true):n≠[]:=by
 rintro rfl;simp [JB] at h
def Jtf (ar:List (List UInt8)) (n:Nd):Prop:=JB n.name=true∧n.text=[]∧QR n.attrs []=0∧(Qm n.name=true→n.kids=[])∧ar.length≤Jm ar n.name∧ar.length<8∧Rt (ar++[n.name]) false n.kids
def QA (l:List Nd):Bool:=l.getLast?.map Nd.name==some []
theorem Jba: ∀ (l:List Nd) (ar:List (List UInt8)) (prev:Bool) (n:Nd),Rt ar prev l→Jtf ar n→Rt ar prev (l++[n])
 | [],ar,prev,n,_,h=>(JfQ ar prev n [] (Z9 h.1)).2 ⟨h.1,h.2.1,h.2.2.1,h.2.2.2.1,h.2.2.2.2.1,h.2.2.2.2.2.1,h.2.2.2.2.2.2,Jcb _ _⟩
 | m::l,ar,prev,n,hl,h=>by
   rw [List.cons_append];by_cases hm:m.name=[]
   ·rw [JcL _ _ _ _ hm] at hl ⊢;exact ⟨hl.1,hl.2.1,hl.2.2.1,hl.2.2.2.1,Jba l ar true n hl.2.2.2.2 h⟩
   ·rw [JfQ _ _ _ _ hm] at hl ⊢;obtain ⟨h1,h2,h3,h4,h5,h6,h7,h8⟩:=hl;exact ⟨h1,h2,h3,h4,h5,h6,h7,Jba l ar false n h8 h⟩
theorem Jjv (m n:Nd) (l:List Nd):QA (m::n::l)=QA (n::l):=by simp [QA]
theorem Jbb: ∀ (l:List Nd) (ar:List (List UInt8)) (prev:Bool) (t:List UInt8),Rt ar prev l→t≠[]→(l=[]→prev=false)→QA l=false→Rt ar prev (l++[Xn t])
 | [],ar,prev,t,_,ht,hp,_=>(JcL ar prev (Xn t) [] rfl).2 ⟨ht,rfl,rfl,hp rfl,Jcb _ _⟩
 | m::l,ar,prev,t,hl,ht,_,he=>by
   rw [List.cons_append];have he2:l≠[]→QA l=false:=fun h=>by
    cases l with
    | nil=>exact absurd rfl h
    | cons n l=>rwa [Jjv] at he
   have he3:QA l=false:=by
    cases l with
    | nil=>rfl
    | cons n l=>exact he2 (by simp)
   by_cases hm:m.name=[]
   ·rw [JcL _ _ _ _ hm] at hl ⊢;refine ⟨hl.1,hl.2.1,hl.2.2.1,hl.2.2.2.1,Jbb l ar true t hl.2.2.2.2 ht (fun h=>?_) he3⟩;subst h;simp [QA,hm] at he
   ·rw [JfQ _ _ _ _ hm] at hl ⊢;obtain ⟨h1,h2,h3,h4,h5,h6,h7,h8⟩:=hl;exact ⟨h1,h2,h3,h4,h5,h6,h7,Jbb l ar false t h8 ht (fun _=>rfl) he3⟩
theorem JaQ (l:List Nd) (n:Nd):QA (l++[n])=(n.name==[]):=by simp [QA]
theorem Jdz {α:Type} (pre:List α) (n:α) (r:List α):(pre++n::r)[pre.length]?=some n:=by simp
theorem JrI (pre:List Nd) (r:List Nd):Zx (pre++r) pre.length=QA pre:=by
 unfold Zx QA;rcases List.eq_nil_or_concat pre with rfl | ⟨l,m,rfl⟩
 ·rfl
 ·simp [List.concat_eq_append]
theorem JsC (n:List UInt8) (a:List Jw) (t:List UInt8):Ya [⟨2,n,a,t⟩]=if t≠[]∨JB n=false then 1 else QR a []:=by
 simp only [Ya,Qi,Xi];simp;split<;>simp_all
def Rn:List (List UInt8)→Bool→List Nd→Prop
 | _,_,[]=>True
 | ar,prev,.mk n a t k::r=>
   if n=[] then t≠[]∧a=[]∧k=[]∧prev=false∧Rn ar true r
   else JB n=true∧t=[]∧QR a []=0∧(Qm n=true→k=[])∧ar.length≤Jm ar n∧Rn (ar++[n]) false k∧Rn ar false r
theorem Jn3 (ar:List (List UInt8)) (prev:Bool):Rn ar prev []:=by rw [Rn];trivial
theorem Jel: ∀ (r pre:List Nd) (ar:List Nd),((QL Jdr (pre++r) r pre.length ar 0)=(0,true)∧Rn (ar.map Nd.name) (QA pre) r)∨((QL Jdr (pre++r) r pre.length ar 0).2=false∧(QL Jdr (pre++r) r pre.length ar 0).1≠0∧¬ Rn (ar.map Nd.name) (QA pre) r)
 | [],pre,ar=>.inl ⟨by rw [QL],Jn3 _ _⟩
 | .mk n a t k::r,pre,ar=>by
   have ihk:=Jel k [] (ar++[.mk n a t k]);have ihr:=Jel r (pre++[.mk n a t k]) ar;simp only [List.append_assoc,List.singleton_append,List.length_append,List.length_singleton,List.nil_append,List.length_nil,JaQ,List.map_append,List.map_cons,List.map_nil] at ihk ihr;have hk0:QA ([]:List Nd)=false:=rfl;rw [hk0] at ihk;have hchk:ZN (pre++.mk n a t k::r) pre.length ar=Zi (.mk n a t k) (pre++.mk n a t k::r) pre.length ar:=by unfold ZN;rw [Jdz]
   rw [QL];have hR:Rn (ar.map Nd.name) (QA pre) (.mk n a t k::r)↔if n=[] then t≠[]∧a=[]∧k=[]∧QA pre=false∧Rn (ar.map Nd.name) true r else JB n=true∧t=[]∧QR a []=0∧(Qm n=true→k=[])∧(ar.map Nd.name).length≤Jm (ar.map Nd.name) n∧Rn (ar.map Nd.name++[n]) false k∧Rn (ar.map Nd.name) false r:=by rw [Rn]
   rw [hR];clear hR;simp only [Jdr,hchk];by_cases hn:n=[]
   ·subst hn;have hcn:Zi (.mk [] a t k) (pre++.mk [] a t k::r) pre.length ar=Q1 t a k (QA pre):=by
     simp only [Zi,Nd.name,List.isEmpty_nil,if_true,JcM];rw [Jdz,JrI];rfl
    rw [hcn,if_pos rfl];have hname:(Nd.name (.mk [] a t k)==[])=true:=rfl;rw [hname] at ihr;by_cases hbad:t.isEmpty=true∨0<a.length∨0<k.length
    ·right;rw [show Q1 t a k (QA pre)=1 from by unfold Q1;rw [if_pos hbad]];refine ⟨rfl,by simp,fun h=>?_⟩;rcases hbad with h1 | h1 | h1
     ·simp at h1;exact h.1 h1
     ·rw [h.2.1] at h1;simp at h1
     ·rw [h.2.2.1] at h1;simp at h1
    ·have hb2:t≠[]∧a=[]∧k=[]:=by
      simp only [not_or,List.isEmpty_iff] at hbad;exact ⟨hbad.1,List.eq_nil_of_length_eq_zero (by omega),List.eq_nil_of_length_eq_zero (by omega)⟩
     obtain ⟨ht,rfl,rfl⟩:=hb2;cases hp:QA pre
     ·rw [show Q1 t [] [] false=0 from by unfold Q1;rw [if_neg hbad,if_neg (by simp)]];have hw:QL Jdr [] [] 0 (ar++[.mk [] [] t []]) 0=(0,true):=by rw [QL]
      simp only [hw,beq_self_eq_true,if_true];rcases ihr with ⟨h1,h2⟩ | ⟨h1,h2,h3⟩
      ·exact .inl ⟨h1,ht,trivial,trivial,trivial,h2⟩
      ·exact .inr ⟨h1,h2,fun h=>h3 h.2.2.2.2⟩
     ·rw [show Q1 t [] [] true=4 from by unfold Q1;rw [if_neg hbad,if_pos rfl]];exact .inr ⟨rfl,by simp,fun h=>by simp at h⟩
   ·have hie:n.isEmpty=false:=by simpa using hn
    have hname:(Nd.name (.mk n a t k)==[])=false:=by simpa [Nd.name] using hn
    rw [hname] at ihr;have hnm:Nd.name (.mk n a t k)=n:=rfl;rw [hnm] at ihk;have hcn:Zi (.mk n a t k) (pre++.mk n a t k::r) pre.length ar=if (Qm n&&decide (0<k.length))=true then 1 else if (if t≠[]∨JB n=false then 1 else QR a [])≠0 then (if t≠[]∨JB n=false then 1 else QR a []) else if Jm (ar.map Nd.name) n<ar.length then 4 else 0:=by
     unfold Zi;simp only [Nd.name,Nd.attrs,Nd.text,Nd.kids,hie,JsC];rfl
    rw [hcn,if_neg hn];by_cases h1:(Qm n&&decide (0<k.length))=true
    ·right;rw [if_pos h1];refine ⟨rfl,by simp,fun h=>?_⟩;simp at h1;have:=h.2.2.2.1 h1.1;rw [this] at h1;simp at h1
    ·rw [if_neg h1];have h1':Qm n=true→k=[]:=fun h=>by
      simp [h] at h1;exact h1
     by_cases h2:t≠[]∨JB n=false
     ·right;rw [if_pos h2];refine ⟨rfl,by simp,fun h=>?_⟩;rcases h2 with h2 | h2
      ·exact h2 h.2.1
      ·rw [h.1] at h2;simp at h2
     ·rw [if_neg h2];have h2':t=[]∧JB n=true:=by
       simp only [not_or,Decidable.not_not,Bool.not_eq_false] at h2;exact h2
      by_cases h3:QR a []≠0
      ·right;rw [if_pos h3];have hb:(QR a []==0)=false:=by simpa using h3
       rw [hb];exact ⟨rfl,h3,fun h=>h3 h.2.2.1⟩
      ·rw [if_neg h3];have h3':QR a []=0:=Decidable.not_not.1 h3;by_cases h4:Jm (ar.map Nd.name) n<ar.length
       ·right;rw [if_pos h4];refine ⟨rfl,by simp,fun h=>?_⟩;have:=h.2.2.2.2.1;rw [List.length_map] at this;omega
       ·rw [if_neg h4];simp only [beq_self_eq_true,if_true];rcases ihk with ⟨k1,k2⟩ | ⟨k1,k2,k3⟩
        ·rw [k1];simp only [if_true];rcases ihr with ⟨r1,r2⟩ | ⟨r1,r2,r3⟩
         ·exact .inl ⟨r1,h2'.2,h2'.1,h3',h1',by rw [List.length_map];omega,k2,r2⟩
         ·exact .inr ⟨r1,r2,fun h=>r3 h.2.2.2.2.2.2⟩
        ·rw [if_neg (by rw [k1];simp)];exact .inr ⟨rfl,k2,fun h=>k3 h.2.2.2.2.2.1⟩
def Dp:Nat→List Nd→Prop
 | _,[]=>True
 | d,.mk n _ _ k::r=>(n=[]∨d<8)∧Dp (d+1) k∧Dp d r
theorem JjQ (d:Nat):Dp d []:=by rw [Dp];trivial
theorem Jd8: ∀ (r pre:List Nd) (ar:List Nd) (c:Nat),c≤3000→((QL JaR (pre++r) r pre.length ar c)=(((c+JD r:Nat):Int),true)∧c+JD r≤3000∧Dp ar.length r)∨((QL JaR (pre++r) r pre.length ar c).2=false∧¬ (c+JD r≤3000∧Dp ar.length r))
 | [],pre,ar,c,h=>.inl ⟨by rw [QL];simp [JD],by simpa [JD] using h,JjQ _⟩
 | .mk n a t k::r,pre,ar,c,h=>by
   rw [QL];have hR:Dp ar.length (.mk n a t k::r)↔(n=[]∨ar.length<8)∧Dp (ar.length+1) k∧Dp ar.length r:=by rw [Dp]
   have hS:JD (.mk n a t k::r)=1+JD k+JD r:=by rw [JD]
   rw [hR,hS];clear hR hS;have hw:wrap64 ((c:Int)+1)=((c+1:Nat):Int):=by unfold wrap64;omega
   have hf:JaR c (pre++.mk n a t k::r) pre.length ar=(((c+1:Nat):Int),decide (((c+1:Nat):Int)≤3000)&&((n==[]) || decide (ar.length<8))):=by
    unfold JaR;rw [hw,Jdz];rfl
   rw [hf];by_cases h1:c+1≤3000
   ·rw [show decide (((c+1:Nat):Int)≤3000)=true from decide_eq_true (by omega)];by_cases h2:n=[]∨ar.length<8
    ·have hb:(true&&((n==[]) || decide (ar.length<8)))=true:=by
      rcases h2 with rfl | h2
      ·rfl
      ·simp [h2]
     rw [hb];simp only [if_true];have ihk:=Jd8 k [] (ar++[.mk n a t k]) (c+1) h1;simp only [List.nil_append,List.length_nil,List.length_append,List.length_singleton] at ihk;rcases ihk with ⟨k1,k2,k3⟩ | ⟨k1,k2⟩
     ·rw [k1];simp only [if_true];have ihr:=Jd8 r (pre++[.mk n a t k]) ar (c+1+JD k) k2;simp only [List.append_assoc,List.singleton_append,List.length_append,List.length_singleton] at ihr;rcases ihr with ⟨r1,r2,r3⟩ | ⟨r1,r2⟩
      ·exact .inl ⟨by rw [r1,show c+1+JD k+JD r=c+(1+JD k+JD r) from by omega],by omega,h2,k3,r3⟩
      ·exact .inr ⟨r1,fun h=>r2 ⟨by omega,h.2.2.2⟩⟩
     ·rw [if_neg (by rw [k1];simp)];exact .inr ⟨rfl,fun h=>k2 ⟨by omega,h.2.2.1⟩⟩
    ·have hb:(true&&((n==[]) || decide (ar.length<8)))=false:=by
      rw [not_or] at h2;simp [h2.1];omega
     rw [hb];exact .inr ⟨rfl,fun h=>h2 h.2.1⟩
   ·rw [show decide (((c+1:Nat):Int)≤3000)=false from decide_eq_false (by omega)];exact .inr ⟨rfl,fun h=>by omega⟩
theorem Jg1: ∀ (r:List Nd) (ar:List (List UInt8)) (prev:Bool),Rt ar prev r↔Rn ar prev r∧Dp ar.length r
 | [],_,_=>⟨fun _=>⟨Jn3 _ _,JjQ _⟩,fun _=>Jcb _ _⟩
 | .mk n a t k::r,ar,prev=>by
   have i1:=Jg1 r ar true;have i2:=Jg1 r ar false;have i3:=Jg1 k (ar++[n]) false;rw [List.length_append,List.length_singleton] at i3;rw [Rt,Rn,Dp,i1,i2,i3];by_cases hn:n=[]
   ·simp only [if_pos hn];constructor
    ·rintro ⟨h1,h2,rfl,h4,h5,h6⟩;exact ⟨⟨h1,h2,rfl,h4,h5⟩,.inl hn,JjQ _,h6⟩
    ·rintro ⟨⟨h1,h2,rfl,h4,h5⟩,_,_,h6⟩;exact ⟨h1,h2,rfl,h4,h5,h6⟩
   ·simp only [if_neg hn];constructor
    ·rintro ⟨h1,h2,h3,h4,h5,h6,⟨h7,h8⟩,h9,h10⟩;exact ⟨⟨h1,h2,h3,h4,h5,h7,h9⟩,.inr h6,h8,h10⟩
    ·rintro ⟨⟨h1,h2,h3,h4,h5,h7,h9⟩,h6,h8,h10⟩;exact ⟨h1,h2,h3,h4,h5,h6.resolve_left hn,⟨h7,h8⟩,h9,h10⟩
theorem Jbi (ns:List Nd):XN ns=0↔JD ns≤3000∧Rt [] false ns:=by
 have h1:=Jd8 ns [] [] 0 (by omega);have h2:=Jel ns [] [];have h3:=Jg1 ns [] false;simp only [List.nil_append,List.length_nil,List.map_nil] at h1 h2 h3;have he:QA ([]:List Nd)=false:=rfl;have h0:((0:Nat):Int)=0:=rfl;rw [he] at h2;rw [h0,Nat.zero_add] at h1;rw [h3];unfold XN;rcases h1 with ⟨a1,a2,a3⟩ | ⟨a1,a2⟩
 ·rw [a1];simp only [if_true];rcases h2 with ⟨b1,b2⟩ | ⟨b1,b2,b3⟩
  ·rw [b1];exact ⟨fun _=>⟨a2,b2,a3⟩,fun _=>rfl⟩
  ·exact ⟨fun h=>absurd h b2,fun h=>absurd h.2.1 b3⟩
 ·rw [a1,if_neg (by simp)];exact ⟨fun h=>by simp at h,fun h=>absurd ⟨h.1,h.2.2⟩ a2⟩
theorem Jfo (is hides:List UInt8→Bool) (ns:List (List UInt8)): ∀ (i:Nat),i≤ns.length→Qr is hides ns i=ns.length∨(Qr is hides ns i<i∧is (ns.getD (Qr is hides ns i) [])=true)
 | 0,_=>.inl rfl
 | i+1,h=>by
   unfold Qr;split
   ·next h1=>exact .inr ⟨by omega,h1⟩
   ·split
    ·exact .inl rfl
    ·rcases Jfo is hides ns i (by omega) with h2 | ⟨h2,h3⟩
     ·exact .inl h2
     ·exact .inr ⟨by omega,h3⟩
theorem Jfk (is hides:List UInt8→Bool) (ns:List (List UInt8)):JZ is hides ns=ns.length∨(JZ is hides ns<ns.length∧is (ns.getD (JZ is hides ns) [])=true):=Jfo is hides ns ns.length (Nat.le_refl _)
theorem Jef (is hides:List UInt8→Bool) (ns:List (List UInt8)):JZ is hides ns≤ns.length:=Jbu is hides ns _ (Nat.le_refl _)
theorem Jdk (ns:List (List UInt8)) (n:List UInt8):Jm ns n≤ns.length:=by
 unfold Jm;split
 ·refine Nat.le_trans (Jef _ _ _) ?_;rw [List.length_take];omega
 ·split
  ·exact Jef _ _ _
  ·exact Nat.le_refl _
def JjN (ar:List (List UInt8)):Prop:= ∀ i,i<ar.length→i≤Jm (ar.take i) (ar.getD i [])
theorem JoF (ns:List (List UInt8)):Jm ns [112]=JZ (· ==[112]) J5 ns:=by
 unfold Jm;rw [if_neg (by decide),if_pos (by decide)]
theorem Jha (ns:List (List UInt8)):Jm ns [108,105]=JZ (· ==[108,105]) QO (ns.take (JZ (· ==[112]) J5 ns)):=by
 unfold Jm;rw [if_pos rfl,if_pos (by decide)]
theorem JkS {α:Type} (l:List α) (a b:Nat) (h:a≤b):(l.take b).take a=l.take a:=by rw [List.take_take,Nat.min_eq_left h]
theorem Jpk (l:List (List UInt8)) (j f:Nat) (h:j<f):(l.take f).getD j []=l.getD j []:=by
 simp [List.getD_eq_getElem?_getD,h]
theorem Jot (ar:List (List UInt8)) (h:JjN ar):JZ (· ==[112]) J5 (ar.take (JZ (· ==[112]) J5 ar))=JZ (· ==[112]) J5 ar:=by
 rcases Jfk (· ==[112]) J5 ar with h1 | ⟨h1,h2⟩
 ·rw [h1,List.take_length,h1]
 ·have h3:=h _ h1;rw [eq_of_beq h2,JoF] at h3;have h4:=Jef (· ==[112]) J5 (ar.take (JZ (· ==[112]) J5 ar));rw [List.length_take] at h4;omega
theorem Jgc (ar:List (List UInt8)) (n:List UInt8) (h:JjN ar):Jm ar n≤Jm (ar.take (Jm ar n)) n:=by
 by_cases hn:n=[108,105]
 ·subst hn;have hp:=Jot ar h;have hf:=Jef (· ==[112]) J5 ar;rw [Jha ar];generalize hF:JZ (· ==[112]) J5 ar=f at *;rcases Jfk (· ==[108,105]) QO (ar.take f) with h1 | ⟨h1,h2⟩
  ·rw [h1,List.length_take,Nat.min_eq_left hf,Jha,hp,JkS _ _ _ (Nat.le_refl _),h1,List.length_take,Nat.min_eq_left hf];exact Nat.le_refl _
  ·rw [List.length_take] at h1;have h3:=h (JZ (· ==[108,105]) QO (ar.take f)) (by omega);rw [Jpk _ _ _ (by omega)] at h2;rw [eq_of_beq h2] at h3;exact h3
 ·have e: ∀ x,Jm x n=if YL n=true then JZ (· ==[112]) J5 x else x.length:=fun x=>by unfold Jm;rw [if_neg hn]
  rw [e ar];by_cases hb:YL n=true
  ·rw [if_pos hb,e,if_pos hb,Jot ar h];exact Nat.le_refl _
  ·rw [if_neg hb,e,if_neg hb,List.take_length];exact Nat.le_refl _
theorem Jfm (is hides:List UInt8→Bool) (h1:is []=false) (ns:List (List UInt8)): ∀ i,Qr is hides ([]::ns) (i+1)=Qr is hides ns i+1
 | 0=>by
   unfold Qr;rw [if_neg (by simp [h1])];split
   ·simp
   ·rfl
 | i+1=>by
   rw [Qr,List.getD_cons_succ]
   conv=>rhs;rw [Qr]
   split
   ·rfl
   ·split
    ·simp
    ·exact Jfm is hides h1 ns i
theorem JaD (is hides:List UInt8→Bool) (h1:is []=false) (ns:List (List UInt8)):JZ is hides ([]::ns)=JZ is hides ns+1:=Jfm is hides h1 ns ns.length
theorem Jbj (ns:List (List UInt8)) (n:List UInt8):Jm ([]::ns) n=Jm ns n+1:=by
 unfold Jm;by_cases hn:n=[108,105]
 ·subst hn;rw [if_pos rfl,if_pos rfl,if_pos (by decide),if_pos (by decide),JaD _ _ (by decide),List.take_succ_cons,JaD _ _ (by decide)]
 ·rw [if_neg hn,if_neg hn];split
  ·rw [JaD _ _ (by decide)]
  ·rfl
def Qo:List Op→List (List UInt8)
 | []=>[]
 | [_]=>[]
 | o::p::r=>Qo (p::r)++[o.name]
def Ch:List Op→Prop
 | []=>False
 | [o]=>o.name=[]∧Rt [] false o.kids
 | o::p::r=>Ch (p::r)∧JB o.name=true∧QR o.attrs []=0∧Qm o.name=false∧(Qo (p::r)).length≤Jm (Qo (p::r)) o.name∧(Qo (p::r)).length<8∧Rt (Qo (p::r)++[o.name]) false o.kids
theorem ZZ: ∀ c:List Op,(Qo c).length=c.length - 1
 | []=>rfl
 | [_]=>rfl
 | o::p::r=>by rw [Qo,List.length_append,ZZ (p::r)];simp
theorem Jg3: ∀ c:List Op,Ch c→(c.reverse.map Op.name)=[]::Qo c
 | [],h=>by simp [Ch] at h
 | [o],h=>by simp only [Ch] at h;simp [Qo,h.1]
 | o::p::r,h=>by
   have:=Jg3 (p::r) (by simp only [Ch] at h;exact h.1);rw [List.reverse_cons,List.map_append,this,Qo];rfl
theorem Jou (ar:List (List UInt8)) (n:List UInt8) (h:JjN ar) (hn:ar.length≤Jm ar n):JjN (ar++[n]):=by
 intro i hi;rw [List.length_append,List.length_singleton] at hi;rcases Nat.lt_or_ge i ar.length with h1 | h1
 ·rw [List.take_append_of_le_length (by omega)];have:(ar++[n]).getD i []=ar.getD i []:=by simp [List.getD_eq_getElem?_getD,List.getElem?_append_left h1]
  rw [this];exact h i h1
 ·obtain rfl:i=ar.length:=by omega
  have:(ar++[n]).getD ar.length []=n:=by simp [List.getD_eq_getElem?_getD]
  rw [this,List.take_left];exact hn
theorem Jh7: ∀ c:List Op,Ch c→JjN (Qo c)
 | [],_=>fun i hi=>by simp [Qo] at hi
 | [_],_=>fun i hi=>by simp [Qo] at hi
 | o::p::r,h=>by
   simp only [Ch] at h;rw [Qo];exact Jou _ _ (Jh7 (p::r) h.1) h.2.2.2.2.1
def YQ (s:St):Prop:=Ch (s.cur::s.up)∧QA s.cur.kids=false
theorem JjO {o:Op} {r:List Op} (h:Ch (o::r)) (n:Nd) (hn:Rt (Qo (o::r)) false o.kids→Rt (Qo (o::r)) false (o.kids++[n])):Ch (o.put n::r):=by
 cases r with
 | nil=>
   simp only [Ch] at h ⊢;exact ⟨h.1,hn h.2⟩
 | cons p r=>
   simp only [Ch] at h ⊢;exact ⟨h.1,h.2.1,h.2.2.1,h.2.2.2.1,h.2.2.2.2.1,h.2.2.2.2.2.1,hn h.2.2.2.2.2.2⟩
theorem Jst: ∀ {o:Op} {r:List Op},Ch (o::r)→Rt (Qo (o::r)) false o.kids
 | _,[],h=>by simp only [Ch] at h;exact h.2
 | _,_::_,h=>by simp only [Ch] at h;rw [Qo];exact h.2.2.2.2.2.2
theorem Jc2 {s:St} (h:YQ s):Ch (s.endText.cur::s.up):=by
 unfold St.endText;split
 ·exact h.1
 ·next ht=>exact JjO h.1 _ (fun hk=>Jbb _ _ _ _ hk ht (fun _=>rfl) h.2)
theorem Ze (s:St):s.endText.cur.name=s.cur.name:=by unfold St.endText;split<;>rfl
theorem JgI {s:St} (h:YQ s) (hu:s.up≠[]):YQ s.pop:=by
 have he:=Jc2 h;unfold St.pop;split
 ·next h0=>exact absurd h0 hu
 ·next o up h0=>
  rw [h0] at he;simp only [Ch] at he;obtain ⟨h1,h2,h3,h4,h5,h6,h7⟩:=he;refine ⟨JjO h1 _ (fun hk=>Jba _ _ _ _ hk ⟨h2,rfl,h3,fun hb=>?_,h5,h6,h7⟩),?_⟩
  ·have hb:Qm s.endText.cur.name=true:=hb;rw [h4] at hb;simp at hb
  ·simp only [Op.put,JaQ];have:=Z9 h2;simpa [Op.nd,Nd.name] using this
theorem Jbq: ∀ (k:Nat) (s:St),YQ s→k≤s.up.length→YQ (s.close k)
 | 0,s,h,_=>h
 | k+1,s,h,hk=>by
   have hu:s.up≠[]:=by intro h0;rw [h0] at hk;simp at hk
   rw [St.close];exact Jbq k _ (JgI h hu) (by rw [Jcl,List.length_tail];omega)
theorem Jgb {s:St} (h:YQ s) (k:Nat) (hk:k≤s.up.length):Qo ((s.close k).cur::(s.close k).up)=(Qo (s.cur::s.up)).take (s.up.length - k):=by
 induction k generalizing s with
 | zero=>
   rw [Nat.sub_zero];have:=ZZ (s.cur::s.up);rw [List.take_of_length_le (by rw [this];simp)];rfl
 | succ k ih=>
   have hu:s.up≠[]:=by intro h0;rw [h0] at hk;simp at hk
   rw [St.close,ih (JgI h hu) (by rw [Jcl,List.length_tail];omega),Jcl,List.length_tail];have e:Qo (s.pop.cur::s.pop.up)=(Qo (s.cur::s.up)).take (s.up.length - 1):=by
    unfold St.pop;split
    ·next h0=>exact absurd h0 hu
    ·next o up h0=>
     have hl:=ZZ (o::up);rw [h0];rw [show Qo (s.cur::o::up)=Qo (o::up)++[s.cur.name] from rfl];have e2: ∀ x,Qo (o.put x::up)=Qo (o::up):=fun x=>by cases up<;>rfl
     rw [e2,List.take_left' (by rw [hl])]
   rw [Jcl] at e;rw [e,List.take_take]
   congr 1
   omega
theorem JbJ (s:St) (h:YQ s):s.names=[]::Qo (s.cur::s.up):=by
 rw [←Jg3 _ h.1];unfold St.names St.all;simp
theorem Jkd {s:St} {t:Tok} (h:YQ s) (hk:t.kind=2) (ht:Xi t=0):YQ (s.openTag t):=by
 have hl:=ZZ (s.cur::s.up);rw [List.length_cons,Nat.add_sub_cancel] at hl;have hle:=Jdk (Qo (s.cur::s.up)) t.name;have hd:=Jgc _ t.name (Jh7 _ h.1);have hcf:s.closeFrom (Jm s.names t.name)=s.close (s.up.length - Jm (Qo (s.cur::s.up)) t.name):=by
  unfold St.closeFrom;rw [JbJ s h,Jbj]
  congr 1
  omega
 unfold St.openTag;rw [hcf];clear hcf;generalize Jm (Qo (s.cur::s.up)) t.name=c at *;have hg:=Jbq _ s h (Nat.sub_le s.up.length c);have hn:=Jgb h _ (Nat.sub_le s.up.length c);rw [show s.up.length - (s.up.length - c)=c from by omega] at hn;rw [←hn] at hd;have hlen:=congrArg List.length hn;rw [List.length_take] at hlen;have hl2:=ZZ ((s.close (s.up.length - c)).cur::(s.close (s.up.length - c)).up);rw [List.length_cons,Nat.add_sub_cancel] at hl2;generalize s.close (s.up.length - c)=u at *;have hd:(Qo (u.cur::u.up)).length≤Jm (Qo (u.cur::u.up)) t.name:=by omega
 clear hn hlen hle hl h;split
 ·exact hg
 ·next h8=>
  have ha:JB t.name=true∧QR t.attrs []=0:=by
   unfold Xi at ht;rw [hk,if_neg (by decide),if_pos rfl] at ht;split at ht
   ·simp at ht
   ·next hc=>
    simp only [not_or,Bool.not_eq_false] at hc;exact ⟨hc.2,ht⟩
  have he:=Jc2 hg;have hae:Qo (u.endText.cur::u.up)=Qo (u.cur::u.up):=by
   cases hu:u.up with
   | nil=>rfl
   | cons p r=>simp only [Qo,Ze]
  unfold St.openIn;split
  ·next hem=>
   refine ⟨?_,?_⟩
   ·simp only [St.put,QG];exact JjO he _ (fun hk=>Jba _ _ _ _ hk ⟨ha.1,rfl,ha.2,fun _=>rfl,by rw [hae];exact hd,by rw [hae];omega,Jcb _ _⟩)
   ·simp only [St.put,Op.put,JaQ,Nd.name];simpa using Z9 ha.1
  ·next hem=>
   refine ⟨?_,rfl⟩;simp only [Ch];exact ⟨he,ha.1,ha.2,by simpa using hem,by rw [hae];exact hd,by rw [hae];omega,Jcb _ _⟩
theorem Jht (n:List UInt8) (hn:n≠[]) (ns:List (List UInt8)):1≤JZ (· ==n) (fun _=>false) ([]::ns):=by
 rw [JaD _ _ (by simpa using hn.symm)];omega
theorem JiS {s:St} {t:Tok} (h:YQ s) (ht:Xi t=0):YQ (s.step t):=by
 unfold St.step;split
 ·exact ⟨h.1,h.2⟩
 ·next h1=>
  split
  ·next h2=>exact Jkd h h2 ht
  ·next h2=>
   unfold St.closeTag St.closeFrom;rw [JbJ s h];have hn:t.name≠[]:=by
    unfold Xi at ht;rw [if_neg h1,if_neg h2] at ht;split at ht
    ·split at ht
     ·simp at ht
     ·next hc=>
      simp only [not_or,Bool.not_eq_false] at hc;exact Z9 hc.2.2
    ·simp at ht
   have:=Jht t.name hn (Qo (s.cur::s.up));exact Jbq _ _ h (by omega)
theorem Jhq:YQ St.start:=⟨by simp only [St.start,Ch];exact ⟨trivial,Jcb _ _⟩,rfl⟩
theorem Jpl (ts:List Tok) (s:St) (h:YQ s) (ht: ∀ t∈ts,Xi t=0):YQ (ts.foldl St.step s):=by
 induction ts generalizing s with
 | nil=>exact h
 | cons t ts ih=>exact ih _ (JiS h (ht t (by simp))) (fun u hu=>ht u (by simp [hu]))
theorem Jlc (ts:List Tok) (h:Ya ts=0):Rt [] false (JP ts):=by
 have hg:=Jpl ts St.start Jhq (Je5 ts h);unfold JP St.closeFrom;rw [Nat.add_sub_cancel];have hc:=Jbq _ _ hg (Nat.le_refl _);have hu:=JdY (ts.foldl St.step St.start).up.length (ts.foldl St.step St.start);rw [List.drop_length] at hu;generalize (ts.foldl St.step St.start).close (ts.foldl St.step St.start).up.length=u at *;have he:=Jc2 hc;rw [hu] at he;exact Jst he
theorem ZK (a b:List Nd):JD (a++b)=JD a+JD b:=by
 induction a with
 | nil=>simp [JD]
 | cons n a ih=>rw [List.cons_append,ZP,ZP,ih];omega
def St.size (s:St):Nat:=(s.all.map fun o=>JD o.kids).sum+s.up.length+if s.text=[] then 0 else 1
theorem Jdf (s:St):s.endText.size=s.size:=by
 unfold St.endText;split
 ·rfl
 ·next h=>simp [St.size,St.all,Op.put,ZK,Xn,JD,h];omega
theorem Jr2 (s:St):s.pop.size=s.size:=by
 rw [←Jdf s];unfold St.pop;split
 ·rfl
 ·next o up h=>
  have h1:=QG s;have h2:=QD s;rw [h] at h1;simp [St.size,St.all,Op.put,ZK,h1,h2,Op.nd,JD];omega
theorem JcJ (k:Nat) (s:St):(s.close k).size=s.size:=by
 induction k generalizing s with
 | zero=>rfl
 | succ k ih=>rw [St.close,ih,Jr2]
theorem Jqy (s:St) (t:Tok):(s.step t).size≤s.size+1:=by
 unfold St.step;split
 ·simp only [St.size,St.all];split<;>split<;>omega
 ·split
  ·unfold St.openTag St.closeFrom;split
   ·rw [JcJ];omega
   ·rw [←JcJ (s.up.length+1 - Jm s.names t.name) s];generalize s.close (s.up.length+1 - Jm s.names t.name)=u;rw [←Jdf u];unfold St.openIn;split
    ·simp [St.size,St.all,St.put,Op.put,ZK,JD,QD];omega
    ·simp [St.size,St.all,QG,QD,JD];omega
  ·unfold St.closeTag St.closeFrom;rw [JcJ];omega
theorem Jqv (ts:List Tok) (s:St):(ts.foldl St.step s).size≤s.size+ts.length:=by
 induction ts generalizing s with
 | nil=>simp
 | cons t ts ih=>rw [List.foldl_cons,List.length_cons];have:=ih (s.step t);have:=Jqy s t;omega
theorem JnM (ts:List Tok):JD (JP ts)≤ts.length:=by
 have h1:=Jqv ts St.start;have h0:St.start.size=0:=by simp [St.size,St.all,St.start,JD]
 rw [h0,Nat.zero_add] at h1;unfold JP St.closeFrom;rw [Nat.add_sub_cancel];have hu:=JdY (ts.foldl St.step St.start).up.length (ts.foldl St.step St.start);rw [List.drop_length] at hu;rw [←JcJ (ts.foldl St.step St.start).up.length] at h1;generalize (ts.foldl St.step St.start).close (ts.foldl St.step St.start).up.length=u at *;rw [←Jdf] at h1;have h2:=QG u;rw [hu] at h2;simp [St.size,St.all,h2,QD] at h1;exact h1
theorem JoA (ts:List Tok) (h:Ya ts=0):XN (JP ts)=0:=by
 rw [Jbi];refine ⟨Nat.le_trans (JnM ts) ?_,Jlc ts h⟩;unfold Ya at h;split at h
 ·simp at h
 ·omega
def Jkr:Int→List Tok→Int
 | p,[]=>p
 | _,t::r=>Jkr t.kind r
theorem Jib (a b:List Tok) (p:Int) (h:Qi p a=0):Qi p (a++b)=Qi (Jkr p a) b:=by
 induction a generalizing p with
 | nil=>rfl
 | cons t a ih=>
   unfold Qi at h;rw [List.cons_append,Qi,Jkr];split at h
   ·next hc=>exact absurd h hc
   ·next hc=>
    rw [if_neg hc];split at h
    ·simp at h
    ·next hd=>
     rw [if_neg hd];exact ih _ h
theorem Jbp: ∀ (ns:List Nd) (ar:List (List UInt8)) (prev:Bool) (p:Int),Rt ar prev ns→(p=1→prev=true)→Qi p (JX ns)=0
 | [],_,_,_,_,_=>by rw [JX];rfl
 | .mk n a t k::r,ar,prev,p,hR,hp=>by
   rw [JX];by_cases h0:n=[]
   ·subst h0;obtain ⟨h1,h2,h3,h4,h5⟩:=(JcL ar prev (.mk [] a t k) r rfl).1 hR;have h1:t≠[]:=h1;rw [if_pos List.isEmpty_nil,List.singleton_append,Qi];rw [if_neg (by simp [Xi,h1]),if_neg (fun h=>by have:=hp h.2;rw [h4] at this;simp at this)];exact Jbp r ar true 1 h5 (fun _=>rfl)
   ·obtain ⟨h1,h2,h3,h4,h5,h6,h7,h8⟩:=(JfQ ar prev (.mk n a t k) r h0).1 hR;simp only [Nd.name,Nd.attrs,Nd.text,Nd.kids] at h1 h2 h3 h4 h5 h7;rw [if_neg (by simpa using h0),List.cons_append,Qi];rw [if_neg (by simp [Xi,h1,h3]),if_neg (by simp)];have hk:=Jbp k (ar++[n]) false 2 h7 (fun h=>by simp at h);by_cases hem:Qm n=true
    ·have hk0:=h4 hem;subst hk0;rw [if_pos hem,JX,List.nil_append,List.nil_append];exact Jbp r ar false 2 h8 (fun h=>by simp at h)
    ·rw [if_neg hem,List.append_assoc,Jib _ _ _ hk,List.singleton_append,Qi];rw [if_neg (by simp [Xi,h1]),if_neg (by simp)];exact Jbp r ar false 3 h8 (fun h=>by simp at h)
theorem Jj1 (ns:List Nd) (h:Rt [] false ns) (hl:(JX ns).length≤3000):Ya (JX ns)=0:=by
 unfold Ya;rw [if_neg (by omega)];exact Jbp ns [] false 0 h (fun h=>by simp at h)
theorem Jfn (is hides:List UInt8→Bool) (ns:List (List UInt8)) (n:List UInt8): ∀ i,i≤ns.length→(Qr is hides ns i<ns.length↔Qr is hides (ns++[n]) i<ns.length)
 | 0,_=>by simp [Qr]
 | i+1,h=>by
   have e:(ns++[n]).getD i []=ns.getD i []:=by simp [List.getD_eq_getElem?_getD,List.getElem?_append_left (show i<ns.length from by omega)]
   unfold Qr;rw [e];split
   ·exact Iff.rfl
   ·split
    ·rw [List.length_append];simp
    ·exact Jfn is hides ns n i (by omega)
def Jb8 (is hides:List UInt8→Bool) (ns:List (List UInt8)):Bool:=decide (JZ is hides ns<ns.length)
theorem Jhu (is hides:List UInt8→Bool) (ns:List (List UInt8)) (n:List UInt8): ∀ i,i≤ns.length→(Qr is hides (ns++[n]) i<ns.length+1↔Qr is hides (ns++[n]) i<ns.length)
 | 0,_=>by simp [Qr]
 | i+1,h=>by
   unfold Qr;split
   ·omega
   ·split
    ·rw [List.length_append];simp
    ·exact Jhu is hides ns n i (by omega)
theorem JhG (is hides:List UInt8→Bool) (ns:List (List UInt8)) (n:List UInt8):Jb8 is hides (ns++[n])=if is n=true then true else if hides n=true then false else Jb8 is hides ns:=by
 unfold Jb8 JZ;rw [List.length_append,List.length_singleton];have e:(ns++[n]).getD ns.length []=n:=by simp [List.getD_eq_getElem?_getD]
 rw [Qr,e];split
 ·simp
 ·split
  ·rw [List.length_append];simp
  ·rw [decide_eq_decide,Jhu _ _ _ _ _ (Nat.le_refl _), ←Jfn _ _ _ _ _ (Nat.le_refl _)]
end Go.Proofs.YtlcljanibjdejaaGreat
