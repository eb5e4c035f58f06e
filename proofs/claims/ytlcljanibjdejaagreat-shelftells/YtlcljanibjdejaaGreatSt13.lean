/- ShelfTells holds: the law returns true for every input, and each argument reads behind the call as it read before; no condition. A part of its proof. -/
import Derived.Test.YtlcljanibjdejaaGreatSt12
set_option maxHeartbeats 64000000
namespace Go.Proofs.YtlcljanibjdejaaGreat
open Go.RowKit Go.Maps
def bT:List Tok:=[⟨2,[98],[],[]⟩,XG [120],⟨3,[98],[],[]⟩,XG [121]]
def bL:List Nd:=[.mk [98] [] [] [Xn [120]],Xn [121]]
def bS:List UInt8:=[60,98,62,120,60,47,98,62,121]
theorem Jtg:JB [98]=true∧JB [112]=true∧JB [98,114]=true:=by decide
theorem Jth:JL bS=bT:=by
 have h:=JfA bT (by simp [bT,Ya,Qi,Xi,QR,XG,Jtg])
 rwa [show Qn bT=bS from by decide] at h
theorem Jsv:JP bT=bL:=by
 have c1:Jm [[]] [98]=1:=by decide
 have i1:JZ (· ==[98]) (fun _=>false) [[],[98]]=1:=by decide
 have e1:Qm [98]=false:=by decide
 simp [bT,bL,JP,St.step,XG,St.start,St.openTag,St.openIn,St.closeTag,St.names,St.all,St.closeFrom,St.close,St.pop,St.endText,Op.put,Op.nd,Xn,c1,i1,e1]
theorem JpN:JL []=[]:=JfA [] rfl
theorem Jnk:JP []=[]:=by simp [JP,St.start,St.closeFrom,St.close,St.endText]
theorem Jsw:Yo bS=true:=by
 unfold Yo;rw [Jth,Jsv,show JX bL=bT from by simp [bL,bT,JX,Xn,Qm,XG],show Qn bT=bS from by decide,show isE bL=0 from (Jeh bL).2 (by simp [bL,JfN,QY,ZF,JO,Xn])];simp
theorem JhE:Yo []=true:=by
 unfold Yo;rw [JpN,Jnk];simp [isE,JX,Qn]
def Jdt:En:=⟨[98],[78,101,119],[],9,bS⟩
def Jf0:En:=⟨[97],[],[],5,[]⟩
theorem JcP:XR=⟨[Jdt,Jf0],[[97]]⟩:=rfl
theorem Jqf:Xc Jdt=0:=by simp [Xc,Jdt,Jsw];simp [bS]
theorem Jqg:Xc Jf0=0:=by simp [Xc,Jf0,JhE]
theorem Jdb:J7 XR=0:=by
 rw [JcP];simp [J7,Yk,Jqf,Jqg,Jaj,Xe,Jb7];simp [Jdt,Jf0,JbU,Jcq]
theorem Jdc: ∀ x∈XR.es,Xh x:=by
 intro x hx;rw [JcP] at hx;simp only [List.mem_cons,List.not_mem_nil,or_false] at hx;rcases hx with rfl | rfl<;>simp [Xh,maxLen,Jdt,Jf0,bS]
def JcB:List En:=[⟨[99],[],[],7,[]⟩,⟨[98],[],[],8,[]⟩]
def Jke:List En:=[Jdt,⟨[99],[],[],7,[]⟩,Jf0]
theorem Joj:Qy XR.es JcB=Jke:=by
 rw [JcP];decide
theorem JjY:Ql Jke XR.es=1:=by
 rw [JcP];decide
theorem Jmv:X5 JcB=0:=by
 simp [JcB,X5,Xc,JhE]
theorem Joh:Ye XR JcB=0:=by
 unfold Ye;rw [Jdb,Jmv];simp [JcB]
theorem Joi: ∀ x∈JcB,Xh x:=by
 intro x hx;simp only [JcB,List.mem_cons,List.not_mem_nil,or_false] at hx;rcases hx with rfl | rfl<;>simp [Xh,maxLen]
theorem Jg4:XE XR.rd [98] true=[[97],[98]]:=by decide
theorem Jmu:XM XR [98] true=0:=by
 unfold XM;rw [Jdb,Jg4];rw [JcP];decide
theorem Jmw:JS XR.es XR.rd=[Jdt]:=by
 rw [JcP];decide
set_option maxRecDepth 8000 in
theorem Jiq (w:World) (hM:JW w):Calls Tryz.prog 50 #[] w fun e w'=>e=.returned (.bool true)∧Jb [] w w':=by
 have nn: ∀ g,g∉([]:List Nat):=fun _=>List.not_mem_nil;have hrk:=Ja (fun w=>JrN w);have hput:=Ja (fun w1 (hk:Jb [] w w1) ev rv v he hr hv=>JhM w1 ev rv v XR JcB he hr hv Jdc Joi (hM.keeps hk (nn _)) Joh);have hmrk:=Ja (fun w1 (hk:Jb [] w w1) ev rv he hr=>Jgo w1 ev rv XR [98] true he hr Jdc (hM.keeps hk (nn _)) Jmu);have hdrp:=Ja (fun w1 (hk:Jb [] w w1) ev rv he hr=>Jdy w1 ev rv XR he hr Jdc (hM.keeps hk (nn _)) Jdb);have hunr:=Ja (fun w1 (hk:Jb [] w w1) ev rv he hr=>JeS w1 ev rv XR he hr Jdc (hM.keeps hk (nn _)) Jdb);have hchk:=Ja (fun w1 (hk:Jb [] w w1) ev rv he hr=>Jau w1 ev rv XR he hr Jdc (hM.keeps hk (nn _)));rw [Joj,JjY] at hput;rw [Jg4] at hmrk;rw [Jmw] at hdrp hunr;rw [Jdb] at hchk;have hsm:=Ja (fun w1 va vb ha hb=>Jcv w1 va vb [[98]] [[98]] ha hb);clear hM;unfold Jcz at hput hmrk hdrp;go_enter Tryz.func50,Tryz.ntmps50;go_wp2_with fail;refine (hrk.out w).mono ?_;rintro e w1 ⟨g1,h1,rfl,hl1,hr1,hk1⟩;obtain ⟨W1,hW1⟩: ∃ W,w1.alloc (.cells #[.string ⟨#[99]⟩,.string ⟨#[]⟩,.string ⟨#[]⟩,.int .i64 7,.string ⟨#[]⟩,.string ⟨#[98]⟩,.string ⟨#[]⟩,.string ⟨#[]⟩,.int .i64 8,.string ⟨#[]⟩] 75)=W:=⟨_,rfl⟩;have kW1:Jb [] w1 W1:=by rw [←hW1];exact (Jb.refl [] w1).alloc _
 have hlc:Jh W1 (.slice (some ⟨w1.heap.size,0,none⟩) 2 2) 2 5 (Je JcB):=Jej (z:=5) rfl (by unfold maxLen;omega) hW1;have HP:=Ja (hput.out W1 (hk1.trans kW1) _ _ _ (hl1.keeps kW1) (hr1.keeps kW1) hlc);have HK1:=Ja (hk1.trans kW1);have HW1:=Ja hW1;clear hl1 hr1 hk1 kW1 hlc hW1 hput;go_wp2_with fail;rw [HW1.out];refine HP.out.mono ?_;rintro e w2 ⟨ev2,rv2,rfl,⟨he2,hr2⟩,hk2⟩;obtain ⟨o2,c2,rfl⟩:=Jg he2;obtain ⟨p2,d2,rfl⟩:=Jg hr2;obtain ⟨W2,hW2⟩: ∃ W,w2.alloc (.cells #[.slice o2 Jke.length c2,.slice p2 XR.rd.length d2] 64)=W:=⟨_,rfl⟩;have kW2:Jb [] w2 W2:=by rw [←hW2];exact (Jb.refl [] w2).alloc _
 have HL2:=Ja ((Jh.of_row he2).keeps kW2);have HB2:=Ja (Qb rfl hW2).1;have HK2:=Ja ((HK1.out.trans hk2).trans kW2);have HW2:=Ja hW2;clear he2 hr2 hk2 kW2 hW2 HP;go_wp2_with fail;rw [HW2.out];refine (hrk.out W2).mono ?_;rintro e w3 ⟨g3,h3,rfl,hl3,hr3,hk3⟩;have HM3:=Ja (hmrk.out w3 (HK2.out.trans hk3) _ _ hl3 hr3);have HK3:=Ja (HK2.out.trans hk3);have HT3:=Ja hk3;clear hl3 hr3 hk3 hmrk;go_wp2_with fail;refine HM3.out.mono ?_;rintro e w4 ⟨ev4,rv4,rfl,⟨he4,hr4⟩,hk4⟩;obtain ⟨o4,c4,rfl⟩:=Jg he4;obtain ⟨p4,d4,rfl⟩:=Jg hr4;obtain ⟨W4,hW4⟩: ∃ W,w4.alloc (.cells #[.slice o4 XR.es.length c4,.slice p4 2 d4] 64)=W:=⟨_,rfl⟩;have kW4:Jb [] w4 W4:=by rw [←hW4];exact (Jb.refl [] w4).alloc _
 have HB4:=Ja (Qb rfl hW4).1;have HT4:=Ja ((HT3.out.trans hk4).trans kW4);have HW4:=Ja hW4;clear he4 hr4 hk4 kW4 hW4 HM3;go_wp2_with fail;rw [HW4.out];refine (hrk.out W4).mono ?_;rintro e w5 ⟨g5,h5,rfl,hl5,hr5,hk5⟩;have HM5:=Ja (hdrp.out w5 (HK2.out.trans (HT4.out.trans hk5)) _ _ hl5 hr5);have HS5:=Ja hk5;clear hl5 hr5 hk5 hdrp;go_wp2_with fail;refine HM5.out.mono ?_;rintro e w6 ⟨ev6,rv6,rfl,⟨he6,hr6⟩,hk6⟩;obtain ⟨o6,c6,rfl⟩:=Jg he6;obtain ⟨p6,d6,rfl⟩:=Jg hr6;obtain ⟨W6,hW6⟩: ∃ W,w6.alloc (.cells #[.slice o6 1 c6,.slice p6 XR.rd.length d6] 64)=W:=⟨_,rfl⟩;have kW6:Jb [] w6 W6:=by rw [←hW6];exact (Jb.refl [] w6).alloc _
 have HB6:=Ja (Qb rfl hW6).1;have HS6:=Ja ((HS5.out.trans hk6).trans kW6);have HW6:=Ja hW6;clear he6 hr6 hk6 kW6 hW6 HM5;go_wp2_with fail;rw [HW6.out];refine (hrk.out W6).mono ?_;rintro e w7 ⟨g7,h7,rfl,hl7,hr7,hk7⟩;have HM7:=Ja (hunr.out w7 (HK2.out.trans (HT4.out.trans (HS6.out.trans hk7))) _ _ hl7 hr7);have HU7:=Ja hk7;clear hl7 hr7 hk7 hunr;go_wp2_with fail;refine HM7.out.mono ?_;rintro e w8 ⟨v8,rfl,ho8,hk8⟩;obtain ⟨o8,c8,rfl⟩:=Jg ho8;have HL8:=Ja (Jh.of_row ho8);have HU8:=Ja (HU7.out.trans hk8);clear ho8 hk8 HM7;go_wp2_with fail;refine (hrk.out w8).mono ?_;rintro e w9 ⟨g9,h9,rfl,hl9,hr9,hk9⟩;have HM9:=Ja (hchk.out w9 (HK2.out.trans (HT4.out.trans (HS6.out.trans (HU8.out.trans hk9)))) _ _ hl9 hr9);have HV9:=Ja hk9;clear hl9 hr9 hk9 hchk;go_wp2_with fail;refine HM9.out.mono ?_;rintro e w10 ⟨rfl,hk10⟩;have k6:=HU8.out.trans (HV9.out.trans hk10);have k4:=HS6.out.trans k6;have k2:=HT4.out.trans k4;have b2:=Jd ((k2.block _ (lt_of_block HB2.out) List.not_mem_nil).trans HB2.out) 0;have b4:=Jd ((k4.block _ (lt_of_block HB4.out) List.not_mem_nil).trans HB4.out) 1;have b6:=Jd ((k6.block _ (lt_of_block HB6.out) List.not_mem_nil).trans HB6.out) 0;simp at b2 b4 b6;rw [show Jke.length=3 from rfl] at b2;obtain ⟨ga,xa,rfl,hca⟩:=(HL2.out.keeps k2).addr (by decide);obtain ⟨m0,m1,m2,m3,m4⟩:=Qs hca 0 (by decide);obtain ⟨n0,n1,n2,n3,n4⟩:=Qs hca 1 (by decide);simp only [Jke,Jdt,List.getElem_cons_zero,List.getElem_cons_succ,Nat.zero_mul,Nat.one_mul,Nat.add_zero] at m0 m1 m2 m3 m4 n0 n1 n2 n3 n4;obtain ⟨W11,hW11⟩: ∃ W,w10.alloc (.cells #[.string ⟨#[98]⟩] 9)=W:=⟨_,rfl⟩;have k11:Jb [] w10 W11:=by rw [←hW11];exact (Jb.refl [] w10).alloc _
 have hl11:Jh W11 (.slice (some ⟨w10.heap.size,0,none⟩) 1 1) 1 1 (Jq [[98]]):=Jej (z:=1) rfl (by unfold maxLen;omega) hW11;have HC11:=Ja (hsm.out W11 _ _ (HL8.out.keeps ((HV9.out.trans hk10).trans k11)) hl11);have HKE:=Ja ((HK2.out.trans k2).trans k11);have HW11:=Ja hW11;clear hl11 k11 hW11 hca k2 k4 k6 hk10 HM9;go_wp2_with fail;rw [HW11.out];refine HC11.out.mono ?_;rintro e w12 ⟨rfl,hk12⟩;go_wp2_with fail;go_ret;exact ⟨by simp,HKE.out.trans hk12⟩
theorem JhV {P:Program} (w:World) (t ty e:TypeId) (i:TypeInfo) (ht:P.underlying t=some (.slice e)) (hi:P.info? e=some i) (g n cap:Nat) (hn:n≤cap) (a:Option Addr) (c:Nat):
  (Builtin.append_ #[t,t] ty #[.slice (some ⟨g,0,none⟩) n cap,.slice a 0 c]).run P w=.ok (.slice (some ⟨g,0,none⟩) n cap) w:=by
 cases a<;>simp [Builtin.append_,run_underlying ht,sizeOf,typeInfo,hi,Builtin.lenOf,Builtin.firstCells,loadCells,loadCellsFrom,hn,storeCells]
theorem JfM {P:Program} (w:World) {ops:Array Oper} {rest:List Oper} {o:Oper} {a:Act} {Q:Exit→Act→World→Prop} (hgd:o.guard=none) (s x:Operand) (t:TypeId)
  (ho:o.op=.call { callee:=.builtin .append,args:=#[s,x],argTypes:=#[t,t] })
  (base:Nat) (e:TypeId) (i:TypeInfo) (z:Value) (size bytes:Nat) (ht:P.underlying t=some (.slice e)) (hi:P.info? e=some i) (hz:i.zero=some z)
  (hsize:i.size=size) (hby:i.bytes=bytes) (hzs:z.cells.size=size) (hsz:0<size)
  (v:Value) (n:Nat) (xs:List Value) (hs:a.eval s=v) (hown:w.ownsRow base e size v n xs)
  (va:Value) (m:Nat) (ys:List Value) (hx:a.eval x=va) (hl:Jh w va m size ys) (h1: ∀ u∈ys,u.oneCell'=true)
  (h63:n+m≤maxLen) (hbytes:(n+m) * bytes≤140737488355328) (hbase:base≤w.heap.size)
  (h: ∀ v' w',w'.ownsRow base e size v' (n+m) (xs++ys)→w.grownBy w' v.ownBlock→wpList P ops Q rest (a.put o.dst v') w'):wpList P ops Q (o::rest) a w:=by
 rcases Nat.eq_zero_or_pos m with h0 | h0
 ·subst h0;obtain ⟨ao,ac,rfl,_,_⟩:=hl.form;have hy:ys=[]:=List.eq_nil_of_length_eq_zero (by have:=hl.1;omega);subst hy;refine wpList_plain hgd fun K hK=>?_;have hr:(Builtin.append_ #[t,t] o.type #[v,.slice ao 0 ac]).run P w=.ok v w:=by
   rcases hown.2 with ⟨rfl,rfl⟩ | ⟨g,cap,cur,rfl,_,_,hn,_⟩
   ·exact ZB w t o.type e i ht hi ao ac
   ·exact JhV w t o.type e i ht hi g n cap hn ao ac
  unfold Oper.wp execOp;simp only [ho,resolve,invoke,builtin,Sem.run_bind,Sem.run_pure,Result.andThen_ok,List.map_toArray,List.map_cons,List.map_nil,hs,hx,hr];exact hK _ _ (h v w (by rw [Nat.add_zero,List.append_nil];exact hown) ⟨rfl,rfl,rfl,Nat.le_refl _,fun _ _ _=>rfl⟩)
 ·obtain ⟨ao,ac,rfl,_,_⟩:=hl.form;obtain ⟨g,off,rfl,hc⟩:=hl.addr h0;exact Jl w hgd s x t ho base e i z size bytes ht hi hz hsize hby hzs hsz v n xs hs hown ⟨g,off,none⟩ m ac ys hx hl.1 (fun j u hj=>by rw [Addr.add_lit];exact hc j u hj) h1 h63 hbytes hbase (fun v' w' h2 h3 _=>h v' w' h2 h3)
theorem Jh.front {w:World} {g o c:Nat} {l:List En} (k:Nat) (hk:k<l.length) (hc:c≤maxLen) (hlc:l.length≤c) (h: ∀ j u,(Je l)[j]?=some u→w.cell? ⟨g,o+j,none⟩=some u):Jh w (.slice (some ⟨g,o,none⟩) k c) (l.take k).length 5 (Je (l.take k)):=by
 have e:(l.take k).length=k:=by rw [List.length_take,Nat.min_eq_left (by omega)]
 refine ⟨by rw [Qu],.inr (.inl ⟨g,o,c,by rw [e],by omega,hc,fun j u hj=>h j u ?_⟩)⟩;rw [←ZH,List.getElem?_take] at hj;split at hj
 ·exact hj
 ·cases hj
end Go.Proofs.YtlcljanibjdejaaGreat
namespace Go.Proofs.YtlcljanibjdejaaGreat
open Go.RowKit
theorem Xu (n a b:Int) (w:World):
  Calls Tryz.prog 128 #[.int .i64 n,.int .i64 a,.int .i64 b] w fun e w'=>e=.returned (.bool (decide (a≤n)&&decide (n≤b)))∧w'=w:=by
 by_cases h1:a≤n
 ·go_enter Tryz.func128,Tryz.ntmps128
  go_wp2
  go_ret;exact ⟨Qv (by simp [h1]),rfl⟩
 ·go_enter Tryz.func128,Tryz.ntmps128
  go_wp2
  go_ret;exact ⟨Qv (by rw [decide_eq_false (show ¬ a≤n from by omega)];rfl),rfl⟩
theorem QQ (s:ByteArray) (k:Nat) (p:ByteArray) (hs:s.size≤3000) (hk:k≤s.size) (hp:p.size≤3000) (w:World):
  Calls Tryz.prog 108 #[.string s,.int .i64 k,.string p] w fun e w'=>e=.returned (.bool (Ju s k p.data.toList))∧w'=w:=by
 by_cases h1:k+p.size≤s.size
 ·rw [←Js0 s k p];go_enter Tryz.func108,Tryz.ntmps108
  go_wp2
  go_ret;exact ⟨rfl,rfl⟩
 ·rw [JnN s k p (by omega) hk];go_enter Tryz.func108,Tryz.ntmps108
  go_wp2
  go_ret;exact ⟨rfl,rfl⟩
theorem JhQ (c:UInt8) (base:Nat) (hb:base=10∨base=16) (w:World):
  Calls Tryz.prog 263 #[.int .u8 c.toNat,.int .i64 base] w fun e w'=>e=.returned (.int .i64 (if base≤QZ c then -1 else QZ c))∧w'=w:=by
 have hc:c.toNat<256:=UInt8.toNat_lt c;obtain ⟨v,hv⟩: ∃ v,QZ c=v:=⟨_,rfl⟩;have hv':=hv;rw [hv];clear hv;unfold QZ at hv';generalize c.toNat=n at *;rcases (show (48≤n∧n≤57)∨(97≤n∧n≤102)∨(65≤n∧n≤70)∨n<48∨(57<n∧n<65)∨(70<n∧n<97)∨102<n from by omega) with h | h | h | h | h | h | h
 ·rw [if_pos (by omega)] at hv';subst hv';rcases hb with rfl | rfl
  all_goals
   rw [if_neg (by omega)];go_enter Tryz.func263,Tryz.ntmps263
   go_wp2
   go_ret;exact ⟨JbX (by omega),rfl⟩
 ·rw [if_neg (by omega),if_pos (by omega)] at hv';subst hv';rcases hb with rfl | rfl
  ·rw [if_pos (by omega)];go_enter Tryz.func263,Tryz.ntmps263
   go_wp2
   go_ret;exact ⟨JbX (by omega),rfl⟩
  ·rw [if_neg (by omega)];go_enter Tryz.func263,Tryz.ntmps263
   go_wp2
   go_ret;exact ⟨JbX (by omega),rfl⟩
 ·rw [if_neg (by omega),if_neg (by omega),if_pos (by omega)] at hv';subst hv';rcases hb with rfl | rfl
  ·rw [if_pos (by omega)];go_enter Tryz.func263,Tryz.ntmps263
   go_wp2
   go_ret;exact ⟨JbX (by omega),rfl⟩
  ·rw [if_neg (by omega)];go_enter Tryz.func263,Tryz.ntmps263
   go_wp2
   go_ret;exact ⟨JbX (by omega),rfl⟩
 all_goals
  rw [if_neg (by omega),if_neg (by omega),if_neg (by omega)] at hv';subst hv';rcases hb with rfl | rfl
  all_goals
   rw [if_pos (by omega)];go_enter Tryz.func263,Tryz.ntmps263
   go_wp2
   go_ret;exact ⟨JbX (by omega),rfl⟩
theorem XU {p:UInt8→Prop} [DecidablePred p] (h: ∀ n:Fin 256,p ⟨⟨n⟩⟩) (c:UInt8):p c:=by
 have:=h c.toBitVec.toFin;exact this
theorem JqV: ∀ c:UInt8,JA c=(((c.toNat:Int)==32) || ((decide ((9:Int)≤(c.toNat:Int))&&decide ((c.toNat:Int)≤13))&&((c.toNat:Int) != 11))):=XU (by decide+kernel)
theorem Jm7: ∀ c:UInt8,J2 c=((decide ((97:Int)≤(c.toNat:Int))&&decide ((c.toNat:Int)≤122)) || (decide ((65:Int)≤(c.toNat:Int))&&decide ((c.toNat:Int)≤90))):=XU (by decide+kernel)
theorem YI (c:UInt8) (w:World):Calls Tryz.prog 109 #[.int .u8 c.toNat] w fun e w'=>e=.returned (.bool (JA c))∧w'=w:=by
 rw [JqV];have hb:=Ja (fun w=>Xu (c.toNat:Int) 9 13 w);have hc:c.toNat<256:=UInt8.toNat_lt c;generalize (decide ((9:Int)≤(c.toNat:Int))&&decide ((c.toNat:Int)≤13))=b at *;generalize c.toNat=n at *;cases h1:((n:Int)==32)<;>cases b<;>cases h2:((n:Int) != 11)
 all_goals
  go_enter Tryz.func109,Tryz.ntmps109;go_wp2_with (go_at_call 128;refine (hb.out _).mono ?_;rintro e w' ⟨rfl,rfl⟩);go_ret;exact ⟨rfl,rfl⟩
theorem Jbv (c:UInt8) (w:World):Calls Tryz.prog 107 #[.int .u8 c.toNat] w fun e w'=>e=.returned (.bool (J2 c))∧w'=w:=by
 rw [Jm7];have hb:=Ja (fun w=>Xu (c.toNat:Int) 97 122 w);have hb2:=Ja (fun w=>Xu (c.toNat:Int) 65 90 w);have hc:c.toNat<256:=UInt8.toNat_lt c;generalize (decide ((97:Int)≤(c.toNat:Int))&&decide ((c.toNat:Int)≤122))=b at *;generalize (decide ((65:Int)≤(c.toNat:Int))&&decide ((c.toNat:Int)≤90))=b2 at *;generalize c.toNat=n at *;cases b
 ·go_enter Tryz.func107,Tryz.ntmps107;go_wp2_with fail;refine (hb.out _).mono ?_;rintro e w' ⟨rfl,rfl⟩;go_wp2_with fail;refine (hb2.out _).mono ?_;rintro e w' ⟨rfl,rfl⟩;go_wp2_with fail;go_ret;exact ⟨by simp,rfl⟩
 ·go_enter Tryz.func107,Tryz.ntmps107;go_wp2_with fail;refine (hb.out _).mono ?_;rintro e w' ⟨rfl,rfl⟩;go_wp2_with fail;go_ret;exact ⟨by simp,rfl⟩
theorem Jlq (s:ByteArray) (k:Nat) (p:List UInt8) (hk:k<s.size) (h:Ju s k p=false):Lib.index (s.data.toList.drop k) p=if Lib.index (s.data.toList.drop (k+1)) p<0 then -1 else Lib.index (s.data.toList.drop (k+1)) p+1:=by
 have hk':k<s.data.toList.length:=by rw [Js];exact hk
 rw [List.drop_eq_getElem_cons hk'];rw [Lib.index];have h':p.isPrefixOf (s.data.toList[k]::s.data.toList.drop (k+1))=false:=by
  unfold Ju at h
  rwa [List.drop_eq_getElem_cons hk'] at h
 have hge:=Lib.index_ge (s.data.toList.drop (k+1)) p;rw [h'];simp only [Bool.false_eq_true,if_false];by_cases hn:Lib.index (s.data.toList.drop (k+1)) p<0
 ·have:Lib.index (s.data.toList.drop (k+1)) p= -1:=by omega
  rw [this];rfl
 ·rw [if_neg hn];have:(Lib.index (s.data.toList.drop (k+1)) p== -1)=false:=by simp;omega
  rw [this];rfl
theorem Jpr {s:ByteArray} {k:Nat} {p:List UInt8} (h:Ju s k p=true) (hk:k<s.size):Lib.index (s.data.toList.drop k) p=0:=by
 have hk':k<s.data.toList.length:=by rw [Js];exact hk
 unfold Ju at h;rw [List.drop_eq_getElem_cons hk'] at h ⊢;rw [Lib.index,if_pos h]
theorem Jed: ∀ (l p:List UInt8),0≤Lib.index l p→Lib.index l p+p.length≤l.length
 | [],p=>by
   unfold Lib.index;intro h;cases p with
   | nil=>simp
   | cons c p=>simp at h
 | c::l,p=>by
   have ih:=Jed l p;have hge:=Lib.index_ge l p;unfold Lib.index;split
   ·rename_i h;intro _;have:p<+:c::l:=by simpa using h
    have:=this.length_le;omega
   ·split
    ·intro h;omega
    ·rename_i h;intro _;have h':Lib.index l p≠ -1:=by simpa using h
     have:=ih (by omega);simp only [List.length_cons];omega
def QF (l p:List UInt8) (k:Nat):Int:=if Lib.index (l.drop k) p<0 then -1 else (k:Int)+Lib.index (l.drop k) p
theorem Jkj (s:ByteArray) (k:Nat) (p:List UInt8) (h:s.size<k+p.length) (hp:0<p.length):Lib.index (s.data.toList.drop k) p<0:=by
 by_cases h':Lib.index (s.data.toList.drop k) p<0
 ·exact h'
 ·have h2:=Jed (s.data.toList.drop k) p (by omega);rw [List.length_drop,Js] at h2;omega
theorem Zv (s p:ByteArray) (k0:Nat) (w:World) (hs:s.size≤3000) (hp:p.size≤3000) (hp0:0<p.size) (hk0:k0≤s.size):
  Calls Tryz.prog 112 #[.string s,.int .i64 k0,.string p] w fun e w'=>e=.returned (.int .i64 (QF s.data.toList p.data.toList k0))∧w'=w:=by
 obtain ⟨R,hR⟩: ∃ R,QF s.data.toList p.data.toList k0=R:=⟨_,rfl⟩;rw [hR];have hpl:=Js p;have HR:=Ja hR;clear hR;go_enter Tryz.func112,Tryz.ntmps112;go_wp2_with fail;go_loopw [1] (fun i wr=> ∃ k:Nat,k≤s.size∧i=.int .i64 k∧wr=w∧Hid (QF s.data.toList p.data.toList k=R)) (fun i _=>s.size - (intOf i).toNat)
 case atStart=>exact ⟨k0,hk0,rfl,rfl,HR.out⟩
 case round=>
  obtain ⟨k,hk,rfl,rfl,hH⟩:=hrel;clear HR;by_cases hle:k+p.size≤s.size
  ·have hst:=Ja (fun w=>QQ s k p hs (by omega) hp w);have hin:(k:Int)+(p.size:Int)≤(s.size:Int):=by omega
   cases hb:Ju s k p.data.toList
   ·rw [hb] at hst;have hstep:=Jlq s k p.data.toList (by omega) hb;have hN:Hid (QF s.data.toList p.data.toList (k+1)=R):=by
     rw [←hH.out];unfold QF;rw [hstep];have hge:=Lib.index_ge (s.data.toList.drop (k+1)) p.data.toList;by_cases hn:Lib.index (s.data.toList.drop (k+1)) p.data.toList<0
     ·rw [if_pos hn,if_pos hn];rfl
     ·rw [if_neg hn,if_neg hn,if_neg (by omega)];show _=_;omega
    clear hb hstep;go_wp2_with (go_at_call 108;refine (hst.out _).mono ?_;rintro e w' ⟨rfl,rfl⟩);go_roundw
    case rel=>exact ⟨k+1,by omega,by go_num,by first | rfl | trivial,hN⟩
    case measure=>simp [intOf];omega
   ·rw [hb] at hst;have hx:R=(k:Int):=by
     rw [←hH.out];unfold QF;have:Lib.index (s.data.toList.drop k) p.data.toList=0:=Jpr hb (by omega);rw [this];simp
    subst hx;clear hb hH;go_wp2_with (go_at_call 108;refine (hst.out _).mono ?_;rintro e w' ⟨rfl,rfl⟩);go_ret;exact ⟨by simp,rfl⟩
  ·have hin: ¬ (k:Int)+(p.size:Int)≤(s.size:Int):=by omega
   have hx:R= -1:=by
    rw [←hH.out];unfold QF;rw [if_pos (Jkj s k _ (by omega) (by omega))]
   subst hx;clear hH;go_wp2_with fail;go_ret;exact ⟨by simp,rfl⟩
theorem JfD {w:World} {B:Nat} {e:TypeId} {z:Nat} {v:Value} {n:Nat} {xs:List Value} (h:w.ownsRow B e z v n xs): ∃ o c,v=.slice o n c:=by
 rcases h.2 with ⟨rfl,h0⟩ | ⟨g,cap,cur,rfl,_⟩
 ·exact ⟨none,0,by rw [h0]⟩
 ·exact ⟨_,_,rfl⟩
theorem Jgn (l:List UInt8) (k:Nat) (h:k<l.length):Jx (l.take (k+1))=Jx (l.take k)++[Z8 l[k]]:=by
 unfold Jx;rw [List.take_succ_eq_append_getElem h,List.map_append];rfl
theorem Jl3: ∀ c:UInt8,JbL c=(decide ((65:Int)≤(c.toNat:Int))&&decide ((c.toNat:Int)≤90)):=XU (by decide+kernel)
theorem Jku: ∀ c:UInt8,JbL c=true→((Z8 c).toNat:Int)=(c.toNat:Int)+32:=XU (by decide+kernel)
theorem Jea (s:ByteArray) (w:World) (hs:s.size≤3000):
  Calls Tryz.prog 110 #[.string s] w fun e w'=>e=.returned (.string ⟨(Jx s.data.toList).toArray⟩)∧Jb [] w w':=by
 obtain ⟨i0,hi,hz0,hz1,hz2⟩:=info_parts Tryz.info5;have hln:=Js s;go_enter Tryz.func110,Tryz.ntmps110;go_wp2_with fail;go_loopw [3,4] (fun v i wr=> ∃ j:Nat,j≤s.size∧i=.int .i64 j∧wr.ownsRow w.heap.size 5 1 v (Jx (s.data.toList.take j)).length (Lib.byteCells (Jx (s.data.toList.take j)))∧Jb [] w wr) (fun _ i _=>s.size - (intOf i).toNat)
 case atStart=>exact ⟨0,Nat.zero_le _,rfl,World.ownsRow_nil _ _ _ _,Jb.refl _ _⟩
 case round=>
  obtain ⟨j,hj,rfl,ho,hk⟩:=hrel;have hll:(Jx (s.data.toList.take j)).length≤3000:=by
   have h1:(s.data.toList.take j).length≤s.data.toList.length:=(List.take_sublist _ _).length_le;unfold Jx;rw [List.length_map];omega
  by_cases hlt:j<s.size
  ·have hlj:j<s.data.toList.length:=by rw [hln];exact hlt
   have HL:=Ja (Jgn s.data.toList j hlj);rw [show s.data.toList[j]=s[j] from rfl] at HL;generalize Jx (s.data.toList.take j)=Y at *;have hb:=Ja (fun w=>Xu (s[j].toNat:Int) 65 90 w);rw [←Jl3] at hb;have hsz:=hk.size;have hc256:s[j].toNat<256:=UInt8.toNat_lt s[j];cases hbig:JbL s[j]
   ·have hlow:Z8 s[j]=s[j]:=by unfold Z8;rw [hbig];rfl
    rw [hbig] at hb;rw [hlow] at HL;clear hlow hbig;go_wp2_with fail;refine (hb.out _).mono ?_;rintro e w1 ⟨rfl,rfl⟩;go_wp2_with (at_builtin;refine wpList_append_own _ rfl _ _ 107 rfl w.heap.size 5 i0 (.int .u8 0) 1 1 Tryz.underlying107 hi hz0 hz1 hz2 rfl (by decide) _ _ _ rfl (ho.alloc _) ⟨w1.heap.size,0,none⟩ 1 1 [.int .u8 s[j].toNat] rfl rfl ?c1 ?c2 ?c3 ?c4 ?c5 ?_)
    case c1=>
     intro j u hj
     match j,hj with
     | 0,hj=>simp at hj;subst hj;simp [Addr.add]
    case c2=>intro u hu;simp at hu;subst hu;rfl
    case c3=>unfold maxLen;omega
    case c4=>omega
    case c5=>simp;omega
    intro v' w2 ho1 hg1 _;have ho2:=Jaa (t:=[s[j]]) ho1;rw [←HL.out] at ho2;have hk2:Jb [] w w2:=(hk.alloc _).grown hg1 fun k e=>.inr (ho.lt k e).1;go_wp2_with fail;go_roundw
    case rel=>exact ⟨j+1,by omega,by go_num,ho2,hk2⟩
    case measure=>simp [intOf];omega
   ·have hv:=Jku s[j] hbig;rw [hbig] at hb;have h90:65≤s[j].toNat∧s[j].toNat≤90:=by simpa [JbL] using hbig
    clear hbig;generalize Z8 s[j]=d at *;go_wp2_with fail;refine (hb.out _).mono ?_;rintro e w1 ⟨rfl,rfl⟩;go_wp2_with (at_builtin;refine wpList_append_own _ rfl _ _ 107 rfl w.heap.size 5 i0 (.int .u8 0) 1 1 Tryz.underlying107 hi hz0 hz1 hz2 rfl (by decide) _ _ _ rfl (ho.alloc _) ⟨w1.heap.size,0,none⟩ 1 1 [.int .u8 ((s[j].toNat:Int)+32)] rfl rfl ?c1 ?c2 ?c3 ?c4 ?c5 ?_)
    case c1=>
     intro j u hj
     match j,hj with
     | 0,hj=>simp at hj;subst hj;simp [Addr.add]
    case c2=>intro u hu;simp at hu;subst hu;rfl
    case c3=>unfold maxLen;omega
    case c4=>omega
    case c5=>simp;omega
    intro v' w2 ho1 hg1 _;rw [←hv] at ho1;have ho2:=Jaa (t:=[d]) ho1;rw [←HL.out] at ho2;have hk2:Jb [] w w2:=(hk.alloc _).grown hg1 fun k e=>.inr (ho.lt k e).1;go_wp2_with fail;go_roundw
    case rel=>exact ⟨j+1,by omega,by go_num,ho2,hk2⟩
    case measure=>simp [intOf];omega
  ·have he:s.data.toList.take j=s.data.toList:=List.take_of_length_le (by rw [hln];omega);rw [he] at ho;have hcv:=Jar ho 0;rw [show wr.drewN 0=wr from rfl] at hcv;obtain ⟨oo,cc,hrow⟩:=JfD ho;subst hrow;clear he;obtain ⟨Y,hY⟩: ∃ Y,Jx s.data.toList=Y:=⟨_,rfl⟩;rw [hY] at ho hcv ⊢;have HY:=Ja hY;clear hY hll;go_wp2_with fail;go_ret;exact ⟨by first | (rw [HY.out];simp;done) | simp,hk⟩
def JaT (i:Nat) (c:UInt8):Bool:=if i=0 then Xt c else Ym c
theorem JlT: ∀ c:UInt8,Xt c=true→Ym c=true:=XU (by decide+kernel)
theorem Jqz: ∀ c:UInt8,Xt c=(decide ((97:Int)≤(c.toNat:Int))&&decide ((c.toNat:Int)≤122)):=XU (by decide+kernel)
theorem JsE: ∀ c:UInt8,Jc0 c=(decide ((48:Int)≤(c.toNat:Int))&&decide ((c.toNat:Int)≤57)):=XU (by decide+kernel)
theorem Jq9: ∀ c:UInt8,(c==45)= !((c.toNat:Int) != 45):=XU (by decide+kernel)
theorem JpI (l:List UInt8) (h1:1≤l.length) (h2:l.length≤20) (h: ∀ i (hi:i<l.length),JaT i l[i]=true):JB l=true:=by
 unfold JB;have h0:=h 0 (by omega);have e0:l.getD 0 0=l[0]:=by rw [List.getD_eq_getElem?_getD,List.getElem?_eq_getElem (by omega)];rfl
 rw [e0];have hs:Xt l[0]=true:=by simpa [JaT] using h0
 rw [hs];simp only [Bool.and_eq_true,decide_eq_true_eq,List.all_eq_true];refine ⟨⟨⟨h1,h2⟩,trivial⟩,fun c hc=>?_⟩;obtain ⟨i,hi,rfl⟩:=List.getElem_of_mem hc;have:=h i hi;unfold JaT at this;split at this
 ·exact JlT _ this
 ·exact this
theorem JrB (l:List UInt8) (i:Nat) (hi:i<l.length) (h:JaT i l[i]=false):JB l=false:=by
 rw [Bool.eq_false_iff];intro hn;unfold JB at hn;simp only [Bool.and_eq_true,decide_eq_true_eq,List.all_eq_true] at hn;obtain ⟨⟨⟨h1,_⟩,h3⟩,h4⟩:=hn;unfold JaT at h;split at h
 ·rename_i h0;subst h0;have e0:l.getD 0 0=l[0]:=by rw [List.getD_eq_getElem?_getD,List.getElem?_eq_getElem hi];rfl
  rw [e0,h] at h3;simp at h3
 ·rw [h4 _ (List.getElem_mem hi)] at h;simp at h
theorem Jgl (s:ByteArray) (w:World) (hs:s.size≤maxLen):
  Calls Tryz.prog 113 #[.string s] w fun e w'=>e=.returned (.bool (JB s.data.toList))∧w'=w:=by
 unfold maxLen at hs;have hln:=Js s;have hb:=Ja (fun w=>Xu (s.size:Int) 1 20 w);by_cases hr:1≤s.size∧s.size≤20
 ·obtain ⟨R,hR⟩: ∃ R,JB s.data.toList=R:=⟨_,rfl⟩;rw [hR];have HR:=Ja hR;clear hR;have e1:(decide ((1:Int)≤(s.size:Int))&&decide ((s.size:Int)≤20))=true:=by simp;omega
  rw [e1] at hb;clear e1;go_enter Tryz.func113,Tryz.ntmps113;go_wp2_with fail;refine (hb.out _).mono ?_;rintro e w1 ⟨rfl,rfl⟩;go_wp2_with fail;go_loopw [3] (fun i wr=> ∃ j:Nat,j≤s.size∧i=.int .i64 j∧wr=w1∧Hid (∀ i (hi:i<s.data.toList.length),i<j→JaT i s.data.toList[i]=true)) (fun i _=>s.size - (intOf i).toNat)
  case atStart=>exact ⟨0,Nat.zero_le _,rfl,rfl,fun i hi h=>by omega⟩
  case round=>
   obtain ⟨j,hj,rfl,rfl,hH⟩:=hrel;by_cases hlt:j<s.size
   ·have hlj:j<s.data.toList.length:=by rw [hln];exact hlt
    have hc256:s[j].toNat<256:=UInt8.toNat_lt s[j];have b1:=Ja (fun w=>Xu (s[j].toNat:Int) 97 122 w);have b2:=Ja (fun w=>Xu (s[j].toNat:Int) 48 57 w);rw [←Jqz] at b1;rw [←JsE] at b2;have hda:=Jq9 s[j];have hok:Hid (JaT j s.data.toList[j]=if j=0 then Xt s[j] else (Xt s[j] || Jc0 s[j] || s[j]==45)):=by
     show JaT j s[j]=_;unfold JaT Ym;rfl
    have next:Hid (JaT j s.data.toList[j]=true→ ∀ i (hi:i<s.data.toList.length),i<j+1→JaT i s.data.toList[i]=true):=fun h i hi hij=>by
     rcases Nat.lt_or_ge i j with h' | h'
     ·exact hH.out i hi h'
     ·have:i=j:=by omega
      subst this;exact h
    have bad:Hid (JaT j s.data.toList[j]=false→R=false):=fun h=>HR.out.symm.trans (JrB _ j hlj h);clear hH HR;cases h1:Xt s[j]
    ·by_cases h0:j=0
     ·have hRf:=bad.out (by rw [hok.out,if_pos h0];exact h1);subst hRf;rw [h1] at b1;subst h0;clear h1 hok next bad b2 hda;go_wp2_with fail;refine (b1.out _).mono ?_;rintro e w2 ⟨rfl,rfl⟩;go_wp2_with fail;go_ret;exact ⟨by simp,rfl⟩
     ·have h0b:((j:Int)==0)=false:=by simpa using h0
      cases h2:Jc0 s[j]
      ·cases h3:((s[j].toNat:Int) != 45)
       ·have hn:=next.out (by rw [hok.out,if_neg h0,hda,h1,h2,h3];rfl);have HN:=Ja hn;rw [h1] at b1;rw [h2] at b2;clear h1 h2 hok next bad hda hn;go_wp2_with fail;refine (b1.out _).mono ?_;rintro e w2 ⟨rfl,rfl⟩;go_wp2_with fail;refine (b2.out _).mono ?_;rintro e w3 ⟨rfl,rfl⟩;go_wp2_with fail;go_roundw
        case rel=>exact ⟨j+1,by omega,by go_num,by first | rfl | trivial,HN.out⟩
        case measure=>simp [intOf];omega
       ·have hRf:=bad.out (by rw [hok.out,if_neg h0,hda,h1,h2,h3];rfl);subst hRf;rw [h1] at b1;rw [h2] at b2;clear h1 h2 hok next bad hda;go_wp2_with fail;refine (b1.out _).mono ?_;rintro e w2 ⟨rfl,rfl⟩;go_wp2_with fail;refine (b2.out _).mono ?_;rintro e w3 ⟨rfl,rfl⟩;go_wp2_with fail;go_ret;exact ⟨by simp,rfl⟩
      ·have hn:=next.out (by rw [hok.out,if_neg h0,h1,h2];rfl);have HN:=Ja hn;rw [h1] at b1;rw [h2] at b2;clear h1 h2 hok next bad hda hn;go_wp2_with fail;refine (b1.out _).mono ?_;rintro e w2 ⟨rfl,rfl⟩;go_wp2_with fail;refine (b2.out _).mono ?_;rintro e w3 ⟨rfl,rfl⟩;go_wp2_with fail;go_roundw
       case rel=>exact ⟨j+1,by omega,by go_num,by first | rfl | trivial,HN.out⟩
       case measure=>simp [intOf];omega
    ·have hn:=next.out (by rw [hok.out,h1];split<;>rfl);have HN:=Ja hn;rw [h1] at b1;clear h1 hok next bad hda hn b2;go_wp2_with fail;refine (b1.out _).mono ?_;rintro e w2 ⟨rfl,rfl⟩;go_wp2_with fail;go_roundw
     case rel=>exact ⟨j+1,by omega,by go_num,by first | rfl | trivial,HN.out⟩
     case measure=>simp [intOf];omega
   ·have hRt:R=true:=by
     rw [←HR.out];exact JpI _ (by omega) (by omega) fun i hi=>hH.out i hi (by omega)
    subst hRt;clear hH HR;go_wp2_with fail;go_ret;exact ⟨by simp,rfl⟩
 ·have hf:JB s.data.toList=false:=by
   unfold JB;rw [hln];rcases (show s.size<1∨20<s.size from by omega) with h | h
   ·simp;omega
   ·have:decide (s.size≤20)=false:=by simp;omega
    rw [this];simp
  have e1:(decide ((1:Int)≤(s.size:Int))&&decide ((s.size:Int)≤20))=false:=by
   rw [Bool.eq_false_iff];simp;omega
  rw [hf];rw [e1] at hb;clear hf e1;go_enter Tryz.func113,Tryz.ntmps113;go_wp2_with fail;refine (hb.out _).mono ?_;rintro e w1 ⟨rfl,rfl⟩;go_wp2_with fail;go_ret;exact ⟨by simp,rfl⟩
end Go.Proofs.YtlcljanibjdejaaGreat
namespace Go.Proofs.YtlcljanibjdejaaGreat
open Go.RowKit Go.Maps
theorem Xo (s:ByteArray) (k:Nat) (hk:k<s.size):s.data.toList.drop k=s[k]::s.data.toList.drop (k+1):=by
 have hl:k<s.data.toList.length:=by simpa using hk
 rw [List.drop_eq_getElem_cons hl];rfl
theorem Zp (s:ByteArray) (k:Nat) (hk:k<s.size):Jr s k=s[k]:=by
 have h1:=Xo s k hk;rw [Qz s k hk] at h1;exact (List.cons.inj h1).1
def JG (p:UInt8→Bool) (s:ByteArray) (k:Nat):Nat:=k+((s.data.toList.drop k).takeWhile p).length
theorem YG {p:UInt8→Bool} {s:ByteArray} {k:Nat} (hk:k<s.size) (h:p s[k]=true):JG p s k=JG p s (k+1):=by
 unfold JG;rw [Xo s k hk,List.takeWhile_cons,if_pos h,List.length_cons];omega
theorem QP {p:UInt8→Bool} {s:ByteArray} {k:Nat} (hk:k<s.size) (h:p s[k]=false):JG p s k=k:=by
 unfold JG;rw [Xo s k hk,List.takeWhile_cons,if_neg (by simp [h])];rfl
theorem Zo {p:UInt8→Bool} {s:ByteArray} {k:Nat} (hk:s.size≤k):JG p s k=k:=by
 unfold JG;rw [List.drop_eq_nil_of_le (by rw [Js];exact hk)];rfl
theorem Q5 (p:UInt8→Bool) (s:ByteArray) (k:Nat):k≤JG p s k:=Nat.le_add_right ..
theorem Jae (p:UInt8→Bool) {s:ByteArray} {k:Nat} (hk:k≤s.size):JG p s k≤s.size:=by
 have h:=(List.takeWhile_sublist (l:=s.data.toList.drop k) (p:=p)).length_le;rw [List.length_drop,Js] at h;unfold JG;omega
theorem JcI (p:UInt8→Bool) (s:ByteArray) (k:Nat):(s.data.toList.drop k).takeWhile p=(s.extract k (JG p s k)).data.toList:=by
 rw [Lib.extract_data];unfold JG;rw [Nat.add_sub_cancel_left];exact List.prefix_iff_eq_take.1 (List.takeWhile_prefix _)
theorem Je0 (s:ByteArray) (k1:Nat) (h1:k1<s.size) (k2 k3:Nat) (hk2:JG Qj s (k1+1)=k2) (hk3:JG JA s k2=k3):
  Xm (s.data.toList.drop k1)=match s.data.toList.drop k3 with
  | []=>none
  | d::q=>if d=61 then
     match XL (q.drop (q.takeWhile JA).length) with
     | none=>none
     | some (v,m)=>some ((Jx (s.extract k1 k2).data.toList,(JR v).1),k3 - k1+1+(q.takeWhile JA).length+m)
    else some ((Jx (s.extract k1 k2).data.toList,[]),k3 - k1):=by
 have e1:(s.extract k1 k2).data.toList=s[k1]::(s.data.toList.drop (k1+1)).takeWhile Qj:=by
  rw [JcI Qj s (k1+1),hk2,Lib.extract_data,Lib.extract_data,Xo s k1 h1];have:=Q5 Qj s (k1+1);rw [hk2] at this;rw [show k2 - k1=(k2 - (k1+1))+1 from by omega,List.take_succ_cons]
 have e2:k3 - k1=1+((s.data.toList.drop (k1+1)).takeWhile Qj).length+((s.data.toList.drop k2).takeWhile JA).length:=by
  rw [←hk3, ←hk2];unfold JG;omega
 have e3:s.data.toList.drop k3=(s[k1]::s.data.toList.drop (k1+1)).drop (1+((s.data.toList.drop (k1+1)).takeWhile Qj).length+((s.data.toList.drop k2).takeWhile JA).length):=by
  rw [←Xo s k1 h1,Q4, ←e2];have:=Q5 JA s k2;have:=Q5 Qj s (k1+1);rw [show k1+(k3 - k1)=k3 from by omega]
 rw [Xo s k1 h1,e1,e2,e3];refine JdU _ _ _ _ rfl ?_;rw [←Xo s k1 h1,Q4, ←hk2];unfold JG;rw [show k1+(1+((s.data.toList.drop (k1+1)).takeWhile Qj).length)=k1+1+((s.data.toList.drop (k1+1)).takeWhile Qj).length from by omega]
theorem Jn9 {s:ByteArray} {k1 k2 k3:Nat} (h1:k1<s.size) (hk2:JG Qj s (k1+1)=k2) (hk3:JG JA s k2=k3) (h3:s.size≤k3):Xm (s.data.toList.drop k1)=none:=by
 rw [Je0 s k1 h1 k2 k3 hk2 hk3,List.drop_eq_nil_of_le (by rw [Js];exact h3)]
theorem Joa {s:ByteArray} {k1 k2 k3:Nat} (h1:k1<s.size) (hk2:JG Qj s (k1+1)=k2) (hk3:JG JA s k2=k3) (h3:k3<s.size) (h4:s[k3]≠61):
  Xm (s.data.toList.drop k1)=some ((Jx (s.extract k1 k2).data.toList,[]),k3 - k1):=by
 rw [Je0 s k1 h1 k2 k3 hk2 hk3,Xo s k3 h3];simp only [if_neg h4]
theorem JeZ {s:ByteArray} {k1 k2 k3 k4:Nat} (h1:k1<s.size) (hk2:JG Qj s (k1+1)=k2) (hk3:JG JA s k2=k3) (h3:k3<s.size) (h4:s[k3]=61) (hk4:JG JA s (k3+1)=k4):
  Xm (s.data.toList.drop k1)=match XL (s.data.toList.drop k4) with
   | none=>none
   | some (v,m)=>some ((Jx (s.extract k1 k2).data.toList,(JR v).1),k4 - k1+m):=by
 have e:k3 - k1+1+((s.data.toList.drop (k3+1)).takeWhile JA).length=k4 - k1:=by
  rw [←hk4];have:=Q5 Qj s (k1+1);have:=Q5 JA s k2;unfold JG at *;omega
 rw [Je0 s k1 h1 k2 k3 hk2 hk3,Xo s k3 h3];simp only [if_pos h4];rw [Q4,e, ←hk4];rfl
theorem Jsk {s:ByteArray} {k:Nat} (h:s.size≤k):XL (s.data.toList.drop k)=none:=by
 rw [List.drop_eq_nil_of_le (by rw [Js];exact h)];rfl
theorem JqQ {s:ByteArray} {k:Nat} (h:k<s.size) (h1:s[k]≠34) (h2:s[k]≠39):XL (s.data.toList.drop k)=some ((s.extract k (JG Ys s k)).data.toList,JG Ys s k - k):=by
 rw [←JcI];have e:JG Ys s k - k=((s.data.toList.drop k).takeWhile Ys).length:=by unfold JG;omega
 rw [e,Xo s k h];unfold XL;simp only [h1,h2,or_self,if_false]
theorem JmY (c:UInt8) (l:List UInt8):Lib.index l [c]=if (l.takeWhile (· != c)).length<l.length then ((l.takeWhile (· != c)).length:Int) else -1:=by
 induction l with
 | nil=>simp [Lib.index]
 | cons d l ih=>
   unfold Lib.index;by_cases h:d=c
   ·subst h;simp
   ·have h': ¬ c=d:=fun e=>h e.symm;have hb:(d != c)=true:=by simpa using h
    rw [List.takeWhile_cons,if_pos hb,ih];simp only [List.length_cons];rw [if_neg (by simp [List.isPrefixOf,h'])];by_cases hl:(l.takeWhile (· != c)).length<l.length
    ·rw [if_pos hl,if_neg (by simp),if_pos (by omega)];simp
    ·rw [if_neg hl,if_pos (by rfl),if_neg (by omega)]
theorem Jjk {s:ByteArray} {k:Nat} (h:k<s.size) (hq:s[k]=34∨s[k]=39):
  XL (s.data.toList.drop k)=if QF s.data.toList [s[k]] (k+1)<0 then none
   else some ((s.extract (k+1) (QF s.data.toList [s[k]] (k+1)).toNat).data.toList,(QF s.data.toList [s[k]] (k+1)).toNat+1 - k):=by
 have hlen:(s.data.toList.drop (k+1)).length=s.size - (k+1):=by rw [List.length_drop,Js]
 have hr:=JcI (· != s[k]) s (k+1);have hlt:((s.data.toList.drop (k+1)).takeWhile (· != s[k])).length=JG (· != s[k]) s (k+1) - (k+1):=by unfold JG;omega
 have hge:=Q5 (· != s[k]) s (k+1);rw [Xo s k h];unfold XL QF;simp only [if_pos hq];rw [JmY];by_cases hl:((s.data.toList.drop (k+1)).takeWhile (· != s[k])).length<(s.data.toList.drop (k+1)).length
 ·rw [if_pos hl,if_pos hl,if_neg (by omega),if_neg (by omega)];have e:((↑(k+1):Int)+(((s.data.toList.drop (k+1)).takeWhile (· != s[k])).length:Int)).toNat=JG (· != s[k]) s (k+1):=by rw [hlt];omega
  rw [e, ←hr,hlt]
  congr 2
  omega
 ·rw [if_neg hl,if_neg hl];simp
theorem Jla (l:List UInt8) (f k:Nat) (acc:List Jw) (h:l.length≤k):JM l f k acc=none:=by
 cases f with
 | zero=>rfl
 | succ f=>
   unfold JM;rw [List.drop_eq_nil_of_le (by omega)]
def Yg (acc:List Jw) (p:Jw):List Jw:=if p.1∈acc.map (·.1)∨JB p.1=false then acc else acc++[p]
theorem Ji0 {s:ByteArray} {f k1 k':Nat} {acc acc':List Jw} {R:Option (List Jw × Nat)}
  (hF:R=match Xm (s.data.toList.drop k1) with | none=>none | some (p,m)=>JM s.data.toList f (k1+m) (Yg acc p))
  (ha:Xm (s.data.toList.drop k1)=none) (hk:s.size≤k'):JM s.data.toList f k' acc'=R:=by
 rw [hF,ha,Jla _ _ _ _ (by rw [Js];exact hk)]
theorem Ji1 {s:ByteArray} {f k1 k':Nat} {acc:List Jw} {R:Option (List Jw × Nat)} {p:Jw} {m:Nat}
  (hF:R=match Xm (s.data.toList.drop k1) with | none=>none | some (p,m)=>JM s.data.toList f (k1+m) (Yg acc p))
  (ha:Xm (s.data.toList.drop k1)=some (p,m)) (hk:k1+m=k'):JM s.data.toList f k' (Yg acc p)=R:=by
 subst hk;rw [hF,ha]
theorem Jqn {s:ByteArray} {f k k1:Nat} {acc:List Jw} {R:Option (List Jw × Nat)} (hF:JM s.data.toList (f+1) k acc=R) (hk:JG XB s k=k1) (h:s.size≤k1):R=none:=by
 rw [Y5 hF k1 hk,List.drop_eq_nil_of_le (by rw [Js];exact h)]
theorem JrS {s:ByteArray} {f k k1:Nat} {acc:List Jw} {R:Option (List Jw × Nat)} (hF:JM s.data.toList (f+1) k acc=R) (hk:JG XB s k=k1) (h:k1<s.size) (hg:s[k1]=62):R=some (acc,k1):=by
 rw [Y5 hF k1 hk,Xo s k1 h];simp only [if_pos hg]
theorem JnF {s:ByteArray} {f k k1:Nat} {acc:List Jw} {R:Option (List Jw × Nat)} (hF:JM s.data.toList (f+1) k acc=R) (hk:JG XB s k=k1) (h:k1<s.size) (hg:s[k1]≠62):
  R=match Xm (s.data.toList.drop k1) with | none=>none | some (p,m)=>JM s.data.toList f (k1+m) (Yg acc p):=by
 have h1:=Y5 hF k1 hk;rw [Xo s k1 h] at h1;simp only [if_neg hg] at h1;rw [h1,Xo s k1 h];rfl
theorem JtD {s:ByteArray} {f k1 k2 k3:Nat} {acc:List Jw} {R:Option (List Jw × Nat)} {n:List UInt8} (h1:k1<s.size) (hk2:JG Qj s (k1+1)=k2) (hk3:JG JA s k2=k3)
  (hF:R=match Xm (s.data.toList.drop k1) with | none=>none | some (p,m)=>JM s.data.toList f (k1+m) (Yg acc p))
  (hn:Jx (s.extract k1 k2).data.toList=n) (hB:decide (k3<s.size∧Jr s k3=61)=false):JM s.data.toList f k3 (Yg acc (n,[]))=R:=by
 have h12:=Q5 Qj s (k1+1);have h23:=Q5 JA s k2;by_cases h3:s.size≤k3
 ·exact Ji0 hF (Jn9 h1 hk2 hk3 h3) h3
 ·have h3':k3<s.size:=by omega
  have h61:s[k3]≠61:=fun h=>by simp [h3',Zp s k3 h3',h] at hB
  have:=Ji1 hF (Joa h1 hk2 hk3 h3' h61) (k':=k3) (by omega)
  rwa [hn] at this
theorem Jso {s:ByteArray} {f k1 k2 k3 k4 k':Nat} {acc acc':List Jw} {R:Option (List Jw × Nat)} (h1:k1<s.size) (hk2:JG Qj s (k1+1)=k2) (hk3:JG JA s k2=k3)
  (hF:R=match Xm (s.data.toList.drop k1) with | none=>none | some (p,m)=>JM s.data.toList f (k1+m) (Yg acc p))
  (h3:k3<s.size) (h4:s[k3]=61) (hk4:JG JA s (k3+1)=k4) (hv:XL (s.data.toList.drop k4)=none) (hk:s.size≤k'):JM s.data.toList f k' acc'=R:=
 Ji0 hF ((JeZ h1 hk2 hk3 h3 h4 hk4).trans (by rw [hv])) hk
theorem Jjl {s:ByteArray} {f k1 k2 k3 k4:Nat} {acc:List Jw} {R:Option (List Jw × Nat)} (h1:k1<s.size) (hk2:JG Qj s (k1+1)=k2) (hk3:JG JA s k2=k3)
  (hF:R=match Xm (s.data.toList.drop k1) with | none=>none | some (p,m)=>JM s.data.toList f (k1+m) (Yg acc p))
  (h3:k3<s.size) (h4:s[k3]=61) (hk4:JG JA s (k3+1)=k4) (hv:XL (s.data.toList.drop k4)=none):R=none:=by
 rw [hF,(JeZ h1 hk2 hk3 h3 h4 hk4).trans (by rw [hv])]
theorem Jix {s:ByteArray} {f k1 k2 k3 k4 k' m:Nat} {acc:List Jw} {R:Option (List Jw × Nat)} {n v V:List UInt8} (h1:k1<s.size) (hk2:JG Qj s (k1+1)=k2) (hk3:JG JA s k2=k3)
  (hF:R=match Xm (s.data.toList.drop k1) with | none=>none | some (p,m)=>JM s.data.toList f (k1+m) (Yg acc p))
  (hn:Jx (s.extract k1 k2).data.toList=n) (h3:k3<s.size) (h4:s[k3]=61) (hk4:JG JA s (k3+1)=k4)
  (hv:XL (s.data.toList.drop k4)=some (v,m)) (hV:(JR v).1=V) (hk:k4+m=k'):JM s.data.toList f k' (Yg acc (n,V))=R:=by
 have h12:=Q5 Qj s (k1+1);have h23:=Q5 JA s k2;have h34:=Q5 JA s (k3+1);subst hV;subst hn;exact Ji1 hF ((JeZ h1 hk2 hk3 h3 h4 hk4).trans (by rw [hv])) (by omega)
theorem Zu {l p:List UInt8} {k:Nat} (h:0≤QF l p k) (hp:0<p.length): ∃ m:Nat,QF l p k=m∧k≤m∧m+p.length≤l.length:=by
 unfold QF at *;by_cases hn:Lib.index (l.drop k) p<0
 ·rw [if_pos hn] at h;omega
 ·rw [if_neg hn] at h ⊢;have h1:=Jed (l.drop k) p (by omega);rw [List.length_drop] at h1;exact ⟨k+(Lib.index (l.drop k) p).toNat,by omega,by omega,by omega⟩
theorem YY (s:ByteArray) (hs:s.size≤maxLen) (w:World):
  Calls Tryz.prog 127 #[.string s] w fun e w'=>e=.returned (.bool (decide (3000<s.size)))∧w'=w:=by
 unfold maxLen at hs;by_cases h1:3000<s.size
 ·go_enter Tryz.func127,Tryz.ntmps127
  go_wp2
  go_ret;exact ⟨Qv (by simp;omega),rfl⟩
 ·go_enter Tryz.func127,Tryz.ntmps127
  go_wp2
  go_ret;exact ⟨Qv (by simp;omega),rfl⟩
theorem JkT (s t:ByteArray) (hs:s.size≤maxLen) (_ht:t.size≤maxLen) (w:World):
  Calls Tryz.prog 126 #[.string s,.string t] w fun e w'=>e=.returned (.bool (JH s.data.toList t.data.toList))∧ ∃ m,w'=w.drewN m:=by
 obtain ⟨R,hR⟩: ∃ R,JH s.data.toList t.data.toList=R:=⟨_,rfl⟩;rw [hR];have HR:=Ja hR;have hls:=Js s;have hlt:=Js t;unfold maxLen at hs;clear hR;go_enter Tryz.func126,Tryz.ntmps126;go_wp2_with fail;go_loopw [5] (fun i wr=> ∃ k m:Nat,i=.int .i64 k∧k≤s.size∧k≤t.size∧wr=w.drewN m∧Hid (JH (s.data.toList.drop k) (t.data.toList.drop k)=R)) (fun i _=>s.size - (intOf i).toNat)
 case atStart=>exact ⟨0,0,rfl,Nat.zero_le _,Nat.zero_le _,rfl,Ja (by simpa using HR.out)⟩
 case round=>
  obtain ⟨k,m,rfl,hk1,hk2,rfl,hH⟩:=hrel;by_cases h1:k<s.size
  ·by_cases h2:k<t.size
   ·have l1:k<s.data.toList.length:=by omega
    have l2:k<t.data.toList.length:=by omega
    have hst:=hH.out;rw [List.drop_eq_getElem_cons l1,List.drop_eq_getElem_cons l2] at hst;rw [show s.data.toList[k]=s[k] from rfl,show t.data.toList[k]=t[k] from rfl] at hst;unfold JH at hst;have b1:(0:Int)≤(k:Int):=by omega
    have b2:(k:Int)<(s.size:Int):=by omega
    have b3:(k:Int)<(t.size:Int):=by omega
    by_cases hxy:s[k]=t[k]
    ·have hn:((s[k].toNat:Int) != (t[k].toNat:Int))=false:=by simp [hxy]
     simp [hxy] at hst;have HS:=Ja hst;clear hst hxy;go_wp2_with fail
     go_quiet (fail)
     go_wp2_with fail;go_roundw
     case rel=>exact ⟨k+1,_,by go_num,by omega,by omega,rfl,HS⟩
     case measure=>simp [intOf];omega
    ·have hne:s[k].toNat≠t[k].toNat:=fun h=>hxy (UInt8.toNat_inj.1 h);have hn:((s[k].toNat:Int) != (t[k].toNat:Int))=true:=by simp;omega
     have hr:R=decide ((s[k].toNat:Int)<(t[k].toNat:Int)):=by rw [←hst];simp [hne]
     have HRR:=Ja hr;clear hst hr hxy hne;go_wp2_with fail
     go_quiet (fail)
     go_wp2_with fail
     go_quiet (fail)
     go_wp2_with fail;go_ret;exact ⟨Qv (by rw [HRR.out];simp),_,by rw [World.drewN_drewN,World.drewN_drewN]⟩
   ·have hst:=hH.out;rw [List.drop_eq_nil_of_le (show t.data.toList.length≤k by omega),List.drop_eq_getElem_cons (show k<s.data.toList.length by omega)] at hst;unfold JH at hst;have HS:=Ja hst;clear hst;go_wp2_with fail;go_ret;exact ⟨Qv (by rw [←HS.out];exact decide_eq_false (by omega)),_,rfl⟩
  ·have hst:=hH.out;rw [List.drop_eq_nil_of_le (show s.data.toList.length≤k by omega)] at hst;by_cases h2:k<t.size
   ·rw [List.drop_eq_getElem_cons (show k<t.data.toList.length by omega)] at hst;unfold JH at hst;have HS:=Ja hst;clear hst;go_wp2_with fail;go_ret;exact ⟨Qv (by rw [←HS.out];exact decide_eq_true (by omega)),_,rfl⟩
   ·rw [List.drop_eq_nil_of_le (show t.data.toList.length≤k by omega)] at hst;unfold JH at hst;have HS:=Ja hst;clear hst;go_wp2_with fail;go_ret;exact ⟨Qv (by rw [←HS.out];exact decide_eq_false (by omega)),_,rfl⟩
theorem JeB (x y:List UInt8) (hs:x.length≤maxLen) (ht:y.length≤maxLen) (w:World):
 Calls Tryz.prog 126 #[.string ⟨x.toArray⟩,.string ⟨y.toArray⟩] w fun e w'=>e=.returned (.bool (JH x y))∧ ∃ m,w'=w.drewN m:=JkT ⟨x.toArray⟩ ⟨y.toArray⟩ hs ht w
theorem JaE (x y:En) (hx:Xh x) (hy:Xh y) (w:World):
  Calls Tryz.prog 125 #[.agg (Jo x).toArray,.agg (Jo y).toArray] w fun e w'=>e=.returned (.bool (JQ x y))∧Jb [] w w':=by
 have htl:=Ja (fun w=>JeB x.id y.id hx.1 hy.1 w);obtain ⟨R,hR⟩: ∃ R,JQ x y=R:=⟨_,rfl⟩;rw [hR];unfold JQ at hR;obtain ⟨W,hW⟩: ∃ W,(w.alloc (.cells (Jo x).toArray 75)).alloc (.cells (Jo y).toArray 75)=W:=⟨_,rfl⟩;have hkW:Jb [] w W:=by rw [←hW];exact ((Jb.refl [] w).alloc _).alloc _
 have hb:W.heap[w.heap.size]?=some (.cells (Jo x).toArray 75 (0,0)):=by rw [←hW];exact (heap_alloc_old _ _ (by simp)).trans (heap_alloc_new w _)
 have hc:W.heap[w.heap.size+1]?=some (.cells (Jo y).toArray 75 (0,0)):=by rw [←hW];have h9:=heap_alloc_new (w.alloc (.cells (Jo x).toArray 75)) (.cells (Jo y).toArray 75);simpa using h9
 have a0:=Jd hb 0;have a3:=Jd hb 3;have c0:=Jd hc 0;have c3:=Jd hc 3;simp [Jo] at a0 a3 c0 c3;have HW:=Ja hW;have HK:=Ja hkW;clear hW hkW hb hc;unfold Jo at HW ⊢;by_cases h1:y.tm<x.tm
 ·have hr:R=true:=by rw [←hR];simp [h1]
  subst hr;clear hR;go_enter Tryz.func125,Tryz.ntmps125;go_upto_region 1 with fail;rw [HW.out];go_wp2_with fail;go_ret;exact ⟨rfl,HK.out⟩
 ·have d1:decide (y.tm<x.tm)=false:=decide_eq_false h1;by_cases h2:x.tm=y.tm
  ·have d2:(x.tm==y.tm)=true:=by simpa using h2
   have hr:JH x.id y.id=R:=by rw [←hR];simp [h2]
   rw [hr] at htl;clear h1 h2 hR hr;go_enter Tryz.func125,Tryz.ntmps125;go_upto_region 1 with fail;rw [HW.out];go_wp2_with fail;refine (htl.out _).mono ?_;rintro e w2 ⟨rfl,m,rfl⟩;go_wp2_with fail;go_ret;exact ⟨rfl,HK.out.drewN _⟩
  ·have d2:(x.tm==y.tm)=false:=by simpa using h2
   have hr:R=false:=by rw [←hR];simp [h1];intro h;omega
   subst hr;clear h1 h2 hR;go_enter Tryz.func125,Tryz.ntmps125;go_upto_region 1 with fail;rw [HW.out];go_wp2_with fail;go_ret;exact ⟨rfl,HK.out⟩
theorem Jgk (x:List UInt8) (v:Value) (l:List (List UInt8)) (w:World) (hv:Jh w v l.length 1 (Jq l)):
  Calls Tryz.prog 131 #[.string ⟨x.toArray⟩,v] w fun e w'=>e=.returned (.bool (decide (x∈l)))∧w'=w:=by
 obtain ⟨o,c,rfl,h1,h2⟩:=hv.form;unfold maxLen at h2;obtain ⟨R,hR⟩: ∃ R,decide (x∈l)=R:=⟨_,rfl⟩;rw [hR];have HR:=Ja hR;clear hR;go_enter Tryz.func131,Tryz.ntmps131;go_wp2_with fail;go_loopw [5] (fun i wr=> ∃ k:Nat,i=.int .i64 k∧k≤l.length∧wr=w∧Hid (x∉l.take k)) (fun i _=>l.length - (intOf i).toNat)
 case atStart=>exact ⟨0,rfl,Nat.zero_le _,rfl,Ja (by simp)⟩
 case round=>
  obtain ⟨k,rfl,hk,rfl,hH⟩:=hrel;by_cases hlt:k<l.length
  ·obtain ⟨g,a,rfl,hc⟩:=hv.addr (by omega);have q0:=hc _ _ (ZO l k hlt);have b1:(0:Int)≤(k:Int):=by omega
   have b2:(k:Int)<(l.length:Int):=by omega
   clear hc;by_cases he:l[k]=x
   ·have hse:((⟨l[k].toArray⟩:ByteArray).toList==(⟨x.toArray⟩:ByteArray).toList)=true:=by rw [Jca];simpa using he
    have hr:R=true:=by rw [←HR.out];simpa using he ▸ List.getElem_mem hlt
    subst hr;have heb:(l[k]==x)=true:=by simpa using he
    clear he;go_wp2_with fail;go_ret;exact ⟨rfl,rfl⟩
   ·have hse:((⟨l[k].toArray⟩:ByteArray).toList==(⟨x.toArray⟩:ByteArray).toList)=false:=by rw [Jca];simpa using he
    have heb:(l[k]==x)=false:=by simpa using he
    have HN:Hid (x∉l.take (k+1)):=by
     refine Ja ?_;rw [List.take_succ_eq_append_getElem hlt,List.mem_append];rintro (h | h)
     ·exact hH.out h
     ·exact he (List.mem_singleton.1 h).symm
    clear he;go_wp2_with fail;go_roundw
    case rel=>exact ⟨k+1,by go_num,by omega,by first | rfl | trivial,HN⟩
    case measure=>simp [intOf];omega
  ·have hr:R=false:=by
    rw [←HR.out];have:=hH.out;rw [List.take_of_length_le (by omega)] at this;simpa using this
   subst hr;go_wp2_with fail;go_ret;exact ⟨rfl,rfl⟩
def XA:List UInt8→Nat→Nat
 | [],_=>0
 | c::r,k=>if ((c.toNat:Int)==58)=true then k else if (J2 c || (decide ((0:Int)<(k:Int))&&((((decide ((48:Int)≤(c.toNat:Int))&&decide ((c.toNat:Int)≤57)) || ((c.toNat:Int)==43)) || ((c.toNat:Int)==45)) || ((c.toNat:Int)==46))))=true then XA r (k+1) else 0
theorem JrW: ∀ c:UInt8,(J2 c || ((((decide ((48:Int)≤(c.toNat:Int))&&decide ((c.toNat:Int)≤57)) || ((c.toNat:Int)==43)) || ((c.toNat:Int)==45)) || ((c.toNat:Int)==46)))=Yh c:=XU (by decide+kernel)
theorem Jhb: ∀ c:UInt8,((c.toNat:Int)==58)=(c==58):=XU (by decide+kernel)
theorem JnG: ∀ c:UInt8,J2 c=true→Yh c=true:=XU (by decide+kernel)
theorem Jjd: ∀ (r:List UInt8) (k:Nat),0<k→XA r k=if (r.drop (r.takeWhile Yh).length).head?=some 58 then k+(r.takeWhile Yh).length else 0
 | [],k,_=>by simp [XA]
 | c::r,k,hk=>by
   have hd:decide ((0:Int)<(k:Int))=true:=decide_eq_true (by omega);unfold XA;rw [hd,Bool.true_and,JrW,Jhb];by_cases h:c=58
   ·subst h;have:Yh 58=false:=by decide+kernel
    simp [this]
   ·rw [if_neg (by simpa using h)];by_cases hs:Yh c=true
    ·rw [if_pos hs,Jjd r (k+1) (by omega)];simp only [List.takeWhile_cons,hs,if_true,List.length_cons,List.drop_succ_cons];split<;>omega
    ·rw [if_neg hs];have:Yh c=false:=by simpa using hs
     simp [this,h]
theorem Jje (l:List UInt8):l.take (XA l 0)=(J8 l).getD []:=by
 cases l with
 | nil=>simp [XA,J8]
 | cons c r=>
   unfold XA;rw [show decide ((0:Int)<((0:Nat):Int))=false from rfl,Bool.false_and,Bool.or_false,Jhb];by_cases h:c=58
   ·subst h;have:Yh 58=false:=by decide+kernel
    simp [J8,this]
   ·rw [if_neg (by simpa using h)];by_cases hl:J2 c=true
    ·have hs:=JnG c hl;rw [if_pos hl,Jjd r (0+1) (by omega)];unfold J8;simp only [List.takeWhile_cons,hs,if_true,List.length_cons,List.drop_succ_cons,List.getD_cons_zero,hl,ne_eq,reduceCtorEq,not_false_eq_true,true_and];split
     ·rw [Option.getD_some,show 0+1+(r.takeWhile Yh).length=(r.takeWhile Yh).length+1 from by omega,List.take_succ_cons, ←List.prefix_iff_eq_take.1 (List.takeWhile_prefix (p:=Yh) (l:=r))]
     ·rfl
    ·rw [if_neg hl];unfold J8;by_cases hs:Yh c=true
     ·simp [hs,hl]
     ·have:Yh c=false:=by simpa using hs
      simp [this]
theorem JkK (s:ByteArray) (w:World) (hs:s.size≤3000):
  Calls Tryz.prog 200 #[.string s] w fun e w'=>e=.returned (.int .i64 (XA s.data.toList 0))∧w'=w:=by
 obtain ⟨R,hR⟩: ∃ R,XA s.data.toList 0=R:=⟨_,rfl⟩;rw [hR];have HR:=Ja hR;have hls:=Js s;clear hR;go_enter Tryz.func200,Tryz.ntmps200;go_wp2_with fail;go_loopw [3] (fun i wr=> ∃ k:Nat,i=.int .i64 k∧k≤s.size∧wr=w∧Hid (XA (s.data.toList.drop k) k=R)) (fun i _=>s.size - (intOf i).toNat)
 case atStart=>exact ⟨0,rfl,Nat.zero_le _,rfl,Ja (by simpa using HR.out)⟩
 case round=>
  obtain ⟨k,rfl,hk,rfl,hH⟩:=hrel;by_cases hlt:k<s.size
  ·have l1:k<s.data.toList.length:=by omega
   have hst:=hH.out;rw [List.drop_eq_getElem_cons l1] at hst;rw [show s.data.toList[k]=s[k] from rfl] at hst;unfold XA at hst;have b1:(0:Int)≤(k:Int):=by omega
   have b2:(k:Int)<(s.size:Int):=by omega
   have hc256:s[k].toNat<256:=UInt8.toNat_lt s[k];have hlt9:=Ja (fun w=>Jbv s[k] w);have hbt:=Ja (fun w=>Xu (s[k].toNat:Int) 48 57 w);cases h1:((s[k].toNat:Int)==58)
   ·rw [h1] at hst;cases h2:J2 s[k]
    ·rw [h2] at hst hlt9;by_cases h0:0<k
     ·have hd:(0:Int)<(k:Int):=by omega
      have hd':decide ((0:Int)<(k:Int))=true:=decide_eq_true hd;rw [hd'] at hst;obtain ⟨B,hB⟩: ∃ B,(decide ((48:Int)≤(s[k].toNat:Int))&&decide ((s[k].toNat:Int)≤57))=B:=⟨_,rfl⟩;rw [hB] at hst hbt;clear hB;cases B
      ·cases h3:((s[k].toNat:Int)==43)
       ·cases h4:((s[k].toNat:Int)==45)
        ·cases h5:((s[k].toNat:Int)==46)
         ·rw [h3,h4,h5] at hst;simp at hst;have HS:=Ja hst;clear hst;go_wp2_with (first | (go_at_call 107;refine (hlt9.out _).mono ?_;rintro e w' ⟨rfl,rfl⟩) | (go_at_call 128;refine (hbt.out _).mono ?_;rintro e w' ⟨rfl,rfl⟩));go_ret;exact ⟨by rw [←HS.out];rfl,rfl⟩
         ·rw [h3,h4,h5] at hst;simp at hst;have HS:=Ja hst;clear hst;go_wp2_with (first | (go_at_call 107;refine (hlt9.out _).mono ?_;rintro e w' ⟨rfl,rfl⟩) | (go_at_call 128;refine (hbt.out _).mono ?_;rintro e w' ⟨rfl,rfl⟩));go_roundw
          case rel=>exact ⟨k+1,by go_num,by omega,by first | rfl | trivial,HS⟩
          case measure=>simp [intOf];omega
        ·rw [h3,h4] at hst;simp at hst;have HS:=Ja hst;clear hst;go_wp2_with (first | (go_at_call 107;refine (hlt9.out _).mono ?_;rintro e w' ⟨rfl,rfl⟩) | (go_at_call 128;refine (hbt.out _).mono ?_;rintro e w' ⟨rfl,rfl⟩));go_roundw
         case rel=>exact ⟨k+1,by go_num,by omega,by first | rfl | trivial,HS⟩
         case measure=>simp [intOf];omega
       ·rw [h3] at hst;simp at hst;have HS:=Ja hst;clear hst;go_wp2_with (first | (go_at_call 107;refine (hlt9.out _).mono ?_;rintro e w' ⟨rfl,rfl⟩) | (go_at_call 128;refine (hbt.out _).mono ?_;rintro e w' ⟨rfl,rfl⟩));go_roundw
        case rel=>exact ⟨k+1,by go_num,by omega,by first | rfl | trivial,HS⟩
        case measure=>simp [intOf];omega
      ·simp at hst;have HS:=Ja hst;clear hst;go_wp2_with (first | (go_at_call 107;refine (hlt9.out _).mono ?_;rintro e w' ⟨rfl,rfl⟩) | (go_at_call 128;refine (hbt.out _).mono ?_;rintro e w' ⟨rfl,rfl⟩));go_roundw
       case rel=>exact ⟨k+1,by go_num,by omega,by first | rfl | trivial,HS⟩
       case measure=>simp [intOf];omega
     ·have hd:decide ((0:Int)<(k:Int))=false:=decide_eq_false (by omega);rw [hd] at hst;simp at hst;have HS:=Ja hst;clear hst;go_wp2_with (first | (go_at_call 107;refine (hlt9.out _).mono ?_;rintro e w' ⟨rfl,rfl⟩) | (go_at_call 128;refine (hbt.out _).mono ?_;rintro e w' ⟨rfl,rfl⟩));go_ret;exact ⟨by rw [←HS.out];rfl,rfl⟩
    ·rw [h2] at hst hlt9;simp at hst;have HS:=Ja hst;clear hst;go_wp2_with (first | (go_at_call 107;refine (hlt9.out _).mono ?_;rintro e w' ⟨rfl,rfl⟩) | (go_at_call 128;refine (hbt.out _).mono ?_;rintro e w' ⟨rfl,rfl⟩));go_roundw
     case rel=>exact ⟨k+1,by go_num,by omega,by first | rfl | trivial,HS⟩
     case measure=>simp [intOf];omega
   ·rw [h1] at hst;simp at hst;have HS:=Ja hst;clear hst;go_wp2_with (first | (go_at_call 107;refine (hlt9.out _).mono ?_;rintro e w' ⟨rfl,rfl⟩) | (go_at_call 128;refine (hbt.out _).mono ?_;rintro e w' ⟨rfl,rfl⟩));go_ret;exact ⟨by rw [←HS.out];rfl,rfl⟩
  ·have hst:=hH.out;rw [List.drop_eq_nil_of_le (by omega)] at hst;unfold XA at hst;have HS:=Ja hst;clear hst;go_wp2_with fail;go_ret;exact ⟨by rw [←HS.out];rfl,rfl⟩
theorem Ji2 (s:ByteArray) (k:Nat) (hk:k<s.size):(s.extract k (k+1)).data.toList=[s[k]]:=by
 have hl:k<s.data.toList.length:=by simpa using hk
 rw [Lib.extract_data,Nat.add_sub_cancel_left,List.drop_eq_getElem_cons hl];simp;rfl
theorem Jip: ∀ (r:List UInt8) (k:Nat),XA r k≤k+r.length
 | [],k=>by simp [XA]
 | c::r,k=>by
   have:=Jip r (k+1);unfold XA;simp only [List.length_cons];split
   ·omega
   ·split<;>omega
theorem JiA (s:List UInt8) (k:Nat) (h:k<s.length):Xj (s.take (k+1))=Xj (s.take k)++(if decide (32<s[k].toNat)=true then [s[k]] else []):=by
 unfold Xj;rw [List.take_succ_eq_append_getElem h,List.filter_append]
 congr 1
 by_cases h:32<s[k].toNat<;>simp [h]
theorem JlL (s:ByteArray) (w:World) (hs:s.size≤3000):
  Calls Tryz.prog 129 #[.string s] w fun e w'=>e=.returned (.bool (Yd s.data.toList))∧Jb [] w w':=by
 obtain ⟨R,hR⟩: ∃ R,Yd s.data.toList=R:=⟨_,rfl⟩;rw [hR];have HR:=Ja hR;have hls:=Js s;clear hR;go_enter Tryz.func129,Tryz.ntmps129;go_wp2_with fail;go_loopw [3,4] (fun v i wr=> ∃ (k m:Nat) (B:List UInt8),i=.int .i64 k∧k≤s.size∧v=.string ⟨B.toArray⟩∧Hid (Xj (s.data.toList.take k)=B)∧wr=w.drewN m) (fun _ i _=>s.size - (intOf i).toNat)
 case atStart=>exact ⟨0,0,[],rfl,Nat.zero_le _,rfl,Ja (by simp [Xj]),rfl⟩
 case round=>
  obtain ⟨k,m,B,rfl,hk,rfl,hB,rfl⟩:=hrel;by_cases hlt:k<s.size
  ·have l1:k<s.data.toList.length:=by omega
   have hst:=JiA s.data.toList k l1;rw [hB.out,show s.data.toList[k]=s[k] from rfl] at hst;have b1:(0:Int)≤(k:Int):=by omega
   have b2:(k:Int)<(s.size:Int):=by omega
   by_cases h32:32<s[k].toNat
   ·have hd:decide ((32:Int)<(s[k].toNat:Int))=true:=decide_eq_true (by omega);have hd2:(32:Int)<(s[k].toNat:Int):=by omega
    simp [h32] at hst;have HS:=Ja hst;clear hst h32;have hbl:=JbK (s.data.toList.take k);rw [hB.out,List.length_take] at hbl;have hle:B.length≤3000:=by omega
    clear hbl;go_wp2_with fail;go_roundw
    case rel=>exact ⟨k+1,_,_,by go_num,by omega,by rw [show s.extract k (k+1)=⟨[s[k]].toArray⟩ from WideShapes.bytes_inj (by rw [Ji2 s k hlt])];exact congrArg Value.string (WideShapes.bytes_inj (by simp)),HS,rfl⟩
    case measure=>simp [intOf];omega
   ·have hd:decide ((32:Int)<(s[k].toNat:Int))=false:=decide_eq_false (by omega);simp [h32] at hst;have HS:=Ja hst;clear hst h32;go_wp2_with fail;go_roundw
    case rel=>exact ⟨k+1,_,_,by go_num,by omega,rfl,HS,rfl⟩
    case measure=>simp [intOf];omega
  ·have hke:s.data.toList.take k=s.data.toList:=List.take_of_length_le (by omega);rw [hke] at hB;have hbl:=JbK s.data.toList;rw [hB.out,hls] at hbl;have hso:=Ja (fun w=>JkK ⟨B.toArray⟩ w (by rw [Jv];omega));rw [Qc] at hso;have htk:=Jje B;have hle:XA B 0≤B.length:=by simpa using Jip B 0
   have hex:((⟨B.toArray⟩:ByteArray).extract 0 (XA B 0)).data.toList=B.take (XA B 0):=by simp
   have hfo:=Ja (fun w=>Jea ((⟨B.toArray⟩:ByteArray).extract 0 (XA B 0)) w (by rw [ByteArray.size_extract,Jv];omega));rw [hex,htk] at hfo;have HQ:Hid (R=okS (Jx ((J8 B).getD []))):=Ja (by rw [←HR.out];unfold Yd;rw [hB.out];rfl);generalize Jx ((J8 B).getD [])=L at *;unfold okS at HQ;have n0:(0:Int)≤(XA B 0:Int):=by omega
   have n1:(XA B 0:Int)≤(B.length:Int):=by omega
   clear htk hex hke hbl;generalize XA B 0=n at *;cases h1:(L==[104,116,116,112])<;>cases h2:(L==[104,116,116,112,115])<;>cases h3:(L==[109,97,105,108,116,111])
   all_goals
    rw [h1,h2,h3] at HQ;go_wp2_with fail;refine (hso.out _).mono ?_;rintro e w2 ⟨rfl,rfl⟩;go_wp2_with fail;refine (hfo.out _).mono ?_;rintro e w3 ⟨rfl,hk3⟩;go_wp2_with fail;go_ret;exact ⟨by rw [HQ.out];rfl,((Jb.refl [] w).drewN _).trans hk3⟩
set_option maxRecDepth 8000 in
theorem JfB (x:En) (w:World) (hF:Xh x) (hst: ∀ w1,Jb [] w w1→x.html.length≤3000→Calls Tryz.prog 130 #[.string ⟨x.html.toArray⟩] w1 fun e w'=>e=.returned (.bool (Yo x.html))∧Jb [] w1 w'):
  Calls Tryz.prog 46 #[.agg (Jo x).toArray] w fun e w'=>e=.returned (.int .i64 (Xc x))∧Jb [] w w':=by
 obtain ⟨id,ti,li,tm,ht⟩:=x;obtain ⟨hF1,hF2,hF3,hF4⟩:=hF;simp only at hst;have l1:=Ja (fun w=>YY ⟨ti.toArray⟩ (by rw [Jv];exact hF2) w);have l2:=Ja (fun w=>YY ⟨li.toArray⟩ (by rw [Jv];exact hF3) w);have l4:=Ja (fun w=>YY ⟨ht.toArray⟩ (by rw [Jv];exact hF4) w);simp only [Jv] at l1 l2 l4;have hbt:=Ja (fun w=>Xu tm 0 4102444799 w);simp only at hF1 hF2 hF3 hF4;unfold Jo;simp only;obtain ⟨C,hC⟩: ∃ C,Xc ⟨id,ti,li,tm,ht⟩=C:=⟨_,rfl⟩;rw [hC];have HC:=Ja hC;obtain ⟨W,hW⟩: ∃ W,w.alloc (.cells #[.string ⟨id.toArray⟩,.string ⟨ti.toArray⟩,.string ⟨li.toArray⟩,.int .i64 tm,.string ⟨ht.toArray⟩] 75)=W:=⟨_,rfl⟩;have hkW:Jb [] w W:=by rw [←hW];exact (Jb.refl [] w).alloc _
 have hb:=(Qb rfl hW).1;have b0:W.cell? ⟨w.heap.size,0,none⟩=some (.string ⟨id.toArray⟩):=Jd hb 0;have b1:W.cell? ⟨w.heap.size,1,none⟩=some (.string ⟨ti.toArray⟩):=Jd hb 1;have b2:W.cell? ⟨w.heap.size,2,none⟩=some (.string ⟨li.toArray⟩):=Jd hb 2;have b3:W.cell? ⟨w.heap.size,3,none⟩=some (.int .i64 tm):=Jd hb 3;have b4:W.cell? ⟨w.heap.size,4,none⟩=some (.string ⟨ht.toArray⟩):=Jd hb 4;have z0:=Jv id;have z1:=Jv ti;have z2:=Jv li;have z4:=Jv ht;have HB:=Ja hb;have HKW:=Ja hkW;have HW:=Ja hW;clear hkW hb hW;unfold maxLen at hF1 hF2 hF3 hF4;unfold Xc at hC;simp only at hC;have hei:=Jfc id;have hel:=Jl5 li;by_cases h1:id=[]
 ·rw [if_pos h1] at hC;rw [decide_eq_true h1] at hei;have hie:id.isEmpty=true:=by simpa using h1
  clear h1;subst hC;go_enter Tryz.func46,Tryz.ntmps46;go_upto_region 1 with fail;rw [HW.out];go_wp2_with (first | (go_at_call 127;refine (l1.out _).mono ?_;rintro e w' ⟨rfl,rfl⟩) | (go_at_call 127;refine (l2.out _).mono ?_;rintro e w' ⟨rfl,rfl⟩) | (go_at_call 127;refine (l4.out _).mono ?_;rintro e w' ⟨rfl,rfl⟩) | (go_at_call 128;refine (hbt.out _).mono ?_;rintro e w' ⟨rfl,rfl⟩));go_ret;exact ⟨rfl,HKW.out⟩
 ·rw [if_neg h1] at hC;rw [decide_eq_false h1] at hei;have hie:id.isEmpty=false:=by simpa using h1
  clear h1;by_cases h2:60<id.length∨3000<ti.length∨3000<li.length∨3000<ht.length
  ·rw [if_pos h2] at hC;subst hC;by_cases h3:60<id.length
   ·have d3:decide ((60:Int)<(id.length:Int))=true:=by simp;omega
    clear h2 h3;go_enter Tryz.func46,Tryz.ntmps46;go_upto_region 1 with fail;rw [HW.out];go_wp2_with (first | (go_at_call 127;refine (l1.out _).mono ?_;rintro e w' ⟨rfl,rfl⟩) | (go_at_call 127;refine (l2.out _).mono ?_;rintro e w' ⟨rfl,rfl⟩) | (go_at_call 127;refine (l4.out _).mono ?_;rintro e w' ⟨rfl,rfl⟩) | (go_at_call 128;refine (hbt.out _).mono ?_;rintro e w' ⟨rfl,rfl⟩));go_ret;exact ⟨rfl,HKW.out⟩
   ·have d3:decide ((60:Int)<(id.length:Int))=false:=by simp;omega
    by_cases k1:3000<ti.length
    ·rw [decide_eq_true k1] at l1;clear h2 h3 k1;go_enter Tryz.func46,Tryz.ntmps46;go_upto_region 1 with fail;rw [HW.out];go_wp2_with (first | (go_at_call 127;refine (l1.out _).mono ?_;rintro e w' ⟨rfl,rfl⟩) | (go_at_call 127;refine (l2.out _).mono ?_;rintro e w' ⟨rfl,rfl⟩) | (go_at_call 127;refine (l4.out _).mono ?_;rintro e w' ⟨rfl,rfl⟩) | (go_at_call 128;refine (hbt.out _).mono ?_;rintro e w' ⟨rfl,rfl⟩));go_ret;exact ⟨rfl,HKW.out⟩
    ·rw [decide_eq_false k1] at l1;by_cases k2:3000<li.length
     ·rw [decide_eq_true k2] at l2;clear h2 h3 k1 k2;go_enter Tryz.func46,Tryz.ntmps46;go_upto_region 1 with fail;rw [HW.out];go_wp2_with (first | (go_at_call 127;refine (l1.out _).mono ?_;rintro e w' ⟨rfl,rfl⟩) | (go_at_call 127;refine (l2.out _).mono ?_;rintro e w' ⟨rfl,rfl⟩) | (go_at_call 127;refine (l4.out _).mono ?_;rintro e w' ⟨rfl,rfl⟩) | (go_at_call 128;refine (hbt.out _).mono ?_;rintro e w' ⟨rfl,rfl⟩));go_ret;exact ⟨rfl,HKW.out⟩
     ·rw [decide_eq_false k2] at l2;rw [decide_eq_true (show 3000<ht.length by omega)] at l4;clear h2 h3 k1 k2;go_enter Tryz.func46,Tryz.ntmps46;go_upto_region 1 with fail;rw [HW.out];go_wp2_with (first | (go_at_call 127;refine (l1.out _).mono ?_;rintro e w' ⟨rfl,rfl⟩) | (go_at_call 127;refine (l2.out _).mono ?_;rintro e w' ⟨rfl,rfl⟩) | (go_at_call 127;refine (l4.out _).mono ?_;rintro e w' ⟨rfl,rfl⟩) | (go_at_call 128;refine (hbt.out _).mono ?_;rintro e w' ⟨rfl,rfl⟩));go_ret;exact ⟨rfl,HKW.out⟩
  ·rw [if_neg h2] at hC;have d3:decide ((60:Int)<(id.length:Int))=false:=by simp;omega
   rw [decide_eq_false (show ¬ 3000<ti.length by omega)] at l1;rw [decide_eq_false (show ¬ 3000<li.length by omega)] at l2;rw [decide_eq_false (show ¬ 3000<ht.length by omega)] at l4;have hsf:=Ja (fun w1 (hk:Jb [] w w1)=>JlL ⟨li.toArray⟩ w1 (by rw [Jv];omega));simp only at hsf;have hcl:=Ja (fun w1 (hk:Jb [] w w1)=>hst w1 hk (by omega));clear hst;generalize Yd li=SF at *;generalize Yo ht=CL at *;clear h2;by_cases h5:tm<0∨4102444799<tm
   ·rw [if_pos h5] at hC;subst hC;by_cases h6:tm<0
    ·rw [decide_eq_false (show ¬ 0≤tm by omega),Bool.false_and] at hbt;clear h5 h6;go_enter Tryz.func46,Tryz.ntmps46;go_upto_region 1 with fail;rw [HW.out];go_wp2_with (first | (go_at_call 127;refine (l1.out _).mono ?_;rintro e w' ⟨rfl,rfl⟩) | (go_at_call 127;refine (l2.out _).mono ?_;rintro e w' ⟨rfl,rfl⟩) | (go_at_call 127;refine (l4.out _).mono ?_;rintro e w' ⟨rfl,rfl⟩) | (go_at_call 128;refine (hbt.out _).mono ?_;rintro e w' ⟨rfl,rfl⟩));go_ret;exact ⟨rfl,HKW.out⟩
    ·rw [decide_eq_false (show ¬ tm≤4102444799 by omega),Bool.and_false] at hbt;clear h5 h6;go_enter Tryz.func46,Tryz.ntmps46;go_upto_region 1 with fail;rw [HW.out];go_wp2_with (first | (go_at_call 127;refine (l1.out _).mono ?_;rintro e w' ⟨rfl,rfl⟩) | (go_at_call 127;refine (l2.out _).mono ?_;rintro e w' ⟨rfl,rfl⟩) | (go_at_call 127;refine (l4.out _).mono ?_;rintro e w' ⟨rfl,rfl⟩) | (go_at_call 128;refine (hbt.out _).mono ?_;rintro e w' ⟨rfl,rfl⟩));go_ret;exact ⟨rfl,HKW.out⟩
   ·rw [if_neg h5] at hC;rw [decide_eq_true (show 0≤tm by omega),decide_eq_true (show tm≤4102444799 by omega),Bool.and_self] at hbt;clear h5;by_cases h7:li=[]
    ·rw [if_neg (fun h=>h.1 h7)] at hC;rw [decide_eq_false (fun h=>h h7)] at hel;have hle:li.isEmpty=true:=by simpa using h7
     clear h7;cases CL
     ·simp only [if_true] at hC;subst hC;go_enter Tryz.func46,Tryz.ntmps46;go_upto_region 1 with fail;rw [HW.out];go_wp2_with (first | (go_at_call 127;refine (l1.out _).mono ?_;rintro e w' ⟨rfl,rfl⟩) | (go_at_call 127;refine (l2.out _).mono ?_;rintro e w' ⟨rfl,rfl⟩) | (go_at_call 127;refine (l4.out _).mono ?_;rintro e w' ⟨rfl,rfl⟩) | (go_at_call 128;refine (hbt.out _).mono ?_;rintro e w' ⟨rfl,rfl⟩));refine (hcl.out _ HKW.out).mono ?_;rintro e w2 ⟨rfl,hk2⟩;have HK2:=Ja (HKW.out.trans hk2);clear hk2;go_wp2_with (first | (go_at_call 127;refine (l1.out _).mono ?_;rintro e w' ⟨rfl,rfl⟩) | (go_at_call 127;refine (l2.out _).mono ?_;rintro e w' ⟨rfl,rfl⟩) | (go_at_call 127;refine (l4.out _).mono ?_;rintro e w' ⟨rfl,rfl⟩) | (go_at_call 128;refine (hbt.out _).mono ?_;rintro e w' ⟨rfl,rfl⟩));go_ret;exact ⟨rfl,HK2.out⟩
     ·simp only [Bool.true_eq_false,if_false] at hC;subst hC;go_enter Tryz.func46,Tryz.ntmps46;go_upto_region 1 with fail;rw [HW.out];go_wp2_with (first | (go_at_call 127;refine (l1.out _).mono ?_;rintro e w' ⟨rfl,rfl⟩) | (go_at_call 127;refine (l2.out _).mono ?_;rintro e w' ⟨rfl,rfl⟩) | (go_at_call 127;refine (l4.out _).mono ?_;rintro e w' ⟨rfl,rfl⟩) | (go_at_call 128;refine (hbt.out _).mono ?_;rintro e w' ⟨rfl,rfl⟩));refine (hcl.out _ HKW.out).mono ?_;rintro e w2 ⟨rfl,hk2⟩;have HK2:=Ja (HKW.out.trans hk2);clear hk2;go_wp2_with (first | (go_at_call 127;refine (l1.out _).mono ?_;rintro e w' ⟨rfl,rfl⟩) | (go_at_call 127;refine (l2.out _).mono ?_;rintro e w' ⟨rfl,rfl⟩) | (go_at_call 127;refine (l4.out _).mono ?_;rintro e w' ⟨rfl,rfl⟩) | (go_at_call 128;refine (hbt.out _).mono ?_;rintro e w' ⟨rfl,rfl⟩));go_ret;exact ⟨rfl,HK2.out⟩
    ·rw [decide_eq_true h7] at hel;have hle:li.isEmpty=false:=by simpa using h7
     cases SF
     ·rw [if_pos ⟨h7,rfl⟩] at hC;subst hC;clear h7;go_enter Tryz.func46,Tryz.ntmps46;go_upto_region 1 with fail;rw [HW.out];go_wp2_with (first | (go_at_call 127;refine (l1.out _).mono ?_;rintro e w' ⟨rfl,rfl⟩) | (go_at_call 127;refine (l2.out _).mono ?_;rintro e w' ⟨rfl,rfl⟩) | (go_at_call 127;refine (l4.out _).mono ?_;rintro e w' ⟨rfl,rfl⟩) | (go_at_call 128;refine (hbt.out _).mono ?_;rintro e w' ⟨rfl,rfl⟩));refine (hsf.out _ HKW.out).mono ?_;rintro e w1 ⟨rfl,hk1⟩;have HK1:=Ja (HKW.out.trans hk1);have b2:w1.cell? ⟨w.heap.size,4,none⟩=some (.string ⟨ht.toArray⟩):=Jz hk1 HB.out 4;clear hk1;go_wp2_with (first | (go_at_call 127;refine (l1.out _).mono ?_;rintro e w' ⟨rfl,rfl⟩) | (go_at_call 127;refine (l2.out _).mono ?_;rintro e w' ⟨rfl,rfl⟩) | (go_at_call 127;refine (l4.out _).mono ?_;rintro e w' ⟨rfl,rfl⟩) | (go_at_call 128;refine (hbt.out _).mono ?_;rintro e w' ⟨rfl,rfl⟩));go_ret;exact ⟨rfl,HK1.out⟩
     ·rw [if_neg (fun h=>by cases h.2)] at hC;clear h7;cases CL
      ·simp only [if_true] at hC;subst hC;go_enter Tryz.func46,Tryz.ntmps46;go_upto_region 1 with fail;rw [HW.out];go_wp2_with (first | (go_at_call 127;refine (l1.out _).mono ?_;rintro e w' ⟨rfl,rfl⟩) | (go_at_call 127;refine (l2.out _).mono ?_;rintro e w' ⟨rfl,rfl⟩) | (go_at_call 127;refine (l4.out _).mono ?_;rintro e w' ⟨rfl,rfl⟩) | (go_at_call 128;refine (hbt.out _).mono ?_;rintro e w' ⟨rfl,rfl⟩));refine (hsf.out _ HKW.out).mono ?_;rintro e w1 ⟨rfl,hk1⟩;have HK1:=Ja (HKW.out.trans hk1);have b2:w1.cell? ⟨w.heap.size,4,none⟩=some (.string ⟨ht.toArray⟩):=Jz hk1 HB.out 4;clear hk1;go_wp2_with (first | (go_at_call 127;refine (l1.out _).mono ?_;rintro e w' ⟨rfl,rfl⟩) | (go_at_call 127;refine (l2.out _).mono ?_;rintro e w' ⟨rfl,rfl⟩) | (go_at_call 127;refine (l4.out _).mono ?_;rintro e w' ⟨rfl,rfl⟩) | (go_at_call 128;refine (hbt.out _).mono ?_;rintro e w' ⟨rfl,rfl⟩));refine (hcl.out w1 HK1.out).mono ?_;rintro e w2 ⟨rfl,hk2⟩;have HK2:=Ja (HK1.out.trans hk2);clear hk2;go_wp2_with (first | (go_at_call 127;refine (l1.out _).mono ?_;rintro e w' ⟨rfl,rfl⟩) | (go_at_call 127;refine (l2.out _).mono ?_;rintro e w' ⟨rfl,rfl⟩) | (go_at_call 127;refine (l4.out _).mono ?_;rintro e w' ⟨rfl,rfl⟩) | (go_at_call 128;refine (hbt.out _).mono ?_;rintro e w' ⟨rfl,rfl⟩));go_ret;exact ⟨rfl,HK2.out⟩
      ·simp only [Bool.true_eq_false,if_false] at hC;subst hC;go_enter Tryz.func46,Tryz.ntmps46;go_upto_region 1 with fail;rw [HW.out];go_wp2_with (first | (go_at_call 127;refine (l1.out _).mono ?_;rintro e w' ⟨rfl,rfl⟩) | (go_at_call 127;refine (l2.out _).mono ?_;rintro e w' ⟨rfl,rfl⟩) | (go_at_call 127;refine (l4.out _).mono ?_;rintro e w' ⟨rfl,rfl⟩) | (go_at_call 128;refine (hbt.out _).mono ?_;rintro e w' ⟨rfl,rfl⟩));refine (hsf.out _ HKW.out).mono ?_;rintro e w1 ⟨rfl,hk1⟩;have HK1:=Ja (HKW.out.trans hk1);have b2:w1.cell? ⟨w.heap.size,4,none⟩=some (.string ⟨ht.toArray⟩):=Jz hk1 HB.out 4;clear hk1;go_wp2_with (first | (go_at_call 127;refine (l1.out _).mono ?_;rintro e w' ⟨rfl,rfl⟩) | (go_at_call 127;refine (l2.out _).mono ?_;rintro e w' ⟨rfl,rfl⟩) | (go_at_call 127;refine (l4.out _).mono ?_;rintro e w' ⟨rfl,rfl⟩) | (go_at_call 128;refine (hbt.out _).mono ?_;rintro e w' ⟨rfl,rfl⟩));refine (hcl.out w1 HK1.out).mono ?_;rintro e w2 ⟨rfl,hk2⟩;have HK2:=Ja (HK1.out.trans hk2);clear hk2;go_wp2_with (first | (go_at_call 127;refine (l1.out _).mono ?_;rintro e w' ⟨rfl,rfl⟩) | (go_at_call 127;refine (l2.out _).mono ?_;rintro e w' ⟨rfl,rfl⟩) | (go_at_call 127;refine (l4.out _).mono ?_;rintro e w' ⟨rfl,rfl⟩) | (go_at_call 128;refine (hbt.out _).mono ?_;rintro e w' ⟨rfl,rfl⟩));go_ret;exact ⟨rfl,HK2.out⟩
theorem Z3 (w:World) (x:En) (t:TypeId): ∀ j u,(Jo x)[j]?=some u→(w.alloc (.cells #[.string ⟨x.id.toArray⟩,.string ⟨x.title.toArray⟩,.string ⟨x.link.toArray⟩,.int .i64 x.tm,.string ⟨x.html.toArray⟩] t)).cell? ((⟨w.heap.size,0,none⟩:Addr).add j)=some u:=by
 intro j u h;exact J9 w (Jo x).toArray t j u (by simpa using h)
theorem Z4 (x:En): ∀ u∈Jo x,u.oneCell'=true:=by
 intro u hu;simp only [Jo,List.mem_cons,List.not_mem_nil,or_false] at hu;rcases hu with rfl | rfl | rfl | rfl | rfl<;>rfl
theorem Q7 (l:List En) (x:En):Je (l++[x])=Je l++Jo x:=by
 rw [XH];simp [Je]
theorem JlZ {es:List En} {rd:List (List UInt8)} {k:Nat} (h:k<es.length):JS (es.take (k+1)) rd=JS (es.take k) rd++(if es[k].id∈rd then [] else [es[k]]):=by
 unfold JS;rw [List.take_succ_eq_append_getElem h,List.filter_append]
 congr 1
 by_cases hm:es[k].id∈rd<;>simp [hm]
set_option maxRecDepth 8000 in
theorem Jk2 (w:World) (ev rv:Value) (s:Sh) (he:Jh w ev s.es.length 5 (Je s.es)) (hr:Jh w rv s.rd.length 1 (Jq s.rd)) (h20:s.es.length≤20):
  Calls Tryz.prog 49 #[.agg #[ev,rv]] w fun e w'=> ∃ v,e=.returned v∧w'.ownsRow w.heap.size 75 5 v (JS s.es s.rd).length (Je (JS s.es s.rd))∧Jb [] w w':=by
 obtain ⟨es,rd⟩:=s;simp only at he hr h20 ⊢;obtain ⟨eo,ec,rfl,g1,g2⟩:=he.form;obtain ⟨ro,rc,rfl,g3,g4⟩:=hr.form;unfold maxLen at g2 g4;obtain ⟨W,hW⟩: ∃ W,w.alloc (.cells #[.slice eo es.length ec,.slice ro rd.length rc] 64)=W:=⟨_,rfl⟩;have hkW:Jb [] w W:=by rw [←hW];exact (Jb.refl [] w).alloc _
 have hb:=(Qb rfl hW).1;have b0:W.cell? ⟨w.heap.size,0,none⟩=some (.slice eo es.length ec):=Jd hb 0;have b1:W.cell? ⟨w.heap.size,1,none⟩=some (.slice ro rd.length rc):=Jd hb 1;have HE:=Ja (he.keeps hkW);have HR:=Ja (hr.keeps hkW);have HKW:=Ja hkW;have HW:=Ja hW;obtain ⟨i0,hi,hz0,hz1,hz2⟩:=info_parts Jcf;obtain ⟨U,hU⟩: ∃ U,JS es rd=U:=⟨_,rfl⟩;rw [hU];have HU:=Ja hU;clear he hr hkW hW hb hU;go_enter Tryz.func49,Tryz.ntmps49;go_upto_region 1 with fail;rw [HW.out];go_wp2_with fail;go_loopw [3,4] (fun v i wr=> ∃ k:Nat,k≤es.length∧i=.int .i64 k∧wr.ownsRow W.heap.size 75 5 v (JS (es.take k) rd).length (Je (JS (es.take k) rd))∧Jb [] W wr) (fun _ i _=>es.length - (intOf i).toNat)
 case atStart=>exact ⟨0,Nat.zero_le _,rfl,World.ownsRow_nil _ _ _ _,Jb.refl _ _⟩
 case round=>
  obtain ⟨k,hk,rfl,hrow,hkr⟩:=hrel;obtain ⟨vo,vc,rfl⟩:=Jg hrow;have x0:=Jc hkr b0;have x1:=Jc hkr b1;by_cases hlt:k<es.length
  ·have hH:=JlZ (rd:=rd) hlt;have hll:(JS (es.take k) rd).length≤20:=by
    have h1:(JS (es.take k) rd).length≤(es.take k).length:=List.length_filter_le _ _;rw [List.length_take] at h1;omega
   obtain ⟨g,o0,rfl,hc⟩:=(HE.out.keeps hkr).addr (by omega);obtain ⟨a0,a1,a2,a3,a4⟩:=Qs hc k hlt;have b3:(0:Int)≤(k:Int):=by omega
   have b4:(k:Int)<(es.length:Int):=by omega
   have hin:=Ja (fun n=>Jgk es[k].id _ rd (wr.drewN n) (HR.out.keeps (hkr.drewN n)));have HKR:=Ja hkr;have HROW:=Ja hrow;clear hc hrow hkr;generalize JS (es.take k) rd=got at *;generalize es[k]=x at *;by_cases hm:x.id∈rd
   ·rw [if_pos hm,List.append_nil] at hH;simp only [decide_eq_true hm] at hin;have HH:=Ja hH;clear hH hm;go_wp2_with fail
    go_quiet ((go_at_call 131;exact Calls.quiet_of_same (hin.out _)))
    go_wp2_with fail;go_roundw
    case rel=>exact ⟨k+1,by omega,by go_num,by rw [HH.out];exact ((Jb.refl [] wr).drewN _).owns HROW.out (fun _ _=>List.not_mem_nil),HKR.out.drewN _⟩
    case measure=>simp [intOf];omega
   ·rw [if_neg hm] at hH;simp only [decide_eq_false hm] at hin;have HH:=Ja hH;clear hH hm;go_wp2_with fail
    go_quiet ((go_at_call 131;exact Calls.quiet_of_same (hin.out _)))
    obtain ⟨WE,hWE⟩: ∃ WE,wr.drewN nq=WE:=⟨_,rfl⟩;have hkN:Jb [] wr WE:=by rw [←hWE];exact (Jb.refl [] wr).drewN _
    have hrow3:=hkN.owns HROW.out (fun _ _=>List.not_mem_nil);have HKE:=Ja (HKR.out.trans hkN);have y0:=Jc hkN x0;have m0:=Jc hkN a0;have m1:=Jc hkN a1;have m2:=Jc hkN a2;have m3:=Jc hkN a3;have m4:=Jc hkN a4;have hszE:W.heap.size≤WE.heap.size:=HKE.out.size;rw [hWE];clear hkN hWE a0 a1 a2 a3 a4 x0 x1;go_wp2_with (at_builtin;refine Jl _ rfl _ _ 61 rfl W.heap.size 75 i0 _ 5 72 Tryz.underlying61 hi hz0 hz1 hz2 (by kernel_rfl) (by decide) (.slice vo got.length vc) got.length (Je got) rfl (hrow3.alloc _) ⟨WE.heap.size,0,none⟩ 1 1 (Jo x) rfl rfl ?c1 ?c2 ?c3 ?c4 ?c5 ?_)
    case c1=>exact Z3 WE x 75
    case c2=>exact Z4 x
    case c3=>unfold maxLen;omega
    case c4=>omega
    case c5=>exact Nat.le_trans hszE (by simp)
    intro v4 w4 ho4 hg4 hw4;obtain ⟨o4,c4,hv4⟩:=Jg ho4;subst hv4;have hk4:Jb (Value.slice vo got.length vc).ownBlock.toList WE w4:=((Jb.refl _ WE).alloc _).grown hg4 (fun i e=>.inl (by simp [e]));have HK4:Hid (Jb [] W w4):=Ja ((HKE.out.up.trans hk4).mono (fun i hi hlt=>by have:=(hrow3.lt i (by simpa using hi)).1;omega));have HO4:=Ja ho4;clear hk4 hg4 hw4 ho4;go_wp2_with fail;go_roundw
    case rel=>exact ⟨k+1,by omega,by go_num,by rw [HH.out,Q7,List.length_append];exact HO4.out,HK4.out⟩
    case measure=>simp [intOf];omega
  ·have hke:es.take k=es:=List.take_of_length_le (by omega);rw [hke,HU.out] at hrow;have HROW:=Ja hrow;rw [hke,HU.out];clear hrow;go_wp2_with fail;go_ret;exact ⟨_,rfl,Yx HROW.out HKW.out.size,HKW.out.trans hkr⟩
set_option maxRecDepth 8000 in
theorem JkL (w:World) (e1 r1 e2 r2:Value) (s:Sh) (n:Int) (h1:Jh w e1 s.es.length 5 (Je s.es)) (h2:Jh w r1 s.rd.length 1 (Jq s.rd)) (h3:Jh w e2 s.es.length 5 (Je s.es)) (h4:Jh w r2 s.rd.length 1 (Jq s.rd)):
  Calls Tryz.prog 52 #[.agg #[e1,r1],.int .i64 n,.int .i64 0,.int .i64 0,.agg #[e2,r2],.int .i64 n] w fun e w'=>e=.returned (.bool true)∧Jb [] w w':=by
 obtain ⟨o1,c1,rfl,_,_⟩:=h1.form;obtain ⟨o2,c2,rfl,_,_⟩:=h2.form;obtain ⟨o3,c3,rfl,_,_⟩:=h3.form;obtain ⟨o4,c4,rfl,_,_⟩:=h4.form;obtain ⟨W,hW⟩: ∃ W,(w.alloc (.cells #[.slice o1 s.es.length c1,.slice o2 s.rd.length c2] 64)).alloc (.cells #[.slice o3 s.es.length c3,.slice o4 s.rd.length c4] 64)=W:=⟨_,rfl⟩;have hkW:Jb [] w W:=by rw [←hW];exact ((Jb.refl [] w).alloc _).alloc _
 have hb:W.heap[w.heap.size]?=some (.cells #[.slice o1 s.es.length c1,.slice o2 s.rd.length c2] 64 (0,0)):=by rw [←hW];exact (heap_alloc_old _ _ (by simp)).trans (heap_alloc_new w _)
 have hc:W.heap[w.heap.size+1]?=some (.cells #[.slice o3 s.es.length c3,.slice o4 s.rd.length c4] 64 (0,0)):=by rw [←hW];have h9:=heap_alloc_new (w.alloc (.cells #[.slice o1 s.es.length c1,.slice o2 s.rd.length c2] 64)) (.cells #[.slice o3 s.es.length c3,.slice o4 s.rd.length c4] 64);simpa using h9
 have a0:=Jd hb 0;have a1:=Jd hb 1;have b0:=Jd hc 0;have b1:=Jd hc 1;simp at a0 a1 b0 b1;have hss:=JeM W _ _ _ _ s s (h1.keeps hkW) (h2.keeps hkW) (h3.keeps hkW) (h4.keeps hkW);simp only [decide_true,Bool.and_self] at hss;have HSS:=Ja hss;have HW:=Ja hW;have HK:=Ja hkW;clear hss hW hkW hb hc h1 h2 h3 h4;have hnn:(n==n)=true:=by simp
 go_enter Tryz.func52,Tryz.ntmps52;go_upto_region 1 with fail;rw [HW.out];go_wp2_with fail;refine HSS.out.mono ?_;rintro e w2 ⟨rfl,hk2⟩;go_wp2_with fail;go_ret;exact ⟨rfl,HK.out.trans hk2⟩
set_option maxRecDepth 8000 in
theorem JlP (w:World) (C:Int) (o3 o4:Option Addr) (n3 c3 n4 c4:Nat) (n:Int) (hC:C≠0):
  Calls Tryz.prog 52 #[.agg #[.slice none 0 0,.slice none 0 0],.int .i64 0,.int .i64 C,.int .i64 C,.agg #[.slice o3 n3 c3,.slice o4 n4 c4],.int .i64 n] w fun e w'=>e=.returned (.bool true)∧Jb [] w w':=by
 have d1:(C != 0)=true:=by simpa using hC
 have d2:(C==C)=true:=by simp
 clear hC;have hss:=Ja (fun w1=>JeM w1 (.slice none 0 0) (.slice none 0 0) (.slice none 0 0) (.slice none 0 0) ⟨[],[]⟩ ⟨[],[]⟩ ⟨rfl,.inl ⟨rfl,rfl⟩⟩ ⟨rfl,.inl ⟨rfl,rfl⟩⟩ ⟨rfl,.inl ⟨rfl,rfl⟩⟩ ⟨rfl,.inl ⟨rfl,rfl⟩⟩);simp only [decide_true,Bool.and_self] at hss;go_enter Tryz.func52,Tryz.ntmps52;go_wp2_with fail;refine (hss.out _).mono ?_;rintro e w2 ⟨rfl,hk2⟩;go_wp2_with fail;go_ret;exact ⟨rfl,(((Jb.refl [] w).alloc _).alloc _).trans hk2⟩
end Go.Proofs.YtlcljanibjdejaaGreat
