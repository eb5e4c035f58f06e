/- ShelfTells holds: the law returns true for every input, and each argument reads behind the call as it read before; no condition. A part of its proof. -/
import Derived.Test.YtlcljanibjdejaaGreatSt19
import Derived.ProofKit
import Derived.OpenShut
import Derived.ShutString
import Derived.JoinedCond
import Derived.HandedShaped
import Derived.Carry
import Derived.SizedLaws
set_option maxHeartbeats 64000000
namespace Go.Proofs.YtlcljanibjdejaaGreat
open Go.RowKit Go.Maps
theorem XX {w w':World} {v:Value} {n z:Nat} {xs:List Value} (h:Jh w v n z xs) (hx: ∀ u∈xs,¬ JbI u) {g:Nat} {cs:Array Value} {t:TypeId} (hg:w.heap[g]?=some (.cells cs t (0,0))) (hc: ∀ u∈cs.toList,JbI u) (hk:Jb [g] w w'):Jh w' v n z xs:=by
 refine ⟨h.1,?_⟩;rcases h.2 with h0 | ⟨b,o,c,e,h1,h2,h3⟩ | h0
 ·exact .inl h0
 ·refine .inr (.inl ⟨b,o,c,e,h1,h2,fun j u hj=>?_⟩);have h4:=h3 j u hj;by_cases hb:b=g
  ·subst hb;rw [Jd hg (o+j)] at h4;exact absurd (hc u (by have:=Array.mem_of_getElem? h4;simpa using this)) (hx u (List.mem_of_getElem? hj))
  ·exact JE hk (a:=⟨b,o+j,none⟩) (by simpa using hb) h4
 ·exact .inr (.inr h0)
theorem Jd5 (l:List En): ∀ u∈Je l,¬ JbI u:=by
 intro u hu;unfold Je at hu;obtain ⟨x,_,hu⟩:=List.mem_flatMap.1 hu;simp only [Jo,List.mem_cons,List.not_mem_nil,or_false] at hu;rintro ⟨o,n,c,rfl⟩;rcases hu with h | h | h | h | h<;>cases h
theorem JaY (l:List (List UInt8)): ∀ u∈Jq l,¬ JbI u:=by
 intro u hu;unfold Jq at hu;obtain ⟨x,_,rfl⟩:=List.mem_map.1 hu;rintro ⟨o,n,c,h⟩;cases h
theorem Jco.apart {w w':World} {ev rv:Value} {n C:Int} {S:Sh} {N:Int} (h:Jco w ev rv n C S N) {g:Nat} {cs:Array Value} {t:TypeId} (hg:w.heap[g]?=some (.cells cs t (0,0))) (hc: ∀ u∈cs.toList,JbI u) (hk:Jb [g] w w'):Jco w' ev rv n C S N:=
 ⟨fun h0=>⟨XX (h.1 h0).1 (Jd5 _) hg hc hk,XX (h.1 h0).2.1 (JaY _) hg hc hk,(h.1 h0).2.2⟩,h.2⟩
theorem JaV.apart {w w':World} {ev rv:Value} {n C:Int} {S:Sh} {N:Int} (h:JaV w ev rv n C S N) {g:Nat} {cs:Array Value} {t:TypeId} (hg:w.heap[g]?=some (.cells cs t (0,0))) (hc: ∀ u∈cs.toList,JbI u) (hk:Jb [g] w w'):JaV w' ev rv n C S N:=
 ⟨fun h0=>⟨XX (h.1 h0).1 (Jd5 _) hg hc hk,XX (h.1 h0).2.1 (JaY _) hg hc hk,(h.1 h0).2.2⟩,h.2⟩
theorem XY (o1 o2:Option Addr) (n1 c1 n2 c2:Nat): ∀ u∈(#[.slice o1 n1 c1,.slice o2 n2 c2]:Array Value).toList,JbI u:=by
 intro u hu;simp at hu;rcases hu with rfl | rfl<;>exact ⟨_,_,_,rfl⟩
@[reducible] def SH (T:List Nat) (W:World) (b:Nat) (v0 v1:Value) (w':World):Prop:=Jb T W w'∧w'.cell? ⟨b,0,none⟩=some v0∧w'.cell? ⟨b,1,none⟩=some v1
theorem SH.of {T:List Nat} {W w':World} {b:Nat} {v0 v1:Value} (hb:b∉T) (h0:W.cell? ⟨b,0,none⟩=some v0) (h1:W.cell? ⟨b,1,none⟩=some v1) (hk:Jb T W w'):SH T W b v0 v1 w':=⟨hk,JE hk (a:=⟨b,0,none⟩) hb h0,JE hk (a:=⟨b,1,none⟩) hb h1⟩
def JbH (l:List En) (CP:Int) (x:Int) (k:Nat):Prop:=x≠0∧x=CP∨x=0∧X5 (l.drop k)=CP
theorem JbH.step {l:List En} {CP:Int} {k:Nat} (hk:k<l.length) (h:JbH l CP 0 k):JbH l CP (Xc l[k]) (k+1):=by
 rcases h with ⟨h1,_⟩ | ⟨_,h⟩
 ·exact absurd rfl h1
 ·rw [JdH l k hk] at h;by_cases h0:Xc l[k]=0
  ·rw [if_neg (by simpa using h0)] at h;exact .inr ⟨h0,h⟩
  ·rw [if_pos h0] at h;exact .inl ⟨h0,h⟩
theorem JbH.done {l:List En} {CP x:Int} {k:Nat} (h:JbH l CP x k) (hx:x≠0∨l.length≤k):x=CP:=by
 rcases h with ⟨_,h1⟩ | ⟨h0,h1⟩
 ·exact h1
 ·rcases hx with hx | hx
  ·exact absurd h0 hx
  ·rw [List.drop_eq_nil_of_le hx] at h1;rw [h0, ←h1];rfl
theorem JmJ (s:Sh) (l:List En):(J7 s≠0→JbH l (Ye s l) (J7 s) 0)∧(J7 s=0→12<l.length→JbH l (Ye s l) 2 0)∧(J7 s=0→¬ 12<l.length→JbH l (Ye s l) 0 0):=by
 unfold Ye JbH;refine ⟨fun h=>.inl ⟨h,by rw [if_pos h]⟩,fun h h2=>.inl ⟨by decide,by rw [if_neg (by simpa using h),if_pos h2]⟩,fun h h2=>.inr ⟨rfl,by rw [if_neg (by simpa using h),if_neg h2];rfl⟩⟩
set_option maxRecDepth 8000 in
theorem Jir (w:World) (ev rv v:Value) (s:Sh) (l:List En) (id:List UInt8) (read:Bool) (he:Jh w ev s.es.length 5 (Je s.es)) (hr:Jh w rv s.rd.length 1 (Jq s.rd)) (hv:Jh w v l.length 5 (Je l)) (hf: ∀ x∈s.es,Xh x) (hfl: ∀ x∈l,Xh x) (hrl: ∀ x∈s.rd,x.length≤maxLen) (hid:id.length≤maxLen) (hM:JW w):
  Calls Tryz.prog 9 #[.agg #[ev,rv],v,.string ⟨id.toArray⟩,.bool read] w fun e w'=>e=.returned (.bool true)∧Jb [] w w':=by
 have nn: ∀ g,g∉([]:List Nat):=fun _=>List.not_mem_nil;obtain ⟨es,rd⟩:=s;simp only at he hr hf hrl;obtain ⟨eo,ec,rfl,g1,g2⟩:=he.form;obtain ⟨ro,rc,rfl,g3,g4⟩:=hr.form;obtain ⟨lo,lc,rfl,g5,g6⟩:=hv.form;unfold maxLen at g2 g4 g6;obtain ⟨W,hW⟩: ∃ W,w.alloc (.cells #[.slice eo es.length ec,.slice ro rd.length rc] 64)=W:=⟨_,rfl⟩;have hkW:Jb [] w W:=by rw [←hW];exact (Jb.refl [] w).alloc _
 have hb:=(Qb rfl hW).1;have b0:W.cell? ⟨w.heap.size,0,none⟩=some (.slice eo es.length ec):=Jd hb 0;have b1:W.cell? ⟨w.heap.size,1,none⟩=some (.slice ro rd.length rc):=Jd hb 1;have hE:=he.keeps hkW;have hR:=hr.keeps hkW;have hL:=hv.keeps hkW;have hMW:=hM.keeps hkW (nn _);have P41:=Ja (fun w1 (hk:Jb [] W w1)=>Jp5 w1 _ _ ⟨es,rd⟩ (hE.keeps hk) (hR.keeps hk) hf (hMW.keeps hk (nn _)) _ l (hL.keeps hk) hfl);have P42:=Ja (fun w1 (hk:Jb [] W w1)=>Jnb w1 _ _ ⟨es,rd⟩ (hE.keeps hk) (hR.keeps hk) hf (hMW.keeps hk (nn _)) id read);have P43:=Ja (fun w1 (hk:Jb [] W w1)=>JmR w1 _ _ ⟨es,rd⟩ (hE.keeps hk) (hR.keeps hk) hf (hMW.keeps hk (nn _)));have P44:=Ja (fun w1 (hk:Jb [] W w1)=>Jk0 w1 _ _ ⟨es,rd⟩ (hE.keeps hk) (hR.keeps hk) hf (hMW.keeps hk (nn _)));have R45:=Ja (fun w1 (hk:Jb [] W w1)=>JkF w1 _ _ ⟨es,rd⟩ (hE.keeps hk) (hR.keeps hk) hf hrl);have R46:=Ja (fun k (hk:k<l.length) w1=>JkE l[k] w1 (hfl _ (List.getElem_mem hk)));have R47:=Ja (fun (h0:Ye ⟨es,rd⟩ l=0) w1 (hk:Jb [] W w1)=>show Calls Tryz.prog 47 #[.agg #[.slice eo es.length ec,.slice ro rd.length rc],.slice lo l.length lc] w1 fun e w'=> ∃ ev' rv',e=.returned (.tuple #[.agg #[ev',rv'],.int .i64 (Ql (Qy es l) es)])∧Jh w' ev' (Qy es l).length 5 (Je (Qy es l))∧Jh w' rv' rd.length 1 (Jq rd)∧Jb [] w1 w' from by
  obtain ⟨hc1,hc2,_⟩:=Jf9 h0;obtain ⟨hp1,_,_,_⟩:=Xv hc1;obtain ⟨hs1,hs2⟩:=Jga hc1;exact Jil w1 _ _ _ ⟨es,rd⟩ l (hE.keeps hk) (hR.keeps hk) (hL.keeps hk) hf hfl hp1 hc2 hs1 hs2)
 have R48:=Ja (fun (h0:J7 ⟨es,rd⟩=0) w1 (hk:Jb [] W w1)=>Jnd w1 _ _ ⟨es,rd⟩ id read (hE.keeps hk) (hR.keeps hk) (Xv h0).2.1 hid hrl);have R49:=Ja (fun (h0:J7 ⟨es,rd⟩=0) w1 (hk:Jb [] W w1)=>Jk2 w1 _ _ ⟨es,rd⟩ (hE.keeps hk) (hR.keeps hk) (Xv h0).1);have B50:=Ja (fun w1 (hk:Jb [] W w1)=>Jiq w1 (hMW.keeps hk (nn _)));have P51:=Ja (fun w1 (hk:Jb [] W w1)=>Jau w1 _ _ ⟨es,rd⟩ (hE.keeps hk) (hR.keeps hk) hf (hMW.keeps hk (nn _)));have hcs:=JmJ ⟨es,rd⟩ l;have hbm:=fun (h0:J7 ⟨es,rd⟩=0)=>Joe (id:=id) (read:=read) h0;have hbn:J7 ⟨es,rd⟩≠0→XM ⟨es,rd⟩ id read=J7 ⟨es,rd⟩:=fun h=>by unfold XM;rw [if_pos h]
 obtain ⟨BM,hBM⟩: ∃ BM,Jgy ⟨es,rd⟩ id read=BM:=⟨_,rfl⟩;rw [hBM] at hbm R48;obtain ⟨U,hU⟩: ∃ U,JS es rd=U:=⟨_,rfl⟩;have hUl:J7 ⟨es,rd⟩=0→U.length≤20:=fun h0=>by
  have h9:=(Xv h0).1;have h8:(JS es rd).length≤es.length:=List.length_filter_le _ _;rw [hU] at h8;simp only at h9;omega
 simp only [hU] at P43 P44 R49;generalize J7 ⟨es,rd⟩=C0 at *;generalize Ye ⟨es,rd⟩ l=CP at *;generalize XM ⟨es,rd⟩ id read=CM at *;obtain ⟨ON,hON⟩: ∃ ON,Ql (Qy es l) es=ON:=⟨_,rfl⟩;rw [hON] at R47;simp only [hON] at P41;obtain ⟨SV,hSV⟩: ∃ SV,Qy es l=SV:=⟨_,rfl⟩;rw [hSV] at R47;simp only [hSV] at P41;obtain ⟨MK,hMK⟩: ∃ MK,XE rd id read=MK:=⟨_,rfl⟩;simp only [hMK] at P42 R48;have HCS:=Ja hcs;have HBM:=Ja hbm;have HBN:=Ja hbn;have HUl:=Ja hUl;have HL:=Ja hL;have HRD:=Ja hR;have HB4:=Ja hb;have HKW:=Ja hkW;have HW:=Ja hW;clear he hr hv hf hfl hrl hid hM hE hR hL hMW hkW hb hW hcs hbm hbn hUl hBM hU hON hSV hMK;go_enter Tryz.func9,Tryz.ntmps9;go_upto_region 1 with fail;rw [HW.out];go_wp2_with fail;refine (P41.out W (Jb.refl _ _)).mono ?_;rintro e w1 ⟨e1,r1,n1,rfl,hA1,hk1⟩;obtain ⟨⟨eo1,en1,ec1,rfl⟩,⟨ro1,rn1,rc1,rfl⟩⟩:=hA1.2.2;obtain ⟨W1,hW1⟩: ∃ W1,w1.alloc (.cells #[.slice eo1 en1 ec1,.slice ro1 rn1 rc1] 64)=W1:=⟨_,rfl⟩;have kW1:Jb [] w1 W1:=by rw [←hW1];exact (Jb.refl [] w1).alloc _
 have HA1:=Ja (hA1.keeps kW1);have HB9:=Ja (Qb rfl hW1).1;have HK1:=Ja (hk1.trans kW1);have x0:=Jc HK1.out b0;have x1:=Jc HK1.out b1;have HX1:=Ja hW1;clear hA1 hk1 kW1 hW1 P41;go_upto_region 2 with fail;rw [HX1.out];go_wp2_with fail;refine (P42.out W1 HK1.out).mono ?_;rintro e w2 ⟨e2,r2,rfl,hA2,hk2⟩;obtain ⟨⟨eo2,en2,ec2,rfl⟩,⟨ro2,rn2,rc2,rfl⟩⟩:=hA2.2.2;obtain ⟨W2,hW2⟩: ∃ W2,w2.alloc (.cells #[.slice eo2 en2 ec2,.slice ro2 rn2 rc2] 64)=W2:=⟨_,rfl⟩;have kW2:Jb [] w2 W2:=by rw [←hW2];exact (Jb.refl [] w2).alloc _
 have k12:=hk2.trans kW2;have HA1:=Ja (HA1.out.keeps k12);have HB9:=Ja ((k12.block _ (lt_of_block HB9.out) (nn _)).trans HB9.out);have HA2:=Ja (hA2.keeps kW2);have HB12:=Ja (Qb rfl hW2).1;have HK2:=Ja (HK1.out.trans k12);have y0:=Jc HK2.out b0;have y1:=Jc HK2.out b1;have HX2:=Ja hW2;clear hA2 hk2 kW2 hW2 k12 P42 x0 x1;go_upto_region 3 with fail;rw [HX2.out];go_wp2_with fail;refine (P43.out W2 HK2.out).mono ?_;rintro e w3 ⟨e3,r3,n3,rfl,hA3,hk3⟩;obtain ⟨⟨eo3,en3,ec3,rfl⟩,⟨ro3,rn3,rc3,rfl⟩⟩:=hA3.2.2;obtain ⟨W3,hW3⟩: ∃ W3,w3.alloc (.cells #[.slice eo3 en3 ec3,.slice ro3 rn3 rc3] 64)=W3:=⟨_,rfl⟩;have kW3:Jb [] w3 W3:=by rw [←hW3];exact (Jb.refl [] w3).alloc _
 have k23:=hk3.trans kW3;have HA1:=Ja (HA1.out.keeps k23);have HA2:=Ja (HA2.out.keeps k23);have HB9:=Ja ((k23.block _ (lt_of_block HB9.out) (nn _)).trans HB9.out);have HB12:=Ja ((k23.block _ (lt_of_block HB12.out) (nn _)).trans HB12.out);have HA3:=Ja (hA3.keeps kW3);have HB14:=Ja (Qb rfl hW3).1;have HK3:=Ja (HK2.out.trans k23);have z0:=Jc HK3.out b0;have z1:=Jc HK3.out b1;have HX3:=Ja hW3;clear hA3 hk3 kW3 hW3 k23 P43 y0 y1;go_upto_region 4 with fail;rw [HX3.out];go_wp2_with fail;refine (P44.out W3 HK3.out).mono ?_;rintro e w4 ⟨u4,rfl,hu4,hk4⟩;obtain ⟨uo,un,uc,rfl⟩:=hu4.sl;have HK4:=Ja (HK3.out.trans hk4);have x0:=Jc HK4.out b0;have x1:=Jc HK4.out b1;have HU4:=Ja hu4;have HK34:=Ja hk4;clear hu4 hk4 P44 z0 z1;go_wp2_with fail;refine (R45.out w4 HK4.out).mono ?_;rintro e w5 ⟨rfl,hk5⟩;have k35:=HK34.out.trans hk5;have HA1:=Ja (HA1.out.keeps k35);have HA2:=Ja (HA2.out.keeps k35);have HA3:=Ja (HA3.out.keeps k35);have HB9:=Ja ((k35.block _ (lt_of_block HB9.out) (nn _)).trans HB9.out);have HB12:=Ja ((k35.block _ (lt_of_block HB12.out) (nn _)).trans HB12.out);have HB14:=Ja ((k35.block _ (lt_of_block HB14.out) (nn _)).trans HB14.out);have HU4:=Ja (HU4.out.keeps hk5);have HK5:=Ja (HK4.out.trans hk5);clear hk5 k35 R45 x0 x1 HK34 HX1 HX2 HX3 HK1 HK2 HK3 HK4;go_upto_region 7 with fail
 go_cut [66] from 60 to 66 (fun b wx=>b=.bool (decide (C0=0)&&decide (12<l.length))∧w5=wx)
 case first=>
  by_cases h0:C0=0
  ·subst h0;by_cases h12:12<l.length
   ·have hd:decide ((12:Int)<(l.length:Int))=true:=by simp;omega
    have hd2:decide (12<l.length)=true:=decide_eq_true h12;go_wp2_with fail;go_meet;exact ⟨by simp [h12],rfl⟩
   ·have hd:decide ((12:Int)<(l.length:Int))=false:=by simp;omega
    have hd2:decide (12<l.length)=false:=decide_eq_false h12;go_wp2_with fail;go_meet;exact ⟨by simp [h12],rfl⟩
  ·have hc:(C0==0)=false:=by simpa using h0
   have hd2:decide (C0=0)=false:=decide_eq_false h0;go_wp2_with fail;go_meet;exact ⟨by simp [h0],rfl⟩
 case rest=>
  obtain ⟨rfl,h9⟩:=hcut;obtain rfl:w5=wc:=h9;go_upto_if 66 with fail
  go_cut [20] (fun v20 wx=> ∃ q:Int,v20=.int .i64 q∧Hid (JbH l CP q 0)∧w5=wx)
  case first=>
   by_cases h:C0=0∧12<l.length
   ·have hB:(decide (C0=0)&&decide (12<l.length))=true:=by simp [h.1,h.2]
    have hq:=Ja (HCS.out.2.1 h.1 h.2);rw [hB];clear h hB;go_wp2_with fail;go_meet;exact ⟨2,rfl,hq,rfl⟩
   ·have hB:(decide (C0=0)&&decide (12<l.length))=false:=by
     rw [Bool.eq_false_iff];intro h9;simp at h9;exact h ⟨h9.1,h9.2⟩
    have hq:Hid (JbH l CP C0 0):=by
     by_cases h0:C0=0
     ·have h9:=HCS.out.2.2 h0 (fun h12=>h ⟨h0,h12⟩);rw [h0];exact Ja h9
     ·exact Ja (HCS.out.1 h0)
    rw [hB];clear h hB;go_wp2_with fail;go_meet;exact ⟨C0,rfl,hq,rfl⟩
  case rest=>
   obtain ⟨q,rfl,HQ,h9⟩:=hcut;obtain rfl:w5=wc:=h9;go_upto_block 0 with fail
   go_cut [20] (fun v20 wx=>v20=.int .i64 CP∧Hid (Jb [] w5 wx))
   case first=>
    go_wp2_with fail;go_loopw [20,22] (fun v20 i wr=> ∃ (k:Nat) (x:Int),v20=.int .i64 x∧i=.int .i64 k∧k≤l.length∧Hid (Jb [] w5 wr)∧Hid (JbH l CP x k)) (fun _ i _=>l.length - (intOf i).toNat)
    case atStart=>exact ⟨0,q,rfl,rfl,Nat.zero_le _,Ja (Jb.refl _ _),HQ⟩
    case round=>
     obtain ⟨k,x,rfl,rfl,hk,hkr,hC⟩:=hrel;clear HQ;by_cases hlt:k<l.length
     ·by_cases hx:x=0
      ·subst hx;obtain ⟨g,o0,hlo,hc⟩:=HL.out.addr (by omega)
       first | subst hlo | (cases hlo)
       obtain ⟨a0,a1,a2,a3,a4⟩:=Qs hc k hlt;have hkw:=HK5.out.trans hkr.out;have a0:=Jc hkw a0;have a1:=Jc hkw a1;have a2:=Jc hkw a2;have a3:=Jc hkw a3;have a4:=Jc hkw a4;have h46:=Ja (R46.out k hlt wr);unfold Jo at h46;have hst:=Ja (JbH.step hlt hC.out);have b3:(0:Int)≤(k:Int):=by omega
       have b4:(k:Int)<(l.length:Int):=by omega
       clear hc hkw hC;generalize l[k]=y at *;obtain ⟨CE,hCE⟩: ∃ CE,Xc y=CE:=⟨_,rfl⟩;rw [hCE] at h46 hst;clear hCE;go_wp2_with fail;refine h46.out.mono ?_;rintro e w6 ⟨rfl,hk6⟩;have HKR:=Ja (hkr.out.trans hk6);clear hk6 hkr;go_wp2_with fail;go_roundw
       case rel=>exact ⟨k+1,CE,rfl,by go_num,by omega,HKR,hst⟩
       case measure=>simp [intOf];omega
      ·have hxb:(x==0)=false:=by simpa using hx
       have hd:=Ja (hC.out.done (.inl hx));clear hx hC;go_wp2_with fail;go_meet;exact ⟨by rw [hd.out],hkr⟩
     ·have hd:=Ja (hC.out.done (.inr (by omega)));clear hC;go_wp2_with fail;go_meet;exact ⟨by rw [hd.out],hkr⟩
   case rest=>
    obtain ⟨rfl,HK6⟩:=hcut;obtain ⟨w6,hw6⟩: ∃ w6,w6=wc:=⟨_,rfl⟩;subst hw6;have HA1:=Ja (HA1.out.keeps HK6.out);have HA2:=Ja (HA2.out.keeps HK6.out);have HA3:=Ja (HA3.out.keeps HK6.out);have HB9:=Ja ((HK6.out.block _ (lt_of_block HB9.out) (nn _)).trans HB9.out);have HB12:=Ja ((HK6.out.block _ (lt_of_block HB12.out) (nn _)).trans HB12.out);have HB14:=Ja ((HK6.out.block _ (lt_of_block HB14.out) (nn _)).trans HB14.out);have HU4:=Ja (HU4.out.keeps HK6.out);have HK5:=Ja (HK5.out.trans HK6.out);have l9:=lt_of_block HB9.out;have l12:=lt_of_block HB12.out;have l14:=lt_of_block HB14.out;have lW:=HK5.out.size;have l4:=lt_of_block HB4.out;go_upto_region 16 with fail;obtain ⟨W6,hW6⟩: ∃ W6,((w6.alloc (.cells #[.slice none 0 0,.slice none 0 0] 64)).alloc (.cells #[.slice none 0 0,.slice none 0 0] 64)).alloc (.cells #[.slice none 0 0,.slice none 0 0] 64)=W6:=⟨_,rfl⟩;rw [hW6];have kW6:Jb [] w6 W6:=by rw [←hW6];exact (((Jb.refl [] w6).alloc _).alloc _).alloc _
    have HB23:Hid (W6.heap[w6.heap.size]?=some (.cells #[.slice none 0 0,.slice none 0 0] 64 (0,0))):=Ja (by rw [←hW6,heap_alloc_old _ _ (by simp;omega)];exact Yi w6 _ _);have HB24:Hid (W6.heap[w6.heap.size+1]?=some (.cells #[.slice none 0 0,.slice none 0 0] 64 (0,0))):=Ja (by rw [←hW6,heap_alloc_old _ _ (by simp)];exact Yj w6 _ _);have HB25:Hid (W6.heap[w6.heap.size+2]?=some (.cells #[.slice none 0 0,.slice none 0 0] 64 (0,0))):=Ja (by rw [←hW6];have h9:=Yj (w6.alloc (.cells #[.slice none 0 0,.slice none 0 0] 64)) (.cells #[.slice none 0 0,.slice none 0 0] 64) (.cells #[.slice none 0 0,.slice none 0 0] 64);simpa using h9);have HA1:=Ja (HA1.out.keeps kW6);have HA2:=Ja (HA2.out.keeps kW6);have HA3:=Ja (HA3.out.keeps kW6);have HB9:=Ja ((kW6.block _ (lt_of_block HB9.out) (nn _)).trans HB9.out);have HB12:=Ja ((kW6.block _ (lt_of_block HB12.out) (nn _)).trans HB12.out);have HB14:=Ja ((kW6.block _ (lt_of_block HB14.out) (nn _)).trans HB14.out);have HU4:=Ja (HU4.out.keeps kW6);have HK5:=Ja (HK5.out.trans kW6);have x0:=Jc HK5.out b0;have x1:=Jc HK5.out b1;have hsz6:w6.heap.size+3=W6.heap.size:=by rw [←hW6];simp
    clear hW6 kW6 HK6 HQ HCS;go_upto_if 83 with fail
    go_cut [26] (fun v26 wx=> ∃ (q1:Option Addr) (m1 d1:Nat) (q2:Option Addr) (m2 d2:Nat) (n:Int),v26=.int .i64 n∧Hid (wx.heap[w6.heap.size]?=some (.cells #[.slice q1 m1 d1,.slice q2 m2 d2] 64 (0,0)))∧Hid (JaV wx (.slice q1 m1 d1) (.slice q2 m2 d2) n CP ⟨SV,rd⟩ ON)∧Hid (Jb [w6.heap.size] W6 wx))
    case first=>
     by_cases hc:CP=0
     ·have hcb:(CP==0)=true:=by simp [hc]
      have h47:=Ja (R47.out hc W6 HK5.out);clear hc;go_wp2_with fail;refine h47.out.mono ?_;rintro e w7 ⟨e7,r7,rfl,hl7,hr7,hk7⟩;obtain ⟨q1,m1,d1,rfl⟩:=hl7.sl;obtain ⟨q2,m2,d2,rfl⟩:=hr7.sl;have hb7:=(hk7.block _ (lt_of_block HB23.out) (nn _)).trans HB23.out;have f0:=Jn hb7 0;have f1:=Jn hb7 1;have z0:=Jd hb7 0;have z1:=Jd hb7 1;simp at z0 z1;have HL7:=Ja hl7;have HR7:=Ja hr7;have HK7:=Ja hk7;have HB7:=Ja hb7;have hks:=Ja (Qx w7 w6.heap.size (.slice q1 m1 d1) (.slice q2 m2 d2));have hbn:=Ja (QV (.slice q1 m1 d1) (.slice q2 m2 d2) hb7);clear hl7 hr7 hk7 hb7 h47;go_wp2_with fail;go_meet;exact ⟨q1,m1,d1,q2,m2,d2,ON,rfl,hbn,Ja ⟨fun _=>⟨XX HL7.out (Jd5 _) HB7.out (XY _ _ _ _ _ _) hks.out,XX HR7.out (JaY _) HB7.out (XY _ _ _ _ _ _) hks.out,rfl⟩,⟨_,_,_,rfl⟩,⟨_,_,_,rfl⟩⟩,Ja (HK7.out.up.trans hks.out)⟩
     ·have hcb:(CP==0)=false:=by simpa using hc
      have hq:=Ja (show JaV W6 (.slice none 0 0) (.slice none 0 0) 0 CP ⟨SV,rd⟩ ON from ⟨fun h=>absurd h hc,Jck,Jck⟩);clear hc;go_wp2_with fail;go_meet;exact ⟨none,0,0,none,0,0,0,rfl,HB23,hq,Ja (Jb.refl _ _)⟩
    case rest=>
     obtain ⟨q1,m1,d1,q2,m2,d2,nP,rfl,HB23n,HAP,HKE⟩:=hcut;obtain ⟨w7,hw7⟩: ∃ w7,w7=wc:=⟨_,rfl⟩;subst hw7;have HA1:=Ja (HA1.out.apart HB23.out (XY _ _ _ _ _ _) HKE.out);have HA2:=Ja (HA2.out.apart HB23.out (XY _ _ _ _ _ _) HKE.out);have HA3:=Ja (HA3.out.apart HB23.out (XY _ _ _ _ _ _) HKE.out);have HB9:=Ja ((HKE.out.block _ (lt_of_block HB9.out) (by simp;omega)).trans HB9.out);have HB12:=Ja ((HKE.out.block _ (lt_of_block HB12.out) (by simp;omega)).trans HB12.out);have HB14:=Ja ((HKE.out.block _ (lt_of_block HB14.out) (by simp;omega)).trans HB14.out);have HU4:=Ja (XX HU4.out (JaY _) HB23.out (XY _ _ _ _ _ _) HKE.out);have HB24:=Ja ((HKE.out.block _ (lt_of_block HB24.out) (by simp)).trans HB24.out);have HB25:=Ja ((HKE.out.block _ (lt_of_block HB25.out) (by simp)).trans HB25.out);have x0:=JE HKE.out (a:=⟨w.heap.size,0,none⟩) (by simp;omega) x0;have x1:=JE HKE.out (a:=⟨w.heap.size,1,none⟩) (by simp;omega) x1;have HK7:=Ja (JF HK5.out HKE.out (fun g hg hlt=>by simp at hg;omega));clear HB23 HKE R47 HK5;go_upto_if 91 with fail;obtain ⟨IDS,hIDS⟩: ∃ IDS,(if C0=0 then U.map (·.id) else [])=IDS:=⟨_,rfl⟩;have HIDS:=Ja hIDS;rw [hIDS] at HU4;clear hIDS
     go_cut [21,27,28] (fun v21 v27 v28 wx=> ∃ (q1:Option Addr) (m1 d1:Nat) (q2:Option Addr) (m2 d2:Nat) (q3:Option Addr) (m3 d3:Nat) (q4:Option Addr) (m4 d4:Nat) (q5:Option Addr) (m5 d5:Nat) (n:Int),v21=.int .i64 CM∧v27=.int .i64 n∧v28=.slice q5 m5 d5∧Hid (wx.heap[w6.heap.size+1]?=some (.cells #[.slice q1 m1 d1,.slice q2 m2 d2] 64 (0,0)))∧Hid (JaV wx (.slice q1 m1 d1) (.slice q2 m2 d2) 0 CM ⟨es,MK⟩ 0)∧Hid (wx.heap[w6.heap.size+2]?=some (.cells #[.slice q3 m3 d3,.slice q4 m4 d4] 64 (0,0)))∧Hid (JaV wx (.slice q3 m3 d3) (.slice q4 m4 d4) n C0 ⟨U,rd⟩ ((es.length:Int) - (U.length:Int)))∧Hid (Jh wx (.slice q5 m5 d5) IDS.length 1 (Jq IDS))∧Hid (∃ wy,Jb [w6.heap.size+1] w7 wy∧wy.heap[w6.heap.size+2]?=some (.cells #[.slice none 0 0,.slice none 0 0] 64 (0,0))∧Jb [w6.heap.size+2] wy wx))
     case first=>
      by_cases h0:C0=0
      ·have hcb:(C0==0)=true:=by simp [h0]
       have h48:=Ja (R48.out h0 w7 HK7.out);have h49:=Ja (R49.out h0);have hbm:=Ja (HBM.out h0);have hUl:=HUl.out h0;have hids:=Ja (show U.map (·.id)=IDS from by rw [←HIDS.out,if_pos h0]);clear h0 R48 R49;go_wp2_with fail;refine h48.out.mono ?_;rintro e w8 ⟨e8,r8,rfl,hl8,⟨q1,m1,d1,q2,m2,d2,rfl,rfl⟩,hk8⟩;have hb8:=(hk8.block _ (lt_of_block HB24.out) (nn _)).trans HB24.out;have hb85:=(hk8.block _ (lt_of_block HB25.out) (nn _)).trans HB25.out;have f0:=Jn hb8 0;have f1:=Jn hb8 1;have z0:=Jd hb8 0;have z1:=Jd hb8 1;simp at z0 z1;have hbk:=QV (.slice q1 m1 d1) (.slice q2 m2 d2) hb8;have hks:=Qx w8 (w6.heap.size+1) (.slice q1 m1 d1) (.slice q2 m2 d2);obtain ⟨W8,hW8⟩: ∃ W8,(w8.setCell ⟨w6.heap.size+1,0,none⟩ (.slice q1 m1 d1)).setCell ⟨w6.heap.size+1,1,none⟩ (.slice q2 m2 d2)=W8:=⟨_,rfl⟩;rw [hW8] at hbk hks;have HM8:Hid (JaV W8 (.slice q1 m1 d1) (.slice q2 m2 d2) 0 CM ⟨es,MK⟩ 0):=Ja ⟨fun h=>by
        rw [hbm.out] at h;obtain ⟨g1,g2⟩:=hl8 h;exact ⟨XX g1 (Jd5 _) hb8 (XY _ _ _ _ _ _) hks,XX g2 (JaY _) hb8 (XY _ _ _ _ _ _) hks,rfl⟩,⟨_,_,_,rfl⟩,⟨_,_,_,rfl⟩⟩
       have HB8:=Ja hbk;have HB85:=Ja ((hks.block _ (lt_of_block hb85) (by simp)).trans hb85);have l25:=lt_of_block HB85.out;have HY8:=Ja (hk8.up.trans hks:Jb [w6.heap.size+1] w7 W8);have HK8:=Ja (JF (HK7.out.trans hk8) hks (fun g hg hlt=>by simp at hg;omega));have x0:=JE hks (a:=⟨w.heap.size,0,none⟩) (by simp;omega) (Jc hk8 x0);have x1:=JE hks (a:=⟨w.heap.size,1,none⟩) (by simp;omega) (Jc hk8 x1);have HW8:=Ja hW8;have h49:=Ja (h49.out W8 HK8.out);clear hl8 hk8 hb8 hb85 hbk hks hW8 h48;go_upto_region 20 with fail;rw [HW8.out];clear f0 f1 z0 z1;go_wp2_with fail;refine h49.out.mono ?_;rintro e w9 ⟨v9,rfl,hr9,hk9⟩;obtain ⟨o9,c9,rfl⟩:=Jg hr9;have hb9:=(hk9.block _ (lt_of_block HB85.out) (nn _)).trans HB85.out;have f0:=Jn hb9 0;have f1:=Jn hb9 1;have z0:=Jd hb9 0;have z1:=Jd hb9 1;simp at z0 z1;have x0:=Jc hk9 x0;have x1:=Jc hk9 x1;have HM9:=Ja (HM8.out.keeps hk9);have HB9x:=Ja ((hk9.block _ (lt_of_block HB8.out) (nn _)).trans HB8.out);have HB95:=Ja hb9;have HR9:=Ja hr9;have HY9:=Ja (HY8.out.trans hk9.up);have HK9:=Ja (HK8.out.trans hk9);have hEl:es.length≤9223372036854775807:=by omega
       clear hr9 hk9 hb9 h49 HB8 HB85 HM8 HY8 HK8 HW8;go_upto_region 21 with fail
       go_cut [27] from 101 to 110 (fun v27 wx=>v27=.int .i64 ((es.length:Int) - (U.length:Int))∧Hid (wx.heap[w6.heap.size+2]?=some (.cells #[.slice o9 U.length c9,.slice ro rd.length rc] 64 (0,0)))∧Hid (Jb [w6.heap.size+2] w9 wx))
       case first=>
        have hks:=Qx w9 (w6.heap.size+2) (.slice o9 U.length c9) (.slice ro rd.length rc);have hbk:=QV (.slice o9 U.length c9) (.slice ro rd.length rc) HB95.out;have hne:w.heap.size≠w6.heap.size+2:=by omega
        have hS0:SH [w6.heap.size+2] w9 w.heap.size (.slice eo es.length ec) (.slice ro rd.length rc) w9:=⟨Jb.refl _ _,x0,x1⟩;have HKS:=Ja hks;have HBK:=Ja hbk;have hwr:IntKind.i64.wrap ((es.length:Int) - (U.length:Int))=(es.length:Int) - (U.length:Int):=by rw [IntKind.wrap_i64];omega
        clear hks hbk
        go_region_held3 (SH [w6.heap.size+2] w9 w.heap.size (.slice eo es.length ec) (.slice ro rd.length rc)) ((first | assumption | (refine SH.of (by simp;omega) x0 x1 ?_;first | exact (Jb.refl _ w9) | exact (Jb.refl _ w9).drew | exact HKS.out | exact HKS.out.drew | exact (‹SH [w6.heap.size+2] w9 _ _ _ _›).1.drewN _)))
         (fail)
        all_goals go_wp2_with fail
        all_goals go_meet
        all_goals exact ⟨rfl,Ja HBK.out,Ja HKS.out.drew⟩
       case rest=>
        obtain ⟨rfl,HB10,HK10⟩:=hcut;obtain ⟨w10,hw10⟩: ∃ w10,w10=wc:=⟨_,rfl⟩;subst hw10;have HR10:=Ja (HK10.out.owns HR9.out (fun g hg hm=>by have:=(HR9.out.lt g hg).1;simp at hm;omega));have HM10:=Ja (HM9.out.apart HB95.out (XY _ _ _ _ _ _) HK10.out);have HB24x:=Ja ((HK10.out.block _ (lt_of_block HB9x.out) (by simp)).trans HB9x.out);have HKw:=Ja (JF HK9.out HK10.out (fun g hg hlt=>by simp at hg;omega));have HD10:Hid (JaV w10 (.slice o9 U.length c9) (.slice ro rd.length rc) ((es.length:Int) - (U.length:Int)) C0 ⟨U,rd⟩ ((es.length:Int) - (U.length:Int))):=Ja ⟨fun _=>⟨Jh.of_row HR10.out,HRD.out.keeps HKw.out,rfl⟩,⟨_,_,_,rfl⟩,⟨_,_,_,rfl⟩⟩;have HY10:=Ja (⟨w9,HY9.out,HB95.out,HK10.out⟩: ∃ wy,Jb [w6.heap.size+1] w7 wy∧wy.heap[w6.heap.size+2]?=some (.cells #[.slice none 0 0,.slice none 0 0] 64 (0,0))∧Jb [w6.heap.size+2] wy w10);obtain ⟨i0,hi,hz0,hz1,hz2⟩:=info_parts Jcg;clear HM9 HB95 HB9x HK10 HR9 HY9 HK9 HKw f0 f1 z0 z1 x0 x1 HK7 HB24 HB25;go_wp2_with fail;go_loopw [28,30] (fun v28 i wr=> ∃ k:Nat,i=.int .i64 k∧k≤U.length∧Hid (wr.ownsRow w10.heap.size 9 1 v28 k (Jq ((U.take k).map (·.id))))∧Hid (Jb [] w10 wr)) (fun _ i _=>U.length - (intOf i).toNat)
        case atStart=>exact ⟨0,rfl,Nat.zero_le _,Ja (World.ownsRow_nil _ _ _ _),Ja (Jb.refl _ _)⟩
        case round=>
         obtain ⟨k,rfl,hk,hrow,hkr⟩:=hrel;obtain ⟨vo,vc,rfl⟩:=Jg hrow.out;by_cases hlt:k<U.length
         ·obtain ⟨gu,ou,hpp,hcu⟩:=(Jh.of_row HR10.out).addr (by omega)
          first | subst hpp | (cases hpp)
          obtain ⟨s0,_,_,_,_⟩:=Qs hcu k hlt;have s0:=Jc hkr.out s0;have b3:(0:Int)≤(k:Int):=by omega
          have b4:(k:Int)<(U.length:Int):=by omega
          have hsn:(U.take (k+1)).map (·.id)=(U.take k).map (·.id)++[U[k].id]:=by rw [List.take_succ_eq_append_getElem hlt,List.map_append];rfl
          have HSN:=Ja hsn;have hszr:=hkr.out.size;clear hcu hsn;generalize U[k]=y at *;go_wp2_with (at_builtin;refine Jl _ rfl _ _ 62 rfl w10.heap.size 9 i0 _ 1 16 Tryz.underlying62 hi hz0 hz1 hz2 (by kernel_rfl) (by decide) (.slice vo k vc) k (Jq ((U.take k).map (·.id))) rfl (hrow.out.alloc _) ⟨wr.heap.size,0,none⟩ 1 1 [.string ⟨y.id.toArray⟩] rfl rfl (J9 wr #[.string ⟨y.id.toArray⟩] 9) (by intro u hu;simp at hu;subst hu;rfl) (by unfold maxLen;omega) (by omega) (by simp;omega) ?_);intro v11 w11 ho11 hg11 hw11;obtain ⟨o11,c11,hv11⟩:=Jg ho11;subst hv11;have hk11:Jb (Value.slice vo k vc).ownBlock.toList wr w11:=((Jb.refl _ wr).alloc _).grown hg11 (fun i e=>.inl (by simp [e]));have HK11:Hid (Jb [] w10 w11):=Ja ((hkr.out.up.trans hk11).mono (fun i hi hlt=>by have:=(hrow.out.lt i (by simpa using hi)).1;omega));have HO11:=Ja (show w11.ownsRow w10.heap.size 9 1 (.slice o11 (k+1) c11) (k+1) (Jq ((U.take (k+1)).map (·.id))) from by rw [HSN.out];simpa [Jq] using ho11);clear hk11 hg11 hw11 ho11 hrow hkr;go_wp2_with fail;go_roundw
          case rel=>exact ⟨k+1,by go_num,by omega,HO11,HK11⟩
          case measure=>simp [intOf];omega
         ·have hkU:k=U.length:=by omega
          have hut:(U.take k).map (·.id)=IDS:=by rw [List.take_of_length_le (by omega),hids.out]
          have hil:Jh wr (.slice vo k vc) IDS.length 1 (Jq IDS):=by
           have h9:=Jh.of_row hrow.out;rw [hut] at h9;have h8:IDS.length=k:=by rw [←hids.out,List.length_map,hkU]
           rw [h8];exact h9
          have HIL:=Ja hil;have H1:=Ja ((hkr.out.block _ (lt_of_block HB24x.out) (nn _)).trans HB24x.out);have H2:=Ja ((hkr.out.block _ (lt_of_block HB10.out) (nn _)).trans HB10.out);have H3:=Ja (HM10.out.keeps hkr.out);have H4:=Ja (HD10.out.keeps hkr.out);have H5:Hid (∃ wy,Jb [w6.heap.size+1] w7 wy∧wy.heap[w6.heap.size+2]?=some (.cells #[.slice none 0 0,.slice none 0 0] 64 (0,0))∧Jb [w6.heap.size+2] wy wr):=by
           obtain ⟨wy,j1,j2,j3⟩:=HY10.out;exact Ja ⟨wy,j1,j2,j3.trans hkr.out.up⟩
          clear hil hut hkU hrow hkr;go_wp2_with fail;go_meet;exact ⟨q1,m1,d1,q2,m2,d2,o9,U.length,c9,ro,rd.length,rc,vo,k,vc,_,by rw [hbm.out],rfl,rfl,H1,H3,H2,H4,HIL,H5⟩
      ·have hcb:(C0==0)=false:=by simpa using h0
       have hm:=HBN.out h0;have h1:=Ja (show JaV w7 (.slice none 0 0) (.slice none 0 0) 0 CM ⟨es,MK⟩ 0 from ⟨fun h=>absurd (hm.symm.trans h) h0,Jck,Jck⟩);have h2:=Ja (show JaV w7 (.slice none 0 0) (.slice none 0 0) 0 C0 ⟨U,rd⟩ ((es.length:Int) - (U.length:Int)) from ⟨fun h=>absurd h h0,Jck,Jck⟩);have h3:=Ja (show Jh w7 (.slice none 0 0) IDS.length 1 (Jq IDS) from by rw [←HIDS.out,if_neg h0];exact ⟨rfl,.inl ⟨rfl,rfl⟩⟩);have HM:=Ja hm;clear h0 hm;go_wp2_with fail;go_meet;exact ⟨none,0,0,none,0,0,none,0,0,none,0,0,none,0,0,0,by rw [HM.out],rfl,rfl,HB24,h1,HB25,h2,h3,Ja ⟨w7,Jb.refl _ _,HB25.out,Jb.refl _ _⟩⟩
     case rest=>
      obtain ⟨p1,m3,d3,p2,m4,d4,p3,m5,d5,p4,m6,d6,p5,m7,d7,nD,rfl,rfl,rfl,HB24n,HAM,HB25n,HAD,HIL,hky⟩:=hcut;obtain ⟨w11,hw11⟩: ∃ w11,w11=wc:=⟨_,rfl⟩;subst hw11;obtain ⟨wy,hk1,hbz,hk2⟩:=hky.out;have HA1:=Ja (HA1.out.apart HB24.out (XY _ _ _ _ _ _) hk1);have HA2:=Ja (HA2.out.apart HB24.out (XY _ _ _ _ _ _) hk1);have HA3:=Ja (HA3.out.apart HB24.out (XY _ _ _ _ _ _) hk1);have HB9:=Ja ((hk1.block _ (lt_of_block HB9.out) (by simp;omega)).trans HB9.out);have HB12:=Ja ((hk1.block _ (lt_of_block HB12.out) (by simp;omega)).trans HB12.out);have HB14:=Ja ((hk1.block _ (lt_of_block HB14.out) (by simp;omega)).trans HB14.out);have HU4:=Ja (XX HU4.out (JaY _) HB24.out (XY _ _ _ _ _ _) hk1);have HA1:=Ja (HA1.out.apart hbz (XY _ _ _ _ _ _) hk2);have HA2:=Ja (HA2.out.apart hbz (XY _ _ _ _ _ _) hk2);have HA3:=Ja (HA3.out.apart hbz (XY _ _ _ _ _ _) hk2);have HB9:=Ja ((hk2.block _ (lt_of_block HB9.out) (by simp;omega)).trans HB9.out);have HB12:=Ja ((hk2.block _ (lt_of_block HB12.out) (by simp;omega)).trans HB12.out);have HB14:=Ja ((hk2.block _ (lt_of_block HB14.out) (by simp;omega)).trans HB14.out);have HU4:=Ja (XX HU4.out (JaY _) hbz (XY _ _ _ _ _ _) hk2);have HAP:=Ja ((HAP.out.apart HB24.out (XY _ _ _ _ _ _) hk1).apart hbz (XY _ _ _ _ _ _) hk2);have HB23n:=Ja ((hk2.block _ (Nat.lt_of_lt_of_le (lt_of_block HB23n.out) hk1.size) (by simp)).trans ((hk1.block _ (lt_of_block HB23n.out) (by simp)).trans HB23n.out));have x0:=JE hk2 (a:=⟨w.heap.size,0,none⟩) (by simp;omega) (JE hk1 (a:=⟨w.heap.size,0,none⟩) (by simp;omega) x0);have x1:=JE hk2 (a:=⟨w.heap.size,1,none⟩) (by simp;omega) (JE hk1 (a:=⟨w.heap.size,1,none⟩) (by simp;omega) x1);have HK11:=Ja (JF (JF HK7.out hk1 (fun g hg hlt=>by simp at hg;omega)) hk2 (fun g hg hlt=>by simp at hg;omega));have hcc:(C0==C0)=true:=by simp
      have h50:=Ja (B50.out w11 HK11.out);clear HB24 HB25 hk1 hbz hk2 hky HK7 R48 R49;go_wp2_with fail;refine h50.out.mono ?_;rintro e w12 ⟨rfl,hk12⟩;have h51:=Ja (P51.out w12 (HK11.out.trans hk12));have x0:=Jc hk12 x0;have x1:=Jc hk12 x1;go_wp2_with fail;refine h51.out.mono ?_;rintro e w13 ⟨rfl,hk13⟩;have k13:=hk12.trans hk13;have a0:=Jz k13 HB9.out 0;have a1:=Jz k13 HB9.out 1;have c0:=Jz k13 HB23n.out 0;have c1:=Jz k13 HB23n.out 1;simp at a0 a1 c0 c1;have h52:=Ja (JdG w13 _ _ _ _ _ _ _ _ _ (HA1.out.keeps k13) (HAP.out.keeps k13));have HK13:=Ja k13;clear k13 hk12 hk13 h50 h51 x0 x1;go_wp2_with fail;refine h52.out.mono ?_;rintro e w14 ⟨rfl,hk14⟩;have k14:=HK13.out.trans hk14;have a0:=Jz k14 HB12.out 0;have a1:=Jz k14 HB12.out 1;have c0:=Jz k14 HB24n.out 0;have c1:=Jz k14 HB24n.out 1;simp at a0 a1 c0 c1;have h52:=Ja (JdG w14 _ _ _ _ _ _ _ _ _ (HA2.out.keeps k14) (HAM.out.keeps k14));have HK14:=Ja k14;clear k14 hk14 HK13;go_wp2_with fail;refine h52.out.mono ?_;rintro e w15 ⟨rfl,hk15⟩;have k15:=HK14.out.trans hk15;have a0:=Jz k15 HB14.out 0;have a1:=Jz k15 HB14.out 1;have c0:=Jz k15 HB25n.out 0;have c1:=Jz k15 HB25n.out 1;simp at a0 a1 c0 c1;have h52:=Ja (JdG w15 _ _ _ _ _ _ _ _ _ (HA3.out.keeps k15) (HAD.out.keeps k15));have HK15:=Ja k15;clear k15 hk15 HK14;go_wp2_with fail;refine h52.out.mono ?_;rintro e w16 ⟨rfl,hk16⟩;have k16:=HK15.out.trans hk16;have h53:=Ja (Jcv w16 _ _ IDS IDS (HU4.out.keeps k16) (HIL.out.keeps k16));simp only [decide_true] at h53;have HK16:=Ja (HK11.out.trans k16);clear k16 hk16 HK15 a0 a1 c0 c1;go_wp2_with fail;refine h53.out.mono ?_;rintro e w17 ⟨rfl,hk17⟩;go_wp2_with fail;go_ret;exact ⟨rfl,(HKW.out.trans HK16.out).trans hk17⟩
open Go.ChangeShapes Go.WideShapes Go.ChangeAt
open Go.ChangeMaps (open_string shut_string)
theorem Jrw:ownKnob Tryz.prog.godebug=none:=by kernel_rfl
theorem JgL:laidOutB Tryz.prog=true:=by kernel_rfl
theorem Jp4:mapsRowed Tryz.prog=true:=by kernel_rfl
theorem Jnw:(true==Tryz.prog.plainKeys)=true:=by kernel_rfl
theorem Jnv:Tryz.prog.stopsHeard=true:=by kernel_rfl
theorem Jnu:Tryz.prog.mayEnter=true:=by kernel_rfl
theorem JlI:(false==Tryz.prog.liftsFinal)=true:=by kernel_rfl
theorem Jp3:(Tryz.prog.make==some .cut)=true:=by kernel_rfl
theorem Jne (W:World) (h:W.ShapedOpen Tryz.prog):JW W:=Tryz.laysM143.s1_3 W h
end Go.Proofs.YtlcljanibjdejaaGreat
namespace Go.Proofs.YtlcljanibjdejaaGreat
open Go.RowKit Go.Maps Go.Deep
open Go.ChangeShapes Go.WideShapes Go.ChangeAt
theorem Jtm {α:Type} {l:List α} (h:l.length=5): ∃ a b c d e,l=[a,b,c,d,e]:=by
 match l,h with
 | [a,b,c,d,e],_=>exact ⟨a,b,c,d,e,rfl⟩
theorem JtC {α:Type} {l:List α} (h:l.length=2): ∃ a b,l=[a,b]:=by
 match l,h with
 | [a,b],_=>exact ⟨a,b,rfl⟩
section
variable {H:Type} {enc:TypeId × Value→H} {w:World} {base:Nat} {spare:Nat→Bool} {held:Bool}
set_option maxRecDepth 8000 in
theorem Jj9 {n:Nat} {v:Value} {x:DataW H × List MemPlace} (h:DataW.trod enc Tryz.prog w base spare held n 61 [v]=some x): ∃ l:List En,Jh w v l.length 5 (Je l)∧ ∀ y∈l,Xh y:=by
 rcases open_slice Tryz.underlying61 h with ⟨hv,_⟩ | ⟨a,len,cap,m,n',D,Pl,hv,_,hl,hm,hmm,rfl,hx⟩
 ·simp at hv;subst hv;exact ⟨[],⟨rfl,.inl ⟨rfl,rfl⟩⟩,by simp⟩
 ·simp at hv;subst hv;have hlm:len≤m:=by rw [hmm];split<;>omega
  have ce:Tryz.prog.cellsOf 75=5:=by kernel_rfl
  have c9:Tryz.prog.cellsOf 9=1:=by kernel_rfl
  have c3:Tryz.prog.cellsOf 3=1:=by kernel_rfl
  have each: ∀ i,i<len→ ∃ q:En,(∀ r,r<5→w.cell? (a.add (i * 5+r))=(Jo q)[r]?)∧Xh q:=by
   intro i hi;obtain ⟨cs',h1,h2⟩:=hx i (by omega);rw [ce] at h1;obtain ⟨_,hlen,hcell⟩:=World.cells?_some h1;obtain ⟨xs,k,hk,hxy,_,hxl,hf⟩:=DataW.trod_struct Tryz.underlying75 h2;have hxl5:xs.length=5:=hxl;clear hxl;obtain ⟨y0,y1,y2,y3,y4,rfl⟩:=Jtm hxl5;obtain ⟨v0,v1,v2,v3,v4,rfl⟩:=Jtm hlen;have g0:=hf 0 _ rfl;have g1:=hf 1 _ rfl;have g2:=hf 2 _ rfl;have g3:=hf 3 _ rfl;have g4:=hf 4 _ rfl;simp [c9,c3] at g0 g1 g2 g3 g4;obtain ⟨s0,e0,_,w0⟩:=DataW.trod_string Tryz.underlying9 g0;obtain ⟨s1,e1,_,w1⟩:=DataW.trod_string Tryz.underlying9 g1;obtain ⟨s2,e2,_,w2⟩:=DataW.trod_string Tryz.underlying9 g2;obtain ⟨n3,e3,_,_⟩:=DataW.trod_int Tryz.underlying3 g3;obtain ⟨s4,e4,_,w4⟩:=DataW.trod_string Tryz.underlying9 g4;simp at e0 e1 e2 e3 e4;subst e0 e1 e2 e3 e4;refine ⟨⟨s0.data.toList,s1.data.toList,s2.data.toList,n3,s4.data.toList⟩,?_,?_⟩
   ·intro r hr;have hc:=hcell r hr;rw [add_add] at hc;rw [hc]
    match r,hr with
    | 0,_=>simp [Jo]
    | 1,_=>simp [Jo]
    | 2,_=>simp [Jo]
    | 3,_=>simp [Jo]
    | 4,_=>simp [Jo]
   ·exact ⟨w0,w1,w2,w4⟩
  haveI:Inhabited En:=⟨⟨[],[],[],0,[]⟩⟩
  obtain ⟨q,hq⟩:=choose_lt each;refine ⟨(List.range len).map q,?_,?_⟩
  ·rw [List.length_map,List.length_range];refine Jmc (by decide) hl hm (by rw [Qu];simp) fun j u hj=>?_;have hj2:j<len * 5:=by
    have:=(List.getElem?_eq_some_iff.1 hj).1;rw [Qu] at this;simpa using this
   have hi:j / 5<((List.range len).map q).length:=by simp;omega
   have hi':j / 5<len:=by omega
   have hel:((List.range len).map q)[j / 5]=q (j / 5):=by simp
   have h8:=Jd3 ((List.range len).map q) (j / 5) (j % 5) hi (by omega);rw [show j / 5 * 5+j % 5=j from by omega,hj,hel] at h8;have h9:=(hq (j / 5) hi').1 (j % 5) (by omega);rw [show j / 5 * 5+j % 5=j from by omega] at h9;rw [h9, ←h8]
  ·intro y hy;obtain ⟨i,hi,rfl⟩:=List.mem_map.1 hy;exact (hq i (List.mem_range.1 hi)).2
end
open Go.ChangeShapes Go.WideShapes Go.ChangeAt
section
variable {H:Type} {enc:TypeId × Value→H} {w:World} {base:Nat} {spare:Nat→Bool} {held:Bool}
set_option maxRecDepth 8000 in
theorem JnR {n:Nat} {v:Value} {x:DataW H × List MemPlace} (h:DataW.trod enc Tryz.prog w base spare held n 62 [v]=some x): ∃ l:List (List UInt8),Jh w v l.length 1 (Jq l)∧ ∀ y∈l,y.length≤maxLen:=by
 rcases open_slice Tryz.underlying62 h with ⟨hv,_⟩ | ⟨a,len,cap,m,n',D,Pl,hv,_,hl,hm,hmm,rfl,hx⟩
 ·simp at hv;subst hv;exact ⟨[],⟨rfl,.inl ⟨rfl,rfl⟩⟩,by simp⟩
 ·simp at hv;subst hv;have hlm:len≤m:=by rw [hmm];split<;>omega
  have c9:Tryz.prog.cellsOf 9=1:=by kernel_rfl
  have each: ∀ i,i<len→ ∃ q:List UInt8,w.cell? (a.add i)=some (.string ⟨q.toArray⟩)∧q.length≤maxLen:=by
   intro i hi;obtain ⟨cs',h1,h2⟩:=hx i (by omega);rw [c9] at h1;obtain ⟨_,hlen,hcell⟩:=World.cells?_some h1;obtain ⟨s0,e0,_,w0⟩:=DataW.trod_string Tryz.underlying9 h2;subst e0;have hc:=hcell 0 (by omega);rw [add_add] at hc;refine ⟨s0.data.toList,by simpa using hc,?_⟩;exact w0
  obtain ⟨q,hq⟩:=choose_lt each;refine ⟨(List.range len).map q,?_,fun y hy=>by
   obtain ⟨i,hi,rfl⟩:=List.mem_map.1 hy;exact (hq i (List.mem_range.1 hi)).2⟩
  rw [List.length_map,List.length_range];refine Jmc (by decide) hl hm (by simp [Jq]) fun j u hj=>?_;have hj2:j<len:=by
   have:=(List.getElem?_eq_some_iff.1 hj).1;simpa [Jq] using this
  have hu:u=.string ⟨(q j).toArray⟩:=by
   simp [Jq,hj2] at hj;exact hj.symm
  rw [hu];exact (hq j hj2).1
set_option maxRecDepth 8000 in
theorem JsT {v:Value} {d:DataW H} {p:List MemPlace} {fuel:Nat} {b0:Nat} {r:Reach} (h64:Value.okWide Tryz.prog w r b0 64 v) (h:DataW.trod enc Tryz.prog w base spare held fuel 64 v.cells.toList=some (d,p)):
  ∃ (s:Sh) (ev rv:Value),v=.agg #[ev,rv]∧Jh w ev s.es.length 5 (Je s.es)∧Jh w rv s.rd.length 1 (Jq s.rd)∧(∀ x∈s.es,Xh x)∧ ∀ x∈s.rd,x.length≤maxLen:=by
 obtain ⟨cs,rfl,hcs⟩:=okWide_struct Tryz.underlying64 h64;have ce:Tryz.prog.cellsOf 64=2:=by kernel_rfl
 have c61:Tryz.prog.cellsOf 61=1:=by kernel_rfl
 have c62:Tryz.prog.cellsOf 62=1:=by kernel_rfl
 rw [ce] at hcs;obtain ⟨L,rfl⟩: ∃ L:List Value,cs=L.toArray:=⟨cs.toList,by simp⟩;have hlen:L.length=2:=by simpa using hcs
 obtain ⟨v0,v1,rfl⟩:=JtC hlen;obtain ⟨xs,k,hk,hxy,_,hxl,hf⟩:=DataW.trod_struct Tryz.underlying64 h;have hxl2:xs.length=2:=hxl;clear hxl;obtain ⟨y0,y1,rfl⟩:=JtC hxl2;have g0:=hf 0 _ rfl;have g1:=hf 1 _ rfl;simp [c61,c62,Value.cells] at g0 g1;obtain ⟨l,hl,hfl⟩:=Jj9 g0;obtain ⟨r,hr,hrl⟩:=JnR g1;exact ⟨⟨l,r⟩,v0,v1,rfl,hl,hr,hfl,hrl⟩
end
end Go.Proofs.YtlcljanibjdejaaGreat
namespace Go.Proofs.YtlcljanibjdejaaGreat
open Go.RowKit Go.Maps
open Go.ChangeShapes Go.WideShapes Go.ChangeAt
open Go.ChangeMaps (open_string shut_string)
set_option maxRecDepth 100000 in
theorem Jf4 (os:Os) (started:os.Started) (H:Type) (enc:TypeId × Value→H):
  ReturnsInHanded {} Tryz.checked os 9 .any (Rows.shelfTellsSpec.pre6 enc Tryz.prog Tryz.f9 Rows.shelfTellsRow.domain false) (Rows.shelfTellsSpec.post enc Tryz.prog Tryz.f9 false true false false):=by
 refine returnsInHanded_of_change_shaped (C:=Tryz.checked) Jrw started (by kernel_rfl) Tryz.func9
  (ChangeSpec.witness6 (enc:=enc) (C:=Tryz.checked) false ⟨#[],#[.agg #[.slice none 0 0,.slice none 0 0],.slice none 0 0,.string ByteArray.empty,.bool false],[]⟩ 8 (by kernel_rfl) (by kernel_rfl) (by kernel_rfl) (by kernel_rfl)) ?_
 intro W base args ds gs before hval0 hW hcnd hsz0 hsh _;have hM:JW W:=Jne W hsh;have hval: ∀ (j:Nat) t v,Tryz.f9.params[j]?=some t→args[j]?=some v→Value.okWide Tryz.prog W .any base t v:=hval0;have hW':=hW;obtain ⟨p,q,hA0,hV,rfl,hfz,hnd⟩:=hW;have hA:DataW.TrodAll enc Tryz.prog W 0 (fun _=>true) true Tryz.f9.params.toList args.toList ds p:=hA0;rw [Tryz.params9] at hA hval;obtain ⟨v0,v1,v2,v3,d0,d1,d2,d3,p0,p1,p2,p3,rfl,rfl,rfl,h0,h1,h2,h3⟩:=trodAll_four hA;obtain ⟨rfl,rfl⟩:=trodVars_none hV;obtain ⟨b3,rfl,rfl,rfl⟩:=open_bool Tryz.underlying4 (hval 3 4 v3 rfl rfl) h3;obtain ⟨a2,rfl,rfl,rfl,w2⟩:=open_string Tryz.underlying9 (hval 2 9 v2 rfl rfl) h2;have hlt: ∀ x∈p0++p1,x.block<W.heap.size:=fun x hx=>hW'.lt x (by simpa using hx);obtain ⟨fuel0,hf0⟩:=id h0;obtain ⟨s0,ev0,rv0,rfl,hE0,hR0,hF0,hG0⟩:=JsT (hval 0 64 v0 rfl rfl) hf0;obtain ⟨fuel1,hf1⟩:=id h1;obtain ⟨o1,n1,c1,rfl⟩:=okWide_slice Tryz.underlying61 (hval 1 61 v1 rfl rfl);obtain ⟨l1,hL1,hF1⟩:=Jj9 (by simpa [Value.cells] using hf1);clear hA0 hval0;simp only [List.append_nil] at hW';have law:=Jir W ev0 rv0 _ s0 l1 a2.data.toList b3 hE0 hR0 hL1 hF0 hF1 hG0 (by rw [Js];exact w2) hM;simp only [JqE] at law;refine law.mono fun e W' ⟨he,hg⟩=>?_;subst he;refine ⟨_,rfl,_,_,_,[],p0++(p1++([]++([]++([])))),[],hW',trodAll_cons_mk (shut_bool Tryz.underlying4 _) trodAll_mk0,?_,rfl,hg.nil_below.frame _,fun h=>by cases h⟩;exact trodAll_cons_mk (Below.trod JgL (by kernel_rfl) (of_decide_eq_true (by kernel_rfl)) h0 hg.nil_below (fun x hx=>hlt x (by simp [hx]))) (trodAll_cons_mk (Below.trod JgL (by kernel_rfl) (of_decide_eq_true (by kernel_rfl)) h1 hg.nil_below (fun x hx=>hlt x (by simp [hx]))) (trodAll_cons_mk (shut_string Tryz.underlying9 w2) (trodAll_cons_mk (shut_bool Tryz.underlying4 b3) trodAll_mk0)))
theorem Jf3:joinedFacts Tryz.prog 9 Tryz.f9 Rows.shelfTellsSpec Rows.shelfTellsRow=true:=by
 simp only [joinedFacts,Bool.and_eq_true];refine ⟨⟨⟨⟨⟨⟨⟨⟨⟨⟨⟨⟨⟨⟨⟨⟨⟨⟨⟨⟨⟨⟨⟨⟨⟨⟨⟨⟨⟨⟨⟨?_,JgL⟩,Jp4⟩,?_⟩,?_⟩,?_⟩,?_⟩,?_⟩,?_⟩,?_⟩,?_⟩,?_⟩,?_⟩,?_⟩,?_⟩,?_⟩,?_⟩,?_⟩,?_⟩,?_⟩,?_⟩,?_⟩,Jnw⟩,?_⟩,Jnv⟩,Jnu⟩,JlI⟩,Jp3⟩,?_⟩,?_⟩,?_⟩,?_⟩
 all_goals as_aux_lemma=>kernel_rfl
theorem JgT:Tryz.prog.funcNamed Rows.shelfTellsRow.func=some 9:=by kernel_rfl
theorem shelfTells_holds:Rows.ShelfTellsSaid:=
 OpenClaim.holds_of_wide 9 Tryz.f9 rfl rfl rfl rfl rfl rfl rfl ⟨rfl,rfl,rfl,rfl,rfl⟩ rfl rfl rfl rfl rfl JgT Tryz.func9 Jf3
  (of_decide_eq_true (by as_aux_lemma=>kernel_rfl)) (by unfold Func.isWrapper;first | (rw [if_pos (by decide+kernel)];kernel_rfl) | (rw [if_neg (by decide+kernel)];exact ⟨rfl,rfl⟩))
  (fun os started H enc _=>Jf4 os started H enc)
#print axioms shelfTells_holds
end Go.Proofs.YtlcljanibjdejaaGreat
