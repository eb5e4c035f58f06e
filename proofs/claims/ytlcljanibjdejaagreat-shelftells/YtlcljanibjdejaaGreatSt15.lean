/- ShelfTells holds: the law returns true for every input, and each argument reads behind the call as it read before; no condition. A part of its proof. -/
import Derived.Test.YtlcljanibjdejaaGreatSt14
import Derived.Deep.CutBlock
set_option maxHeartbeats 64000000
namespace Go.Proofs.YtlcljanibjdejaaGreat
open Go.RowKit Go.Maps
theorem JpS {l:List En} (h:Yb l) {m i:Nat} (hm:m<l.length) (hi:i<l.length) (e:l[m].id=l[i].id):m=i:=by
 rcases Nat.lt_trichotomy m i with h1 | h1 | h1
 ·exact absurd e (List.pairwise_iff_getElem.1 h m i hm hi h1)
 ·exact h1
 ·exact absurd e.symm (List.pairwise_iff_getElem.1 h i m hi hm h1)
@[reducible] def SR (W:World) (g1 j1 g2 j2:Nat) (x y:En) (w':World):Prop:=
  Jb [] W w'∧(w'.cell? ⟨g1,j1,none⟩=some (.string ⟨x.id.toArray⟩)∧w'.cell? ⟨g1,j1+1,none⟩=some (.string ⟨x.title.toArray⟩)∧w'.cell? ⟨g1,j1+2,none⟩=some (.string ⟨x.link.toArray⟩)∧w'.cell? ⟨g1,j1+3,none⟩=some (.int .i64 x.tm)∧w'.cell? ⟨g1,j1+4,none⟩=some (.string ⟨x.html.toArray⟩))∧
   (w'.cell? ⟨g2,j2,none⟩=some (.string ⟨y.id.toArray⟩)∧w'.cell? ⟨g2,j2+1,none⟩=some (.string ⟨y.title.toArray⟩)∧w'.cell? ⟨g2,j2+2,none⟩=some (.string ⟨y.link.toArray⟩)∧w'.cell? ⟨g2,j2+3,none⟩=some (.int .i64 y.tm)∧w'.cell? ⟨g2,j2+4,none⟩=some (.string ⟨y.html.toArray⟩))
theorem SR.keeps {W w2:World} {g1 j1 g2 j2:Nat} {x y:En} (h:SR W g1 j1 g2 j2 x y W) (hk:Jb [] W w2):SR W g1 j1 g2 j2 x y w2:=by
 obtain ⟨_,⟨a0,a1,a2,a3,a4⟩,b0,b1,b2,b3,b4⟩:=h;exact ⟨hk,⟨Jc hk a0,Jc hk a1,Jc hk a2,Jc hk a3,Jc hk a4⟩,Jc hk b0,Jc hk b1,Jc hk b2,Jc hk b3,Jc hk b4⟩
set_option maxRecDepth 8000 in
theorem Jil (w:World) (ev rv v:Value) (s:Sh) (l:List En) (he:Jh w ev s.es.length 5 (Je s.es)) (hr:Jh w rv s.rd.length 1 (Jq s.rd)) (hv:Jh w v l.length 5 (Je l)) (hf: ∀ x∈s.es,Xh x) (hfl: ∀ x∈l,Xh x)
  (h20:s.es.length≤20) (h12:l.length≤12) (hso:Xd s.es) (ho:Yb s.es):
  Calls Tryz.prog 47 #[.agg #[ev,rv],v] w fun e w'=> ∃ ev' rv',e=.returned (.tuple #[.agg #[ev',rv'],.int .i64 (Ql (Qy s.es l) s.es)])∧Jh w' ev' (Qy s.es l).length 5 (Je (Qy s.es l))∧Jh w' rv' s.rd.length 1 (Jq s.rd)∧Jb [] w w':=by
 obtain ⟨es,rd⟩:=s;simp only at he hr hf h20 hso ho ⊢;obtain ⟨eo,ec,rfl,g1,g2⟩:=he.form;obtain ⟨ro,rc,rfl,g3,g4⟩:=hr.form;obtain ⟨lo,lc,rfl,g5,g6⟩:=hv.form;unfold maxLen at g2 g4 g6;obtain ⟨W,hW⟩: ∃ W,((w.alloc (.cells #[.slice eo es.length ec,.slice ro rd.length rc] 64)).alloc (.cells #[.slice none 0 0,.slice none 0 0] 64))=W:=⟨_,rfl⟩;have hkW:Jb [] w W:=by rw [←hW];exact ((Jb.refl [] w).alloc _).alloc _
 have hb0:W.heap[w.heap.size]?=some (.cells #[.slice eo es.length ec,.slice ro rd.length rc] 64 (0,0)):=by rw [←hW];exact Yi w _ _
 have hb1:W.heap[w.heap.size+1]?=some (.cells #[.slice none 0 0,.slice none 0 0] 64 (0,0)):=by rw [←hW];exact Yj w _ _
 have b0:W.cell? ⟨w.heap.size,0,none⟩=some (.slice eo es.length ec):=Jd hb0 0;have b1:W.cell? ⟨w.heap.size,1,none⟩=some (.slice ro rd.length rc):=Jd hb0 1;obtain ⟨i0,hi,hz0,hz1,hz2⟩:=info_parts Jcf;have HE:=Ja (he.keeps hkW);have HL:=Ja (hv.keeps hkW);have HR0:=Ja hr;have HB1:=Ja hb1;have HKW:=Ja hkW;have HW:=Ja hW;have HF:=Ja hf;have HFL:=Ja hfl;have HSO:=Ja hso;have HO:=Ja ho;have hlW:=lt_of_block hb1;obtain ⟨W6,hW6⟩: ∃ W6,W.alloc (.cells #[] 75)=W6:=⟨_,rfl⟩;have kW6:Jb [] W W6:=by rw [←hW6];exact (Jb.refl [] W).alloc _
 have hown6:W6.ownsRow W.heap.size 75 5 (.slice (some ⟨W.heap.size,0,none⟩) 0 0) 0 []:=by rw [←hW6];exact World.ownsRow_made W #[] 0 (Nat.le_refl _) (by simp [maxLen]) rfl
 have q6:=Jc kW6 b0;have hLS6:=(he.keeps hkW).keeps kW6;have HW6:=Ja hW6;have hsz6:W.heap.size≤W6.heap.size:=kW6.size;have HKW6:=Ja kW6;clear he hr hv hf hfl hkW hb0 hb1 hW kW6 hso ho;go_enter Tryz.func47,Tryz.ntmps47;go_upto_region 1 with fail;rw [HW.out];rw [←HW6.out] at q6;clear hW6;go_wp2_with (at_builtin;refine JfM _ rfl _ _ 61 rfl W.heap.size 75 i0 _ 5 72 Tryz.underlying61 hi hz0 hz1 hz2 (by kernel_rfl) (by decide) (.slice (some ⟨W.heap.size,0,none⟩) 0 0) 0 [] rfl (by rw [HW6.out];exact hown6) (.slice eo es.length ec) es.length (Je es) rfl (by rw [HW6.out];exact hLS6) (Ja4 es) (by simp only [maxLen];omega) (by omega) (by rw [HW6.out];exact hsz6) ?_);intro v7 w7 ho7 hg7;rw [HW6.out] at hg7
 try simp only [Nat.zero_add,List.nil_append] at ho7
 have hk7:Jb [W.heap.size] W6 w7:=(Jb.refl _ _).grown hg7 (fun i e=>.inl (by simp [Value.ownBlock] at e ⊢;exact e.symm));have HK7:Hid (Jb [] W w7):=Ja ((HKW6.out.up.trans hk7).mono (fun i hi hlt=>by simp at hi;omega));have HO7:=Ja ho7;have h0:=Jc HK7.out b0;have h1:=Jc HK7.out b1;clear hg7 hk7 hown6 hLS6 q6 ho7;obtain ⟨o7,c7,hv7⟩:=Jg HO7.out;subst hv7;go_wp2_with fail;go_loopw [6,7] (fun v i wr=> ∃ k:Nat,i=.int .i64 k∧k≤l.length∧Hid (wr.ownsRow W.heap.size 75 5 v (XF es (l.take k)).length (Je (XF es (l.take k))))∧Hid (Jb [] W wr)) (fun _ i _=>l.length - (intOf i).toNat)
 case atStart=>exact ⟨0,rfl,Nat.zero_le _,HO7,HK7⟩
 case round=>
  obtain ⟨k,rfl,hk,hrow,hkr⟩:=hrel;have hrow:=hrow.out;have hkr:=hkr.out;obtain ⟨vo,vc,rfl⟩:=Jg hrow;by_cases hlt:k<l.length
  ·obtain ⟨g,o0,rfl,hc⟩:=HL.out.addr (by omega);obtain ⟨a0,a1,a2,a3,a4⟩:=Qs hc k hlt;have a0:=Jc hkr a0;have a1:=Jc hkr a1;have a2:=Jc hkr a2;have a3:=Jc hkr a3;have a4:=Jc hkr a4;have hPr:=JdD (l.take k) es HSO.out HO.out;have hsn:=Jqd es l k hlt;have hPl:(XF es (l.take k)).length≤32:=by
    have h9:=Jds (l.take k) es;rw [List.length_take] at h9;omega
   have HFP:=Ja (fun (y:En) (hy:y∈XF es (l.take k))=>(Jqc (l.take k) es y hy).elim (HF.out y) (fun h9=>HFL.out y ((List.take_sublist _ _).subset h9)));have b3:(0:Int)≤(k:Int):=by omega
   have b4:(k:Int)<(l.length:Int):=by omega
   have hFx:=HFL.out _ (List.getElem_mem hlt);have hst:=Jp8 hPr.2 l[k];rw [←hsn] at hst;have hcase:=YX l[k].id (XF es (l.take k));have hea:=JaC l[k].id wr _ (XF es (l.take k)) (Jh.of_row hrow);obtain ⟨N,hN⟩: ∃ N,XF es (l.take (k+1))=N:=⟨_,rfl⟩;rw [hN] at hst;have HN:=Ja hN;have HROW:=Ja hrow;have HKR:=Ja hkr;have HPO:=Ja hPr.2;clear hc hrow hkr hsn hN hPr;generalize XF es (l.take k)=P at *;generalize l[k]=x at *;have HST:=Ja hst;clear hst;rcases hcase with ⟨h9,hno⟩ | ⟨i,hi9,h9,hid⟩
   ·have hg:=Ja (HST.out.2 (fun i hi h8=>by omega));have HAT:Hid (∀ m (hm:m<P.length),((m:Int)= -1↔P[m].id=x.id)):=Ja (fun m hm=>⟨fun h=>by omega,fun h=>absurd h (hno _ (List.getElem_mem hm))⟩);simp only [h9] at hea;have HEA:=Ja hea;clear h9 HST hea hno;go_wp2_with fail;refine HEA.out.mono ?_;rintro e w2 ⟨rfl,hw2⟩;cases hw2.symm;clear HEA;go_wp2_with fail
    go_quiet (fail)
    obtain ⟨w6,hw6⟩: ∃ w6,wr.drewN nq=w6:=⟨_,rfl⟩;have hk6:Jb [] wr w6:=by rw [←hw6];exact (Jb.refl [] wr).drewN _
    rw [hw6];have HR6:=Ja (hk6.owns HROW.out (fun _ _=>List.not_mem_nil));have HK6:=Ja (HKR.out.trans hk6);have sz6:W.heap.size≤w6.heap.size:=HK6.out.size;have a0:=Jc hk6 a0;have a1:=Jc hk6 a1;have a2:=Jc hk6 a2;have a3:=Jc hk6 a3;have a4:=Jc hk6 a4;have HG0:=Ja (show ([]:List En)++goE x (P.drop 0) false=N from by rw [List.nil_append,List.drop_zero];exact hg.out.symm);clear hw6 hk6 hg;go_wp2_with fail;go_loopw [9,10,11] (fun v b j w9=> ∃ (m:Nat) (put:Bool) (acc:List En),j=.int .i64 m∧m≤P.length∧b=.bool put∧Hid (w9.ownsRow w6.heap.size 75 5 v acc.length (Je acc))∧Hid (Jb [] w6 w9)∧acc.length≤m+1∧(put=false→acc.length≤m)∧Hid (acc++goE x (P.drop m) put=N)) (fun _ _ j _=>P.length - (intOf j).toNat)
    case atStart=>exact ⟨0,false,[],rfl,Nat.zero_le _,rfl,Ja (World.ownsRow_nil _ _ _ _),Ja (Jb.refl _ _),Nat.zero_le _,fun _=>Nat.le_refl _,HG0⟩
    case round=>
     obtain ⟨m,put,acc,rfl,hm,rfl,hR9,hK9,hac,hac2,hG⟩:=hrel;obtain ⟨w9,hw9⟩: ∃ w9,w9=wr:=⟨_,rfl⟩;subst hw9;obtain ⟨vo9,vc9,hv9⟩:=Jg hR9.out;subst hv9;by_cases hml:m<P.length
     ·obtain ⟨gp,op,hpp,hcp⟩:=(Jh.of_row HR6.out).addr (by omega)
      first | subst hpp | (cases hpp)
      obtain ⟨p0,p1,p2,p3,p4⟩:=Qs hcp m hml;have q0:=Jc hK9.out p0;have q1:=Jc hK9.out p1;have q2:=Jc hK9.out p2;have q3:=Jc hK9.out p3;have q4:=Jc hK9.out p4;have c0:=Jc hK9.out a0;have c1:=Jc hK9.out a1;have c2:=Jc hK9.out a2;have c3:=Jc hK9.out a3;have c4:=Jc hK9.out a4;have hidm:=HAT.out m hml;have hFy:=HFP.out _ (List.getElem_mem hml);have hst9:=hG.out;rw [List.drop_eq_getElem_cons hml] at hst9;unfold goE at hst9;have e3:(0:Int)≤(m:Int):=by omega
      have e4:(m:Int)<(P.length:Int):=by omega
      have HP0:=Ja p0;have HP1:=Ja p1;have HP2:=Ja p2;have HP3:=Ja p3;have HP4:=Ja p4;clear hcp p0 p1 p2 p3 p4 hG;generalize P[m]=y at *;by_cases hyx:y.id=x.id
      ·rw [if_pos hyx] at hst9;have HS9:=Ja hst9;have hd:((m:Int)== -1)=true:=by simpa using hidm.2 hyx
       clear hst9 hidm hyx;go_wp2_with fail;go_roundw
       case rel=>exact ⟨m+1,put,acc,by go_num,by omega,rfl,hR9,hK9,by omega,fun h=>by have:=hac2 h;omega,HS9⟩
       case measure=>simp [intOf];omega
      ·rw [if_neg hyx] at hst9;have hd:((m:Int)== -1)=false:=by rw [beq_eq_false_iff_ne];exact fun h=>hyx (hidm.1 h)
       clear hidm hyx;cases put
       ·have hac3:=hac2 rfl;cases hAH:JQ x y
        ·rw [if_neg (by rw [hAH];simp)] at hst9;have HS9:=Ja hst9;clear hst9;have hS0:SR w9 g (o0+k * 5) gp (op+m * 5) x y w9:=⟨Jb.refl _ _,⟨c0,c1,c2,c3,c4⟩,q0,q1,q2,q3,q4⟩;have HIA:=Ja (fun w=>JaE x y hFx hFy w);rw [hAH] at HIA;unfold Jo at HIA;go_wp2_with fail
         go_region_held3 (SR w9 g (o0+k * 5) gp (op+m * 5) x y) ((first | assumption | (refine SR.keeps hS0 ?_;first | exact (Jb.refl [] w9) | exact (Jb.refl [] w9).drew | exact (‹SR w9 g _ gp _ x y _›).1.trans hkx | exact (‹SR w9 g _ gp _ x y _›).1.alloc _ | exact (‹SR w9 g _ gp _ x y _›).1.drewN _)))
          (first
            | (go_at_call 125;refine (HIA.out _).mono ?_;rintro e w8 ⟨rfl,hkx⟩))
         have hSE:=‹SR w9 g (o0+k * 5) gp (op+m * 5) x y w8›;obtain ⟨hk8,⟨u0,u1,u2,u3,u4⟩,t0,t1,t2,t3,t4⟩:=hSE;have HR8:=Ja (hk8.owns hR9.out (fun _ _=>List.not_mem_nil));have HK8:=Ja (hK9.out.trans hk8);clear hS0 HIA hkx hk8 c0 c1 c2 c3 c4 q0 q1 q2 q3 q4;have sz11:w6.heap.size≤w8.heap.size:=HK8.out.size;go_wp2_with (at_builtin;refine Jl _ rfl _ _ 61 rfl w6.heap.size 75 i0 _ 5 72 Tryz.underlying61 hi hz0 hz1 hz2 (by kernel_rfl) (by decide) (.slice vo9 (acc).length vc9) (acc).length (Je (acc)) rfl (HR8.out.alloc _) ⟨w8.heap.size,0,none⟩ 1 1 (Jo y) rfl rfl (Z3 w8 y 75) (Z4 y) (by unfold maxLen;omega) (by omega) (Nat.le_trans sz11 (by simp)) ?_);intro v11 w11 ho11 hg11 hw11;have hk11:Jb (Value.slice vo9 (acc).length vc9).ownBlock.toList w8 w11:=((Jb.refl _ w8).alloc _).grown hg11 (fun i e=>.inl (by simp [e]));have HK11:Hid (Jb [] w6 w11):=Ja ((HK8.out.up.trans hk11).mono (fun i hi hlt=>by have:=(HR8.out.lt i (by simpa using hi)).1;omega));have ho11b:w11.ownsRow w6.heap.size 75 5 v11 (acc++[y]).length (Je (acc++[y])):=by rw [Q7,List.length_append];exact ho11
         obtain ⟨A11,hN11⟩: ∃ A,acc++[y]=A:=⟨_,rfl⟩;have hLn11:(A11).length=(acc).length+1:=by rw [←hN11];simp
         rw [hN11] at ho11b;have HO11:=Ja ho11b;obtain ⟨o11,c11,hv11⟩:=Jg ho11b;subst hv11;have HLn11:=Ja hLn11;have HN11:=Ja hN11;have hLb11:(A11).length≤(acc).length+1:=by omega
         clear hk11 hg11 hw11 ho11 ho11b hLn11 hN11 sz11;have hst9:=HS9.out;rw [show acc++y::goE x (P.drop (m+1)) false=(acc++[y])++goE x (P.drop (m+1)) false from by simp,HN11.out] at hst9;have HF9:=Ja hst9;have hl11:=HLn11.out;clear hst9 HS9;have hb11:A11.length≤m+1:=by omega
         clear hl11;go_wp2_with fail;go_roundw
         case rel=>exact ⟨m+1,false,A11,by go_num,by omega,rfl,HO11,HK11,by omega,fun _=>hb11,HF9⟩
         case measure=>simp [intOf];omega
        ·rw [if_pos ⟨rfl,hAH⟩] at hst9;have HS9:=Ja hst9;clear hst9;have hS0:SR w9 g (o0+k * 5) gp (op+m * 5) x y w9:=⟨Jb.refl _ _,⟨c0,c1,c2,c3,c4⟩,q0,q1,q2,q3,q4⟩;have HIA:=Ja (fun w=>JaE x y hFx hFy w);rw [hAH] at HIA;unfold Jo at HIA;go_wp2_with fail
         go_region_held3 (SR w9 g (o0+k * 5) gp (op+m * 5) x y) ((first | assumption | (refine SR.keeps hS0 ?_;first | exact (Jb.refl [] w9) | exact (Jb.refl [] w9).drew | exact (‹SR w9 g _ gp _ x y _›).1.trans hkx | exact (‹SR w9 g _ gp _ x y _›).1.alloc _ | exact (‹SR w9 g _ gp _ x y _›).1.drewN _)))
          (first
            | (go_at_call 125;refine (HIA.out _).mono ?_;rintro e w8 ⟨rfl,hkx⟩))
         have hSE:=‹SR w9 g (o0+k * 5) gp (op+m * 5) x y w8›;obtain ⟨hk8,⟨u0,u1,u2,u3,u4⟩,t0,t1,t2,t3,t4⟩:=hSE;have HR8:=Ja (hk8.owns hR9.out (fun _ _=>List.not_mem_nil));have HK8:=Ja (hK9.out.trans hk8);clear hS0 HIA hkx hk8 c0 c1 c2 c3 c4 q0 q1 q2 q3 q4;have sz11:w6.heap.size≤w8.heap.size:=HK8.out.size;go_wp2_with (at_builtin;refine Jl _ rfl _ _ 61 rfl w6.heap.size 75 i0 _ 5 72 Tryz.underlying61 hi hz0 hz1 hz2 (by kernel_rfl) (by decide) (.slice vo9 (acc).length vc9) (acc).length (Je (acc)) rfl (HR8.out.alloc _) ⟨w8.heap.size,0,none⟩ 1 1 (Jo x) rfl rfl (Z3 w8 x 75) (Z4 x) (by unfold maxLen;omega) (by omega) (Nat.le_trans sz11 (by simp)) ?_);intro v11 w11 ho11 hg11 hw11;have hk11:Jb (Value.slice vo9 (acc).length vc9).ownBlock.toList w8 w11:=((Jb.refl _ w8).alloc _).grown hg11 (fun i e=>.inl (by simp [e]));have HK11:Hid (Jb [] w6 w11):=Ja ((HK8.out.up.trans hk11).mono (fun i hi hlt=>by have:=(HR8.out.lt i (by simpa using hi)).1;omega));have ho11b:w11.ownsRow w6.heap.size 75 5 v11 (acc++[x]).length (Je (acc++[x])):=by rw [Q7,List.length_append];exact ho11
         obtain ⟨A11,hN11⟩: ∃ A,acc++[x]=A:=⟨_,rfl⟩;have hLn11:(A11).length=(acc).length+1:=by rw [←hN11];simp
         rw [hN11] at ho11b;have HO11:=Ja ho11b;obtain ⟨o11,c11,hv11⟩:=Jg ho11b;subst hv11;have HLn11:=Ja hLn11;have HN11:=Ja hN11;have hLb11:(A11).length≤(acc).length+1:=by omega
         clear hk11 hg11 hw11 ho11 ho11b hLn11 hN11 sz11;have z0:=Jc HK11.out HP0.out;have z1:=Jc HK11.out HP1.out;have z2:=Jc HK11.out HP2.out;have z3:=Jc HK11.out HP3.out;have z4:=Jc HK11.out HP4.out;have sz12:w6.heap.size≤w11.heap.size:=HK11.out.size;go_wp2_with (at_builtin;refine Jl _ rfl _ _ 61 rfl w6.heap.size 75 i0 _ 5 72 Tryz.underlying61 hi hz0 hz1 hz2 (by kernel_rfl) (by decide) (.slice o11 (A11).length c11) (A11).length (Je (A11)) rfl (HO11.out.alloc _) ⟨w11.heap.size,0,none⟩ 1 1 (Jo y) rfl rfl (Z3 w11 y 75) (Z4 y) (by unfold maxLen;omega) (by omega) (Nat.le_trans sz12 (by simp)) ?_);intro v12 w12 ho12 hg12 hw12;have hk12:Jb (Value.slice o11 (A11).length c11).ownBlock.toList w11 w12:=((Jb.refl _ w11).alloc _).grown hg12 (fun i e=>.inl (by simp [e]));have HK12:Hid (Jb [] w6 w12):=Ja ((HK11.out.up.trans hk12).mono (fun i hi hlt=>by have:=(HO11.out.lt i (by simpa using hi)).1;omega));have ho12b:w12.ownsRow w6.heap.size 75 5 v12 (A11++[y]).length (Je (A11++[y])):=by rw [Q7,List.length_append];exact ho12
         obtain ⟨A12,hN12⟩: ∃ A,A11++[y]=A:=⟨_,rfl⟩;have hLn12:(A12).length=(A11).length+1:=by rw [←hN12];simp
         rw [hN12] at ho12b;have HO12:=Ja ho12b;obtain ⟨o12,c12,hv12⟩:=Jg ho12b;subst hv12;have HLn12:=Ja hLn12;have HN12:=Ja hN12;have hLb12:(A12).length≤(A11).length+1:=by omega
         clear hk12 hg12 hw12 ho12 ho12b hLn12 hN12 sz12;have hst9:=HS9.out;rw [show acc++x::y::goE x (P.drop (m+1)) true=((acc++[x])++[y])++goE x (P.drop (m+1)) true from by simp,HN11.out,HN12.out] at hst9;have HF9:=Ja hst9;have hl11:=HLn11.out;have hl12:=HLn12.out;clear hst9 HS9;have hb12:A12.length≤m+1+1:=by omega
         clear hl11 hl12;go_wp2_with fail;go_roundw
         case rel=>exact ⟨m+1,true,A12,by go_num,by omega,rfl,HO12,HK12,hb12,(fun h=>by cases h),HF9⟩
         case measure=>simp [intOf];omega
       ·rw [if_neg (by simp)] at hst9;have HS9:=Ja hst9;clear hst9;go_wp2_with fail
        go_quiet (fail)
        obtain ⟨w8,hw8⟩: ∃ w8,w9.drewN nq=w8:=⟨_,rfl⟩;have hk8:Jb [] w9 w8:=by rw [←hw8];exact (Jb.refl [] w9).drewN _
        rw [hw8];have t0:=Jc hk8 q0;have t1:=Jc hk8 q1;have t2:=Jc hk8 q2;have t3:=Jc hk8 q3;have t4:=Jc hk8 q4;have HR8:=Ja (hk8.owns hR9.out (fun _ _=>List.not_mem_nil));have HK8:=Ja (hK9.out.trans hk8);clear hk8 hw8 c0 c1 c2 c3 c4 q0 q1 q2 q3 q4;have sz11:w6.heap.size≤w8.heap.size:=HK8.out.size;go_wp2_with (at_builtin;refine Jl _ rfl _ _ 61 rfl w6.heap.size 75 i0 _ 5 72 Tryz.underlying61 hi hz0 hz1 hz2 (by kernel_rfl) (by decide) (.slice vo9 (acc).length vc9) (acc).length (Je (acc)) rfl (HR8.out.alloc _) ⟨w8.heap.size,0,none⟩ 1 1 (Jo y) rfl rfl (Z3 w8 y 75) (Z4 y) (by unfold maxLen;omega) (by omega) (Nat.le_trans sz11 (by simp)) ?_);intro v11 w11 ho11 hg11 hw11;have hk11:Jb (Value.slice vo9 (acc).length vc9).ownBlock.toList w8 w11:=((Jb.refl _ w8).alloc _).grown hg11 (fun i e=>.inl (by simp [e]));have HK11:Hid (Jb [] w6 w11):=Ja ((HK8.out.up.trans hk11).mono (fun i hi hlt=>by have:=(HR8.out.lt i (by simpa using hi)).1;omega));have ho11b:w11.ownsRow w6.heap.size 75 5 v11 (acc++[y]).length (Je (acc++[y])):=by rw [Q7,List.length_append];exact ho11
        obtain ⟨A11,hN11⟩: ∃ A,acc++[y]=A:=⟨_,rfl⟩;have hLn11:(A11).length=(acc).length+1:=by rw [←hN11];simp
        rw [hN11] at ho11b;have HO11:=Ja ho11b;obtain ⟨o11,c11,hv11⟩:=Jg ho11b;subst hv11;have HLn11:=Ja hLn11;have HN11:=Ja hN11;have hLb11:(A11).length≤(acc).length+1:=by omega
        clear hk11 hg11 hw11 ho11 ho11b hLn11 hN11 sz11;have hst9:=HS9.out;rw [show acc++y::goE x (P.drop (m+1)) true=(acc++[y])++goE x (P.drop (m+1)) true from by simp,HN11.out] at hst9;have HF9:=Ja hst9;have hl11:=HLn11.out;clear hst9 HS9;have hb11:A11.length≤m+1+1:=by omega
        clear hl11;go_wp2_with fail;go_roundw
        case rel=>exact ⟨m+1,true,A11,by go_num,by omega,rfl,HO11,HK11,hb11,(fun h=>by cases h),HF9⟩
        case measure=>simp [intOf];omega
     ·have hst9:=hG.out;rw [List.drop_eq_nil_of_le (by omega)] at hst9;unfold goE at hst9;clear hG;cases put
      ·have c0:=Jc hK9.out a0;have c1:=Jc hK9.out a1;have c2:=Jc hK9.out a2;have c3:=Jc hK9.out a3;have c4:=Jc hK9.out a4;have hst9:acc++[x]=N:=by simpa using hst9
       have HS9:=Ja hst9;clear hst9;have hac3:=hac2 rfl;have f1:(o0+k * 5:Nat)=o0+k * 5:=rfl;have sz11:w6.heap.size≤w9.heap.size:=hK9.out.size;go_wp2_with (at_builtin;refine Jl _ rfl _ _ 61 rfl w6.heap.size 75 i0 _ 5 72 Tryz.underlying61 hi hz0 hz1 hz2 (by kernel_rfl) (by decide) (.slice vo9 (acc).length vc9) (acc).length (Je (acc)) rfl (hR9.out.alloc _) ⟨w9.heap.size,0,none⟩ 1 1 (Jo x) rfl rfl (Z3 w9 x 75) (Z4 x) (by unfold maxLen;omega) (by omega) (Nat.le_trans sz11 (by simp)) ?_);intro v11 w11 ho11 hg11 hw11;have hk11:Jb (Value.slice vo9 (acc).length vc9).ownBlock.toList w9 w11:=((Jb.refl _ w9).alloc _).grown hg11 (fun i e=>.inl (by simp [e]));have HK11:Hid (Jb [] w6 w11):=Ja ((hK9.out.up.trans hk11).mono (fun i hi hlt=>by have:=(hR9.out.lt i (by simpa using hi)).1;omega));have ho11b:w11.ownsRow w6.heap.size 75 5 v11 (acc++[x]).length (Je (acc++[x])):=by rw [Q7,List.length_append];exact ho11
       obtain ⟨A11,hN11⟩: ∃ A,acc++[x]=A:=⟨_,rfl⟩;have hLn11:(A11).length=(acc).length+1:=by rw [←hN11];simp
       rw [hN11] at ho11b;have HO11:=Ja ho11b;obtain ⟨o11,c11,hv11⟩:=Jg ho11b;subst hv11;have HLn11:=Ja hLn11;have HN11:=Ja hN11;have hLb11:(A11).length≤(acc).length+1:=by omega
       clear hk11 hg11 hw11 ho11 ho11b hLn11 hN11 sz11;have hA:A11=N:=by rw [←HN11.out];exact HS9.out
       have HF1:=Ja (show w11.ownsRow W.heap.size 75 5 (.slice o11 A11.length c11) N.length (Je N) from by rw [←hA];exact Yx HO11.out sz6);have HF2:=Ja (HK6.out.trans HK11.out);clear hA f1;go_wp2_with fail;go_roundw
       case rel=>exact ⟨k+1,by go_num,by omega,Ja (by rw [HN.out];exact HF1.out),HF2⟩
       case measure=>simp [intOf];omega
      ·have hst9:acc=N:=by simpa using hst9
       have HF1:=Ja (show w9.ownsRow W.heap.size 75 5 (.slice vo9 acc.length vc9) N.length (Je N) from by rw [←hst9];exact Yx hR9.out sz6);have HF2:=Ja (HK6.out.trans hK9.out);clear hst9;go_wp2_with fail;go_roundw
       case rel=>exact ⟨k+1,by go_num,by omega,Ja (by rw [HN.out];exact HF1.out),HF2⟩
       case measure=>simp [intOf];omega
   ·simp only [h9] at hea;have HEA:=Ja hea;obtain ⟨gp,op,rfl,hcp⟩:=(Jh.of_row HROW.out).addr (by omega);obtain ⟨_,_,_,p3,_⟩:=Qs hcp i hi9;have c1:(0:Int)≤(i:Int):=by omega
    have c2:(i:Int)<(P.length:Int):=by omega
    by_cases ht:x.tm<P[i].tm
    ·have hg:=Ja (HST.out.1 i hi9 h9 ht);have hd:decide (x.tm<P[i].tm)=true:=decide_eq_true ht;clear h9 HST hea hcp;go_wp2_with fail;refine HEA.out.mono ?_;rintro e w2 ⟨rfl,hw2⟩;cases hw2.symm;go_wp2_with fail
     go_quiet (fail)
     go_wp2_with fail;go_roundw
     case rel=>exact ⟨k+1,by go_num,by omega,Ja (by rw [HN.out,hg.out];exact ((Jb.refl [] wr).drewN _).owns HROW.out (fun _ _=>List.not_mem_nil)),Ja (HKR.out.drewN _)⟩
     case measure=>simp [intOf];omega
    ·have hg:=Ja (HST.out.2 (fun j hj h8=>by
      have e:j=i:=by omega
      subst e;exact ht))
     have hd:decide (x.tm<P[i].tm)=false:=decide_eq_false ht;have HAT:Hid (∀ m (hm:m<P.length),((m:Int)=(i:Int)↔P[m].id=x.id)):=Ja (fun m hm=>⟨fun h=>by
      have e:m=i:=by omega
      subst e;exact hid,fun h=>by
      have e:=JdM HPO.out (List.getElem_mem hm) (List.getElem_mem hi9) (h.trans hid.symm);have e2:=JpS HPO.out hm hi9 (h.trans hid.symm);omega⟩)
     clear h9 HST hea hcp hid ht;generalize P[i].tm=pt at *;go_wp2_with fail;refine HEA.out.mono ?_;rintro e w2 ⟨rfl,hw2⟩;cases hw2.symm;clear HEA;go_wp2_with fail
     go_quiet (fail)
     clear p3 hd c1 c2;obtain ⟨w6,hw6⟩: ∃ w6,wr.drewN nq=w6:=⟨_,rfl⟩;have hk6:Jb [] wr w6:=by rw [←hw6];exact (Jb.refl [] wr).drewN _
     rw [hw6];have HR6:=Ja (hk6.owns HROW.out (fun _ _=>List.not_mem_nil));have HK6:=Ja (HKR.out.trans hk6);have sz6:W.heap.size≤w6.heap.size:=HK6.out.size;have a0:=Jc hk6 a0;have a1:=Jc hk6 a1;have a2:=Jc hk6 a2;have a3:=Jc hk6 a3;have a4:=Jc hk6 a4;have HG0:=Ja (show ([]:List En)++goE x (P.drop 0) false=N from by rw [List.nil_append,List.drop_zero];exact hg.out.symm);clear hw6 hk6 hg;go_wp2_with fail;go_loopw [9,10,11] (fun v b j w9=> ∃ (m:Nat) (put:Bool) (acc:List En),j=.int .i64 m∧m≤P.length∧b=.bool put∧Hid (w9.ownsRow w6.heap.size 75 5 v acc.length (Je acc))∧Hid (Jb [] w6 w9)∧acc.length≤m+1∧(put=false→acc.length≤m)∧Hid (acc++goE x (P.drop m) put=N)) (fun _ _ j _=>P.length - (intOf j).toNat)
     case atStart=>exact ⟨0,false,[],rfl,Nat.zero_le _,rfl,Ja (World.ownsRow_nil _ _ _ _),Ja (Jb.refl _ _),Nat.zero_le _,fun _=>Nat.le_refl _,HG0⟩
     case round=>
      obtain ⟨m,put,acc,rfl,hm,rfl,hR9,hK9,hac,hac2,hG⟩:=hrel;obtain ⟨w9,hw9⟩: ∃ w9,w9=wr:=⟨_,rfl⟩;subst hw9;obtain ⟨vo9,vc9,hv9⟩:=Jg hR9.out;subst hv9;by_cases hml:m<P.length
      ·obtain ⟨gp,op,hpp,hcp⟩:=(Jh.of_row HR6.out).addr (by omega)
       first | subst hpp | (cases hpp)
       obtain ⟨p0,p1,p2,p3,p4⟩:=Qs hcp m hml;have q0:=Jc hK9.out p0;have q1:=Jc hK9.out p1;have q2:=Jc hK9.out p2;have q3:=Jc hK9.out p3;have q4:=Jc hK9.out p4;have c0:=Jc hK9.out a0;have c1:=Jc hK9.out a1;have c2:=Jc hK9.out a2;have c3:=Jc hK9.out a3;have c4:=Jc hK9.out a4;have hidm:=HAT.out m hml;have hFy:=HFP.out _ (List.getElem_mem hml);have hst9:=hG.out;rw [List.drop_eq_getElem_cons hml] at hst9;unfold goE at hst9;have e3:(0:Int)≤(m:Int):=by omega
       have e4:(m:Int)<(P.length:Int):=by omega
       have HP0:=Ja p0;have HP1:=Ja p1;have HP2:=Ja p2;have HP3:=Ja p3;have HP4:=Ja p4;clear hcp p0 p1 p2 p3 p4 hG;generalize P[m]=y at *;by_cases hyx:y.id=x.id
       ·rw [if_pos hyx] at hst9;have HS9:=Ja hst9;have hd:((m:Int)==(i:Int))=true:=by simpa using hidm.2 hyx
        clear hst9 hidm hyx;go_wp2_with fail;go_roundw
        case rel=>exact ⟨m+1,put,acc,by go_num,by omega,rfl,hR9,hK9,by omega,fun h=>by have:=hac2 h;omega,HS9⟩
        case measure=>simp [intOf];omega
       ·rw [if_neg hyx] at hst9;have hd:((m:Int)==(i:Int))=false:=by rw [beq_eq_false_iff_ne];exact fun h=>hyx (hidm.1 h)
        clear hidm hyx;cases put
        ·have hac3:=hac2 rfl;cases hAH:JQ x y
         ·rw [if_neg (by rw [hAH];simp)] at hst9;have HS9:=Ja hst9;clear hst9;have hS0:SR w9 g (o0+k * 5) gp (op+m * 5) x y w9:=⟨Jb.refl _ _,⟨c0,c1,c2,c3,c4⟩,q0,q1,q2,q3,q4⟩;have HIA:=Ja (fun w=>JaE x y hFx hFy w);rw [hAH] at HIA;unfold Jo at HIA;go_wp2_with fail
          go_region_held3 (SR w9 g (o0+k * 5) gp (op+m * 5) x y) ((first | assumption | (refine SR.keeps hS0 ?_;first | exact (Jb.refl [] w9) | exact (Jb.refl [] w9).drew | exact (‹SR w9 g _ gp _ x y _›).1.trans hkx | exact (‹SR w9 g _ gp _ x y _›).1.alloc _ | exact (‹SR w9 g _ gp _ x y _›).1.drewN _)))
           (first
             | (go_at_call 125;refine (HIA.out _).mono ?_;rintro e w8 ⟨rfl,hkx⟩))
          have hSE:=‹SR w9 g (o0+k * 5) gp (op+m * 5) x y w8›;obtain ⟨hk8,⟨u0,u1,u2,u3,u4⟩,t0,t1,t2,t3,t4⟩:=hSE;have HR8:=Ja (hk8.owns hR9.out (fun _ _=>List.not_mem_nil));have HK8:=Ja (hK9.out.trans hk8);clear hS0 HIA hkx hk8 c0 c1 c2 c3 c4 q0 q1 q2 q3 q4;have sz11:w6.heap.size≤w8.heap.size:=HK8.out.size;go_wp2_with (at_builtin;refine Jl _ rfl _ _ 61 rfl w6.heap.size 75 i0 _ 5 72 Tryz.underlying61 hi hz0 hz1 hz2 (by kernel_rfl) (by decide) (.slice vo9 (acc).length vc9) (acc).length (Je (acc)) rfl (HR8.out.alloc _) ⟨w8.heap.size,0,none⟩ 1 1 (Jo y) rfl rfl (Z3 w8 y 75) (Z4 y) (by unfold maxLen;omega) (by omega) (Nat.le_trans sz11 (by simp)) ?_);intro v11 w11 ho11 hg11 hw11;have hk11:Jb (Value.slice vo9 (acc).length vc9).ownBlock.toList w8 w11:=((Jb.refl _ w8).alloc _).grown hg11 (fun i e=>.inl (by simp [e]));have HK11:Hid (Jb [] w6 w11):=Ja ((HK8.out.up.trans hk11).mono (fun i hi hlt=>by have:=(HR8.out.lt i (by simpa using hi)).1;omega));have ho11b:w11.ownsRow w6.heap.size 75 5 v11 (acc++[y]).length (Je (acc++[y])):=by rw [Q7,List.length_append];exact ho11
          obtain ⟨A11,hN11⟩: ∃ A,acc++[y]=A:=⟨_,rfl⟩;have hLn11:(A11).length=(acc).length+1:=by rw [←hN11];simp
          rw [hN11] at ho11b;have HO11:=Ja ho11b;obtain ⟨o11,c11,hv11⟩:=Jg ho11b;subst hv11;have HLn11:=Ja hLn11;have HN11:=Ja hN11;have hLb11:(A11).length≤(acc).length+1:=by omega
          clear hk11 hg11 hw11 ho11 ho11b hLn11 hN11 sz11;have hst9:=HS9.out;rw [show acc++y::goE x (P.drop (m+1)) false=(acc++[y])++goE x (P.drop (m+1)) false from by simp,HN11.out] at hst9;have HF9:=Ja hst9;have hl11:=HLn11.out;clear hst9 HS9;have hb11:A11.length≤m+1:=by omega
          clear hl11;go_wp2_with fail;go_roundw
          case rel=>exact ⟨m+1,false,A11,by go_num,by omega,rfl,HO11,HK11,by omega,fun _=>hb11,HF9⟩
          case measure=>simp [intOf];omega
         ·rw [if_pos ⟨rfl,hAH⟩] at hst9;have HS9:=Ja hst9;clear hst9;have hS0:SR w9 g (o0+k * 5) gp (op+m * 5) x y w9:=⟨Jb.refl _ _,⟨c0,c1,c2,c3,c4⟩,q0,q1,q2,q3,q4⟩;have HIA:=Ja (fun w=>JaE x y hFx hFy w);rw [hAH] at HIA;unfold Jo at HIA;go_wp2_with fail
          go_region_held3 (SR w9 g (o0+k * 5) gp (op+m * 5) x y) ((first | assumption | (refine SR.keeps hS0 ?_;first | exact (Jb.refl [] w9) | exact (Jb.refl [] w9).drew | exact (‹SR w9 g _ gp _ x y _›).1.trans hkx | exact (‹SR w9 g _ gp _ x y _›).1.alloc _ | exact (‹SR w9 g _ gp _ x y _›).1.drewN _)))
           (first
             | (go_at_call 125;refine (HIA.out _).mono ?_;rintro e w8 ⟨rfl,hkx⟩))
          have hSE:=‹SR w9 g (o0+k * 5) gp (op+m * 5) x y w8›;obtain ⟨hk8,⟨u0,u1,u2,u3,u4⟩,t0,t1,t2,t3,t4⟩:=hSE;have HR8:=Ja (hk8.owns hR9.out (fun _ _=>List.not_mem_nil));have HK8:=Ja (hK9.out.trans hk8);clear hS0 HIA hkx hk8 c0 c1 c2 c3 c4 q0 q1 q2 q3 q4;have sz11:w6.heap.size≤w8.heap.size:=HK8.out.size;go_wp2_with (at_builtin;refine Jl _ rfl _ _ 61 rfl w6.heap.size 75 i0 _ 5 72 Tryz.underlying61 hi hz0 hz1 hz2 (by kernel_rfl) (by decide) (.slice vo9 (acc).length vc9) (acc).length (Je (acc)) rfl (HR8.out.alloc _) ⟨w8.heap.size,0,none⟩ 1 1 (Jo x) rfl rfl (Z3 w8 x 75) (Z4 x) (by unfold maxLen;omega) (by omega) (Nat.le_trans sz11 (by simp)) ?_);intro v11 w11 ho11 hg11 hw11;have hk11:Jb (Value.slice vo9 (acc).length vc9).ownBlock.toList w8 w11:=((Jb.refl _ w8).alloc _).grown hg11 (fun i e=>.inl (by simp [e]));have HK11:Hid (Jb [] w6 w11):=Ja ((HK8.out.up.trans hk11).mono (fun i hi hlt=>by have:=(HR8.out.lt i (by simpa using hi)).1;omega));have ho11b:w11.ownsRow w6.heap.size 75 5 v11 (acc++[x]).length (Je (acc++[x])):=by rw [Q7,List.length_append];exact ho11
          obtain ⟨A11,hN11⟩: ∃ A,acc++[x]=A:=⟨_,rfl⟩;have hLn11:(A11).length=(acc).length+1:=by rw [←hN11];simp
          rw [hN11] at ho11b;have HO11:=Ja ho11b;obtain ⟨o11,c11,hv11⟩:=Jg ho11b;subst hv11;have HLn11:=Ja hLn11;have HN11:=Ja hN11;have hLb11:(A11).length≤(acc).length+1:=by omega
          clear hk11 hg11 hw11 ho11 ho11b hLn11 hN11 sz11;have z0:=Jc HK11.out HP0.out;have z1:=Jc HK11.out HP1.out;have z2:=Jc HK11.out HP2.out;have z3:=Jc HK11.out HP3.out;have z4:=Jc HK11.out HP4.out;have sz12:w6.heap.size≤w11.heap.size:=HK11.out.size;go_wp2_with (at_builtin;refine Jl _ rfl _ _ 61 rfl w6.heap.size 75 i0 _ 5 72 Tryz.underlying61 hi hz0 hz1 hz2 (by kernel_rfl) (by decide) (.slice o11 (A11).length c11) (A11).length (Je (A11)) rfl (HO11.out.alloc _) ⟨w11.heap.size,0,none⟩ 1 1 (Jo y) rfl rfl (Z3 w11 y 75) (Z4 y) (by unfold maxLen;omega) (by omega) (Nat.le_trans sz12 (by simp)) ?_);intro v12 w12 ho12 hg12 hw12;have hk12:Jb (Value.slice o11 (A11).length c11).ownBlock.toList w11 w12:=((Jb.refl _ w11).alloc _).grown hg12 (fun i e=>.inl (by simp [e]));have HK12:Hid (Jb [] w6 w12):=Ja ((HK11.out.up.trans hk12).mono (fun i hi hlt=>by have:=(HO11.out.lt i (by simpa using hi)).1;omega));have ho12b:w12.ownsRow w6.heap.size 75 5 v12 (A11++[y]).length (Je (A11++[y])):=by rw [Q7,List.length_append];exact ho12
          obtain ⟨A12,hN12⟩: ∃ A,A11++[y]=A:=⟨_,rfl⟩;have hLn12:(A12).length=(A11).length+1:=by rw [←hN12];simp
          rw [hN12] at ho12b;have HO12:=Ja ho12b;obtain ⟨o12,c12,hv12⟩:=Jg ho12b;subst hv12;have HLn12:=Ja hLn12;have HN12:=Ja hN12;have hLb12:(A12).length≤(A11).length+1:=by omega
          clear hk12 hg12 hw12 ho12 ho12b hLn12 hN12 sz12;have hst9:=HS9.out;rw [show acc++x::y::goE x (P.drop (m+1)) true=((acc++[x])++[y])++goE x (P.drop (m+1)) true from by simp,HN11.out,HN12.out] at hst9;have HF9:=Ja hst9;have hl11:=HLn11.out;have hl12:=HLn12.out;clear hst9 HS9;have hb12:A12.length≤m+1+1:=by omega
          clear hl11 hl12;go_wp2_with fail;go_roundw
          case rel=>exact ⟨m+1,true,A12,by go_num,by omega,rfl,HO12,HK12,hb12,(fun h=>by cases h),HF9⟩
          case measure=>simp [intOf];omega
        ·rw [if_neg (by simp)] at hst9;have HS9:=Ja hst9;clear hst9;go_wp2_with fail
         go_quiet (fail)
         obtain ⟨w8,hw8⟩: ∃ w8,w9.drewN nq=w8:=⟨_,rfl⟩;have hk8:Jb [] w9 w8:=by rw [←hw8];exact (Jb.refl [] w9).drewN _
         rw [hw8];have t0:=Jc hk8 q0;have t1:=Jc hk8 q1;have t2:=Jc hk8 q2;have t3:=Jc hk8 q3;have t4:=Jc hk8 q4;have HR8:=Ja (hk8.owns hR9.out (fun _ _=>List.not_mem_nil));have HK8:=Ja (hK9.out.trans hk8);clear hk8 hw8 c0 c1 c2 c3 c4 q0 q1 q2 q3 q4;have sz11:w6.heap.size≤w8.heap.size:=HK8.out.size;go_wp2_with (at_builtin;refine Jl _ rfl _ _ 61 rfl w6.heap.size 75 i0 _ 5 72 Tryz.underlying61 hi hz0 hz1 hz2 (by kernel_rfl) (by decide) (.slice vo9 (acc).length vc9) (acc).length (Je (acc)) rfl (HR8.out.alloc _) ⟨w8.heap.size,0,none⟩ 1 1 (Jo y) rfl rfl (Z3 w8 y 75) (Z4 y) (by unfold maxLen;omega) (by omega) (Nat.le_trans sz11 (by simp)) ?_);intro v11 w11 ho11 hg11 hw11;have hk11:Jb (Value.slice vo9 (acc).length vc9).ownBlock.toList w8 w11:=((Jb.refl _ w8).alloc _).grown hg11 (fun i e=>.inl (by simp [e]));have HK11:Hid (Jb [] w6 w11):=Ja ((HK8.out.up.trans hk11).mono (fun i hi hlt=>by have:=(HR8.out.lt i (by simpa using hi)).1;omega));have ho11b:w11.ownsRow w6.heap.size 75 5 v11 (acc++[y]).length (Je (acc++[y])):=by rw [Q7,List.length_append];exact ho11
         obtain ⟨A11,hN11⟩: ∃ A,acc++[y]=A:=⟨_,rfl⟩;have hLn11:(A11).length=(acc).length+1:=by rw [←hN11];simp
         rw [hN11] at ho11b;have HO11:=Ja ho11b;obtain ⟨o11,c11,hv11⟩:=Jg ho11b;subst hv11;have HLn11:=Ja hLn11;have HN11:=Ja hN11;have hLb11:(A11).length≤(acc).length+1:=by omega
         clear hk11 hg11 hw11 ho11 ho11b hLn11 hN11 sz11;have hst9:=HS9.out;rw [show acc++y::goE x (P.drop (m+1)) true=(acc++[y])++goE x (P.drop (m+1)) true from by simp,HN11.out] at hst9;have HF9:=Ja hst9;have hl11:=HLn11.out;clear hst9 HS9;have hb11:A11.length≤m+1+1:=by omega
         clear hl11;go_wp2_with fail;go_roundw
         case rel=>exact ⟨m+1,true,A11,by go_num,by omega,rfl,HO11,HK11,hb11,(fun h=>by cases h),HF9⟩
         case measure=>simp [intOf];omega
      ·have hst9:=hG.out;rw [List.drop_eq_nil_of_le (by omega)] at hst9;unfold goE at hst9;clear hG;cases put
       ·have c0:=Jc hK9.out a0;have c1:=Jc hK9.out a1;have c2:=Jc hK9.out a2;have c3:=Jc hK9.out a3;have c4:=Jc hK9.out a4;have hst9:acc++[x]=N:=by simpa using hst9
        have HS9:=Ja hst9;clear hst9;have hac3:=hac2 rfl;have f1:(o0+k * 5:Nat)=o0+k * 5:=rfl;have sz11:w6.heap.size≤w9.heap.size:=hK9.out.size;go_wp2_with (at_builtin;refine Jl _ rfl _ _ 61 rfl w6.heap.size 75 i0 _ 5 72 Tryz.underlying61 hi hz0 hz1 hz2 (by kernel_rfl) (by decide) (.slice vo9 (acc).length vc9) (acc).length (Je (acc)) rfl (hR9.out.alloc _) ⟨w9.heap.size,0,none⟩ 1 1 (Jo x) rfl rfl (Z3 w9 x 75) (Z4 x) (by unfold maxLen;omega) (by omega) (Nat.le_trans sz11 (by simp)) ?_);intro v11 w11 ho11 hg11 hw11;have hk11:Jb (Value.slice vo9 (acc).length vc9).ownBlock.toList w9 w11:=((Jb.refl _ w9).alloc _).grown hg11 (fun i e=>.inl (by simp [e]));have HK11:Hid (Jb [] w6 w11):=Ja ((hK9.out.up.trans hk11).mono (fun i hi hlt=>by have:=(hR9.out.lt i (by simpa using hi)).1;omega));have ho11b:w11.ownsRow w6.heap.size 75 5 v11 (acc++[x]).length (Je (acc++[x])):=by rw [Q7,List.length_append];exact ho11
        obtain ⟨A11,hN11⟩: ∃ A,acc++[x]=A:=⟨_,rfl⟩;have hLn11:(A11).length=(acc).length+1:=by rw [←hN11];simp
        rw [hN11] at ho11b;have HO11:=Ja ho11b;obtain ⟨o11,c11,hv11⟩:=Jg ho11b;subst hv11;have HLn11:=Ja hLn11;have HN11:=Ja hN11;have hLb11:(A11).length≤(acc).length+1:=by omega
        clear hk11 hg11 hw11 ho11 ho11b hLn11 hN11 sz11;have hA:A11=N:=by rw [←HN11.out];exact HS9.out
        have HF1:=Ja (show w11.ownsRow W.heap.size 75 5 (.slice o11 A11.length c11) N.length (Je N) from by rw [←hA];exact Yx HO11.out sz6);have HF2:=Ja (HK6.out.trans HK11.out);clear hA f1;go_wp2_with fail;go_roundw
        case rel=>exact ⟨k+1,by go_num,by omega,Ja (by rw [HN.out];exact HF1.out),HF2⟩
        case measure=>simp [intOf];omega
       ·have hst9:acc=N:=by simpa using hst9
        have HF1:=Ja (show w9.ownsRow W.heap.size 75 5 (.slice vo9 acc.length vc9) N.length (Je N) from by rw [←hst9];exact Yx hR9.out sz6);have HF2:=Ja (HK6.out.trans hK9.out);clear hst9;go_wp2_with fail;go_roundw
        case rel=>exact ⟨k+1,by go_num,by omega,Ja (by rw [HN.out];exact HF1.out),HF2⟩
        case measure=>simp [intOf];omega
  ·have hke:l.take k=l:=List.take_of_length_le (by omega);rw [hke] at hrow;rw [hke];have hPL:(XF es l).length≤32:=by have h9:=Jds l es;omega
   obtain ⟨PP,hPP⟩: ∃ PP,XF es l=PP:=⟨_,rfl⟩;rw [hPP] at hrow hPL;rw [hPP];obtain ⟨S,hS⟩: ∃ S,PP.take 20=S:=⟨_,rfl⟩;have HSH:=Ja (show Qy es l=S from by rw [←hS, ←hPP];rfl);clear hPP hke;by_cases hgt:20<PP.length
   ·have hd:decide ((20:Int)<(PP.length:Int))=true:=by simp;omega
    obtain ⟨gp,op,rfl,hcp9⟩:=(Jh.of_row hrow).addr (by omega);obtain ⟨_,_,e8,g9,g10⟩:=(Jh.of_row hrow).form;injection e8 with e81 e82 e83
    subst e83;have hcap:(20:Int)≤(vc:Int):=by omega
    have hcap2:PP.length≤vc:=g9;have HS:=Ja hS;clear e81 e82 hS;have HLS:=Ja (show Jh wr (.slice (some ⟨gp,op,none⟩) 20 vc) S.length 5 (Je S) from HS.out ▸ Jh.front 20 hgt g10 hcap2 hcp9);have hSl:S.length=20:=(by rw [←HS.out,List.length_take];omega);have hSb:S.length≤20:=by omega
    have HSl:=Ja hSl;clear hSl;obtain ⟨wE,hwE⟩: ∃ wE,wE=wr:=⟨_,rfl⟩;subst hwE;have HKE:=Ja hkr;have HRE:=Ja hrow;clear hkr hrow hcp9;go_wp2_with fail;go_loopw [12,13] (fun n i w3=> ∃ j:Nat,i=.int .i64 j∧j≤20∧n=.int .i64 (Ql (S.take j) es)∧Hid (Jb [] wE w3)) (fun _ i _=>20 - (intOf i).toNat)
    case atStart=>exact ⟨0,rfl,Nat.zero_le _,rfl,Ja (Jb.refl _ _)⟩
    case round=>
     obtain ⟨j,rfl,hj,rfl,hk3⟩:=hrel;obtain ⟨w5,hw5⟩: ∃ w5,w5=wr:=⟨_,rfl⟩;subst hw5;have hq:=Jen (S.take j) es;have hq2:(S.take j).length≤20:=Nat.le_trans (List.take_sublist _ _).length_le hSb;by_cases hjl:j<20
     ·have hjS:j<S.length:=by have:=HSl.out;omega
      obtain ⟨gs,os,hso,hcs⟩:=HLS.out.addr (by omega)
      first | subst hso | (cases hso)
      obtain ⟨s0,s1,s2,s3,s4⟩:=Qs hcs j hjS;have s0:=Jc hk3.out s0;have s1:=Jc hk3.out s1;have s2:=Jc hk3.out s2;have s3:=Jc hk3.out s3;have s4:=Jc hk3.out s4;have x0:=Jc (HKE.out.trans hk3.out) b0;have hot:=Jc8 S es j hjS;have hcase:=YX S[j].id es;have hhas:=Jl7 HO.out S[j];have hea:=fun n=>JaC S[j].id (w5.drewN n) _ es (HE.out.keeps ((HKE.out.trans hk3.out).drewN n));have heq:=fun (i:Nat) (hi:i<es.length) w=>Jni es[i] S[j] w;have hgd:Tryz.prog.eqGuardType Tryz.prog.depth 75=false:=by kernel_rfl
      have e3:(0:Int)≤(j:Int):=by omega
      have e4:(j:Int)<((20:Nat):Int):=by omega
      clear hcs;generalize S[j]=z at *;obtain ⟨q,hqq⟩: ∃ q,Ql (S.take j) es=q:=⟨_,rfl⟩;rw [hqq] at hot hq ⊢;have hq20:q≤20:=by omega
      clear hqq hq hq2;rcases hcase with ⟨h9,hno⟩ | ⟨i,hi9,h9,hid⟩
      ·have hh:ZQ es z=false:=by
        rw [Bool.eq_false_iff];intro h;obtain ⟨i,hi,h8,_⟩:=hhas.1 h;omega
       rw [hh] at hot;have HOT:=Ja (show Ql (S.take (j+1)) es=q+1 from by simpa using hot);simp only [h9] at hea;have HEA:=Ja hea;clear hot hh hhas heq hea h9 hno;go_wp2_with fail
       go_quiet ((go_at_call 54;exact Calls.quiet_of_same (HEA.out _)))
       go_wp2_with fail
       go_quiet (fail)
       go_wp2_with fail;go_roundw
       case rel=>exact ⟨j+1,by go_num,by omega,by rw [HOT.out];go_num,Ja (hk3.out.drewN _)⟩
       case measure=>simp [intOf];omega
      ·obtain ⟨ge,oe,heo,hce⟩:=HE.out.addr (by omega)
       first | subst heo | (cases heo)
       obtain ⟨r0,r1,r2,r3,r4⟩:=Qs hce i hi9;have r0:=Jc (HKE.out.trans hk3.out) r0;have r1:=Jc (HKE.out.trans hk3.out) r1;have r2:=Jc (HKE.out.trans hk3.out) r2;have r3:=Jc (HKE.out.trans hk3.out) r3;have r4:=Jc (HKE.out.trans hk3.out) r4;have heq:=heq i hi9;have d1:(0:Int)≤(i:Int):=by omega
       have d2:(i:Int)<(es.length:Int):=by omega
       simp only [h9] at hea;have HEA:=Ja hea;clear hce hea hid;by_cases hez:es[i]=z
       ·have hh:ZQ es z=true:=hhas.2 ⟨i,hi9,h9,hez⟩;have hee:eqE es[i] z=true:=(Ja5 _ _).2 hez;rw [hh] at hot;have HOT:=Ja (show Ql (S.take (j+1)) es=q from by simpa using hot);simp only [hee,Bool.not_true] at heq;clear hot hh hhas h9 hez hee;generalize es[i]=y at *;go_wp2_with fail
        go_quiet ((go_at_call 54;exact Calls.quiet_of_same (HEA.out _)))
        go_wp2_with fail
        go_quiet (fail)
        go_wp2_with fail;go_roundw
        case rel=>exact ⟨j+1,by go_num,by omega,by rw [HOT.out],Ja (hk3.out.drewN _)⟩
        case measure=>simp [intOf];omega
       ·have hh:ZQ es z=false:=by
         rw [Bool.eq_false_iff];intro h;obtain ⟨i2,hi2,h8,h7⟩:=hhas.1 h;have e:i2=i:=by omega
         subst e;exact hez h7
        have hee:eqE es[i] z=false:=by
         rw [Bool.eq_false_iff];exact fun h=>hez ((Ja5 _ _).1 h)
        rw [hh] at hot;have HOT:=Ja (show Ql (S.take (j+1)) es=q+1 from by simpa using hot);simp only [hee,Bool.not_false] at heq;clear hot hh hhas h9 hez hee;generalize es[i]=y at *;go_wp2_with fail
        go_quiet ((go_at_call 54;exact Calls.quiet_of_same (HEA.out _)))
        go_wp2_with fail
        go_quiet (fail)
        go_wp2_with fail;go_roundw
        case rel=>exact ⟨j+1,by go_num,by omega,by rw [HOT.out];go_num,Ja (hk3.out.drewN _)⟩
        case measure=>simp [intOf];omega
     ·have hjt:S.take j=S:=List.take_of_length_le (by have:=HSl.out;omega);have hqs:=Ja (show Ql (S.take j) es=Ql (Qy es l) es from by rw [hjt,HSH.out]);generalize Ql (S.take j) es=q at *;have hkW5:=HKE.out.trans hk3.out;have hb5:=(hkW5.block _ (lt_of_block HB1.out) List.not_mem_nil).trans HB1.out;have z0:=Jd hb5 0;have z1:=Jd hb5 1;have f0:=Jn hb5 0;have f1:=Jn hb5 1;simp at z0 z1;have x1:=Jc hkW5 b1;have HB5:=Ja hb5;have HK5:=Ja hkW5;have hks:=Ja (Qx w5 (w.heap.size+1) (.slice (some ⟨gp,op,none⟩) (20) vc) (.slice ro rd.length rc));have HRF:=Ja (hks.out.owns (hk3.out.owns HRE.out (fun _ _=>List.not_mem_nil)) (fun g hg hm=>by have:=(HRE.out.lt g hg).1;simp at hm;omega));clear hb5 hkW5 hjt;go_wp2_with fail;have hkk:=JF (HKW.out.trans HK5.out) hks.out (fun g hg hlt=>by simp at hg;omega);exact ⟨rfl,_,Q9 (P:=Tryz.prog) rfl _ _ (w.heap.size+1) 64 _ (0,0) _ rfl (QV _ _ HB5.out) Tryz.underlying64 rfl (by kernel_rfl),.slice (some ⟨gp,op,none⟩) (20) vc,.slice ro rd.length rc,Eq.trans (b:=Ending.returned (.tuple #[.agg #[.slice (some ⟨gp,op,none⟩) (20) vc,.slice ro rd.length rc],.int .i64 q])) rfl (congrArg (fun c:Nat=>Ending.returned (.tuple #[.agg #[.slice (some ⟨gp,op,none⟩) (20) vc,.slice ro rd.length rc],.int .i64 c])) hqs.out),by rw [HSH.out];exact (by obtain ⟨g9,o9,h9,hc9⟩:=(Jh.of_row HRF.out).addr (by omega);cases h9;exact HS.out ▸ Jh.front 20 hgt g10 hcap2 hc9),HR0.out.keeps hkk,hkk⟩
   ·have hd:decide ((20:Int)<(PP.length:Int))=false:=by simp;omega
    have hSP:S=PP:=by rw [←hS];exact List.take_of_length_le (by omega)
    subst hSP;have hcp9:True:=trivial;clear hS;have HLS:=Ja (Jh.of_row hrow);have hSl:S.length=S.length:=rfl;have hSb:S.length≤20:=by omega
    have HSl:=Ja hSl;clear hSl;obtain ⟨wE,hwE⟩: ∃ wE,wE=wr:=⟨_,rfl⟩;subst hwE;have HKE:=Ja hkr;have HRE:=Ja hrow;clear hkr hrow hcp9;go_wp2_with fail;go_loopw [12,13] (fun n i w3=> ∃ j:Nat,i=.int .i64 j∧j≤S.length∧n=.int .i64 (Ql (S.take j) es)∧Hid (Jb [] wE w3)) (fun _ i _=>S.length - (intOf i).toNat)
    case atStart=>exact ⟨0,rfl,Nat.zero_le _,rfl,Ja (Jb.refl _ _)⟩
    case round=>
     obtain ⟨j,rfl,hj,rfl,hk3⟩:=hrel;obtain ⟨w5,hw5⟩: ∃ w5,w5=wr:=⟨_,rfl⟩;subst hw5;have hq:=Jen (S.take j) es;have hq2:(S.take j).length≤20:=Nat.le_trans (List.take_sublist _ _).length_le hSb;by_cases hjl:j<S.length
     ·have hjS:j<S.length:=by have:=HSl.out;omega
      obtain ⟨gs,os,hso,hcs⟩:=HLS.out.addr (by omega)
      first | subst hso | (cases hso)
      obtain ⟨s0,s1,s2,s3,s4⟩:=Qs hcs j hjS;have s0:=Jc hk3.out s0;have s1:=Jc hk3.out s1;have s2:=Jc hk3.out s2;have s3:=Jc hk3.out s3;have s4:=Jc hk3.out s4;have x0:=Jc (HKE.out.trans hk3.out) b0;have hot:=Jc8 S es j hjS;have hcase:=YX S[j].id es;have hhas:=Jl7 HO.out S[j];have hea:=fun n=>JaC S[j].id (w5.drewN n) _ es (HE.out.keeps ((HKE.out.trans hk3.out).drewN n));have heq:=fun (i:Nat) (hi:i<es.length) w=>Jni es[i] S[j] w;have hgd:Tryz.prog.eqGuardType Tryz.prog.depth 75=false:=by kernel_rfl
      have e3:(0:Int)≤(j:Int):=by omega
      have e4:(j:Int)<((S.length:Nat):Int):=by omega
      clear hcs;generalize S[j]=z at *;obtain ⟨q,hqq⟩: ∃ q,Ql (S.take j) es=q:=⟨_,rfl⟩;rw [hqq] at hot hq ⊢;have hq20:q≤20:=by omega
      clear hqq hq hq2;rcases hcase with ⟨h9,hno⟩ | ⟨i,hi9,h9,hid⟩
      ·have hh:ZQ es z=false:=by
        rw [Bool.eq_false_iff];intro h;obtain ⟨i,hi,h8,_⟩:=hhas.1 h;omega
       rw [hh] at hot;have HOT:=Ja (show Ql (S.take (j+1)) es=q+1 from by simpa using hot);simp only [h9] at hea;have HEA:=Ja hea;clear hot hh hhas heq hea h9 hno;go_wp2_with fail
       go_quiet ((go_at_call 54;exact Calls.quiet_of_same (HEA.out _)))
       go_wp2_with fail
       go_quiet (fail)
       go_wp2_with fail;go_roundw
       case rel=>exact ⟨j+1,by go_num,by omega,by rw [HOT.out];go_num,Ja (hk3.out.drewN _)⟩
       case measure=>simp [intOf];omega
      ·obtain ⟨ge,oe,heo,hce⟩:=HE.out.addr (by omega)
       first | subst heo | (cases heo)
       obtain ⟨r0,r1,r2,r3,r4⟩:=Qs hce i hi9;have r0:=Jc (HKE.out.trans hk3.out) r0;have r1:=Jc (HKE.out.trans hk3.out) r1;have r2:=Jc (HKE.out.trans hk3.out) r2;have r3:=Jc (HKE.out.trans hk3.out) r3;have r4:=Jc (HKE.out.trans hk3.out) r4;have heq:=heq i hi9;have d1:(0:Int)≤(i:Int):=by omega
       have d2:(i:Int)<(es.length:Int):=by omega
       simp only [h9] at hea;have HEA:=Ja hea;clear hce hea hid;by_cases hez:es[i]=z
       ·have hh:ZQ es z=true:=hhas.2 ⟨i,hi9,h9,hez⟩;have hee:eqE es[i] z=true:=(Ja5 _ _).2 hez;rw [hh] at hot;have HOT:=Ja (show Ql (S.take (j+1)) es=q from by simpa using hot);simp only [hee,Bool.not_true] at heq;clear hot hh hhas h9 hez hee;generalize es[i]=y at *;go_wp2_with fail
        go_quiet ((go_at_call 54;exact Calls.quiet_of_same (HEA.out _)))
        go_wp2_with fail
        go_quiet (fail)
        go_wp2_with fail;go_roundw
        case rel=>exact ⟨j+1,by go_num,by omega,by rw [HOT.out],Ja (hk3.out.drewN _)⟩
        case measure=>simp [intOf];omega
       ·have hh:ZQ es z=false:=by
         rw [Bool.eq_false_iff];intro h;obtain ⟨i2,hi2,h8,h7⟩:=hhas.1 h;have e:i2=i:=by omega
         subst e;exact hez h7
        have hee:eqE es[i] z=false:=by
         rw [Bool.eq_false_iff];exact fun h=>hez ((Ja5 _ _).1 h)
        rw [hh] at hot;have HOT:=Ja (show Ql (S.take (j+1)) es=q+1 from by simpa using hot);simp only [hee,Bool.not_false] at heq;clear hot hh hhas h9 hez hee;generalize es[i]=y at *;go_wp2_with fail
        go_quiet ((go_at_call 54;exact Calls.quiet_of_same (HEA.out _)))
        go_wp2_with fail
        go_quiet (fail)
        go_wp2_with fail;go_roundw
        case rel=>exact ⟨j+1,by go_num,by omega,by rw [HOT.out];go_num,Ja (hk3.out.drewN _)⟩
        case measure=>simp [intOf];omega
     ·have hjt:S.take j=S:=List.take_of_length_le (by have:=HSl.out;omega);have hqs:=Ja (show Ql (S.take j) es=Ql (Qy es l) es from by rw [hjt,HSH.out]);generalize Ql (S.take j) es=q at *;have hkW5:=HKE.out.trans hk3.out;have hb5:=(hkW5.block _ (lt_of_block HB1.out) List.not_mem_nil).trans HB1.out;have z0:=Jd hb5 0;have z1:=Jd hb5 1;have f0:=Jn hb5 0;have f1:=Jn hb5 1;simp at z0 z1;have x1:=Jc hkW5 b1;have HB5:=Ja hb5;have HK5:=Ja hkW5;have hks:=Ja (Qx w5 (w.heap.size+1) (.slice vo (S.length) vc) (.slice ro rd.length rc));have HRF:=Ja (hks.out.owns (hk3.out.owns HRE.out (fun _ _=>List.not_mem_nil)) (fun g hg hm=>by have:=(HRE.out.lt g hg).1;simp at hm;omega));clear hb5 hkW5 hjt;go_wp2_with fail;have hkk:=JF (HKW.out.trans HK5.out) hks.out (fun g hg hlt=>by simp at hg;omega);exact ⟨rfl,_,Q9 (P:=Tryz.prog) rfl _ _ (w.heap.size+1) 64 _ (0,0) _ rfl (QV _ _ HB5.out) Tryz.underlying64 rfl (by kernel_rfl),.slice vo (S.length) vc,.slice ro rd.length rc,Eq.trans (b:=Ending.returned (.tuple #[.agg #[.slice vo (S.length) vc,.slice ro rd.length rc],.int .i64 q])) rfl (congrArg (fun c:Nat=>Ending.returned (.tuple #[.agg #[.slice vo (S.length) vc,.slice ro rd.length rc],.int .i64 c])) hqs.out),by rw [HSH.out];exact Jh.of_row HRF.out,HR0.out.keeps hkk,hkk⟩
theorem JcY {w:World} {a:Addr} {u:Value} (h:w.cell? a=some u):a.block<w.heap.size:=by
 rcases Nat.lt_or_ge a.block w.heap.size with h' | h'
 ·exact h'
 ·unfold World.cell? at h;rw [Array.getElem?_eq_none h'] at h;simp at h
theorem Jmd (w:World) (c0 cs:Array Value) (j:Nat) (u:Value) (h:cs.toList[j]?=some u):((w.alloc (.cells c0 45)).alloc (.cells cs 45)).cell? ((⟨w.heap.size+1,0,none⟩:Addr).add j)=some u:=by
 have:=J9 (w.alloc (.cells c0 45)) cs 45 j u h;simpa using this
theorem Jmj: ∀ (l:List Pn),(∀ p∈l,(∃ o n c,p.av=.slice o n c)∧ ∃ o n c,p.kv=.slice o n c)→ ∀ u∈Jk l,u.oneCell'=true
 | [],_,u,h=>by simp [Jk] at h
 | p::l,hf,u,h=>by
   have e:Jk (p::l)=Qd p++Jk l:=by simp [Jk]
   rw [e,List.mem_append] at h;rcases h with h | h
   ·obtain ⟨⟨o,n,c,ha⟩,⟨o',n',c',hk⟩⟩:=hf p (by simp);simp [Qd,ha,hk] at h;rcases h with rfl | rfl | rfl | rfl<;>rfl
   ·exact Jmj l (fun p hp=>hf p (by simp [hp])) u h
structure Y4 (w:World) (B:Nat) (ov:Value) (l:List Pn):Prop where
 row:w.ownsRow B 45 4 ov l.length (Jk l)
 done: ∀ q∈l,QB w (Qp B ov.ownBlock.toList) q.av q.nd.attrs.length 2 (Jj q.nd.attrs)∧Ns w (Qp B ov.ownBlock.toList) q.kv q.nd.kids
theorem Y4.keepsNil {w w':World} {B:Nat} {ov:Value} {l:List Pn} (h:Y4 w B ov l) (hk:Jb [] w w'):Y4 w' B ov l:=
 ⟨hk.owns h.row (fun _ _=>List.not_mem_nil),fun q hq=>⟨(h.done q hq).1.keeps hk (fun _ _=>List.not_mem_nil),(h.done q hq).2.keeps hk (fun _ _=>List.not_mem_nil)⟩⟩
theorem Y4.start (w:World) (B:Nat):Y4 w B (.slice none 0 0) []:=⟨World.ownsRow_nil _ _ _ _,by simp⟩
theorem Y4.push {w w':World} {B:Nat} {ov:Value} {l:List Pn} {q:Pn} (h:Y4 w B ov l) (hk:Jb ov.ownBlock.toList w w') {av:Value} (ho:w'.ownsRow B 45 4 av (l.length+1) (Jk l++Qd q)) (hw:av.ownBlock=ov.ownBlock∨ ∃ n,av.ownBlock=some n∧w.heap.size≤n)
  (hqa:QB w (Qp B ov.ownBlock.toList) q.av q.nd.attrs.length 2 (Jj q.nd.attrs)) (hqk:Ns w (Qp B ov.ownBlock.toList) q.kv q.nd.kids):Y4 w' B av (l++[q]):=by
 have hT: ∀ g,g<w.heap.size→g∈av.ownBlock.toList→g∈ov.ownBlock.toList:=by
  intro g hg hm;rcases hw with hw | ⟨n,hw,hn⟩
  ·rw [←hw];exact hm
  ·rw [hw] at hm;simp at hm;omega
 have ec:Jk (l++[q])=Jk l++Qd q:=by simp [Jk]
 refine ⟨?_,fun p hp=>?_⟩
 ·rw [ec,List.length_append,List.length_singleton];exact ho
 ·rcases List.mem_append.1 hp with hp | hp
  ·exact ⟨(h.done p hp).1.move hk (fun _ h=>h) hT,(h.done p hp).2.move hk (fun _ h=>h) hT⟩
  ·simp at hp;subst hp;exact ⟨hqa.move hk (fun _ h=>h) hT,hqk.move hk (fun _ h=>h) hT⟩
theorem Y4.ns {w:World} {B:Nat} {ov:Value} {l:List Pn} (h:Y4 w B ov l):Ns w (fun g=>B≤g) ov (l.map Pn.nd):=
 .mk _ l _ rfl (QB.of_row h.row (fun g hg=>(h.row.lt g hg).1)) (fun p hp=>(h.done p hp).1.mono (fun _ _ hg=>hg.1)) (fun p hp=>(h.done p hp).2.mono (fun _ _ hg=>hg.1))
def txV (tx:List UInt8):Value:=.agg #[.string ⟨#[]⟩,.slice none 0 0,.string ⟨tx.toArray⟩,.slice none 0 0]
def txP (tx:List UInt8):Pn:=⟨.mk [] [] tx [],.slice none 0 0,.slice none 0 0⟩
def JjL (w:World) (B:Nat) (ov:Value) (l:List Pn) (tx:List UInt8) (e:Ending) (w':World):Prop:=
 ∃ v',e=.returned v'∧Y4 w' B v' (l++[txP tx])∧(v'.ownBlock=ov.ownBlock∨ ∃ g,v'.ownBlock=some g∧w.heap.size≤g)∧Jb ov.ownBlock.toList w w'
theorem Jkq {w w3:World} {B:Nat} {ov v3:Value} {l:List Pn} {tx:List UInt8} {s:Nat} (h:Y4 w B ov l) (hk:Jb ov.ownBlock.toList w w3) (ho:w3.ownsRow B 45 4 v3 (l.length+1) (Jk l++[.string ⟨#[]⟩,.slice none 0 0,.string ⟨tx.toArray⟩,.slice none 0 0])) (hw:v3.ownBlock=ov.ownBlock∨v3.ownBlock=some s) (hs:w.heap.size≤s):
  JjL w B ov l tx (.returned v3) w3:=
 have hw2:v3.ownBlock=ov.ownBlock∨ ∃ g,v3.ownBlock=some g∧w.heap.size≤g:=hw.imp id fun h=>⟨s,h,hs⟩
 ⟨v3,rfl,h.push (q:=txP tx) hk ho hw2 ⟨rfl,.inl ⟨rfl,none,0,rfl,by simp [maxLen]⟩⟩ (Ns.nil _ _ none 0 (by simp [maxLen])),hw2,hk⟩
set_option maxRecDepth 4000 in
theorem Jko (B:Nat) (c:Nat) (o:Option Addr) (tx:List UInt8) (w:World) (h:Y4 w B (.slice o 0 c) []) (hB:B≤w.heap.size):
  Calls Tryz.prog 176 #[.slice o 0 c,txV tx] w fun e w'=>JjL w B (.slice o 0 c) [] tx e w':=by
 obtain ⟨i0,hi,hz0,hz1,hz2⟩:=info_parts Jbs;have hrow:=Ja h.row;have HH:=Ja h;unfold txV;clear h;go_enter Tryz.func176,Tryz.ntmps176;go_wp2_with (at_builtin;refine Jl _ rfl _ _ 29 rfl B 45 i0 _ 4 80 Tryz.underlying29 hi hz0 hz1 hz2 (by kernel_rfl) (by decide) (.slice o 0 c) 0 [] rfl ((hrow.out.alloc _).alloc _) ⟨w.heap.size+1,0,none⟩ 1 1 [.string ⟨#[]⟩,.slice none 0 0,.string ⟨tx.toArray⟩,.slice none 0 0] rfl rfl (Jmd w #[.string ⟨#[]⟩,.slice none 0 0,.string ⟨tx.toArray⟩,.slice none 0 0] #[.string ⟨#[]⟩,.slice none 0 0,.string ⟨tx.toArray⟩,.slice none 0 0]) ?c2 ?c3 ?c4 ?c5 ?_)
 case c2=>first | (intro u hu;simp at hu;rcases hu with rfl | rfl | rfl | rfl<;>rfl) | exact ⟨rfl,rfl,rfl,rfl⟩
 case c3=>unfold maxLen;omega
 case c4=>omega
 case c5=>first | omega | (simp;omega)
 intro v3 w3 ho3 hg3 hw3;have hk3:Jb ((.slice o 0 c):Value).ownBlock.toList w w3:=(((Jb.refl _ w).alloc _).alloc _).grown hg3 (fun i e=>.inl (by simp [e]));have hfin:=Ja (Jkq (tx:=tx) HH.out hk3 ho3 hw3 (by omega));go_wp2_with fail;go_ret;exact hfin.out
set_option maxRecDepth 4000 in
theorem Jlw (B:Nat) (c:Nat) (o:Option Addr) (l:List Pn) (q:Pn) (tx:List UInt8) (w:World) (h:Y4 w B (.slice o (l.length+1) c) (l++[q])) (hq:q.nd.name≠[]) (hll:l.length≤1000000) (hB:B≤w.heap.size):
  Calls Tryz.prog 176 #[.slice o (l.length+1) c,txV tx] w fun e w'=>JjL w B (.slice o (l.length+1) c) (l++[q]) tx e w':=by
 obtain ⟨i0,hi,hz0,hz1,hz2⟩:=info_parts Jbs;have hrow:=Ja (show w.ownsRow B 45 4 (.slice o (l.length+1) c) (l.length+1) (Jk (l++[q])) from by simpa using h.row);have hli:=Jh.of_row hrow.out;obtain ⟨g,x,rfl,hcl⟩:=hli.addr (by omega);have a0:=(YJ (l:=l++[q]) hcl l.length (by simp)).1;simp only [List.getElem_append_right (Nat.le_refl _),Nat.sub_self,List.getElem_cons_zero] at a0;have q0:(q.nd.name==[])=false:=by simpa using hq
 have q1:=(Jp q.nd.name _).trans q0;have hlt:=JcY a0;have b0: ∀ o,(w.alloc o).cell? ⟨g,x+l.length * 4,none⟩=some (.string ⟨q.nd.name.toArray⟩):=fun o=>(JI (a:=⟨g,x+l.length * 4,none⟩) hlt o).trans a0;have HH:=Ja h;generalize q.nd.name=qn at a0 b0 q0 q1 hq;unfold txV;clear h hli hcl;go_enter Tryz.func176,Tryz.ntmps176;go_wp2_with (at_builtin;refine Jl _ rfl _ _ 29 rfl B 45 i0 _ 4 80 Tryz.underlying29 hi hz0 hz1 hz2 (by kernel_rfl) (by decide) (.slice (some ⟨g,x,none⟩) (l.length+1) c) (l.length+1) (Jk (l++[q])) rfl ((hrow.out.alloc _).alloc _) ⟨w.heap.size+1,0,none⟩ 1 1 [.string ⟨#[]⟩,.slice none 0 0,.string ⟨tx.toArray⟩,.slice none 0 0] rfl rfl (Jmd w #[.string ⟨#[]⟩,.slice none 0 0,.string ⟨tx.toArray⟩,.slice none 0 0] #[.string ⟨#[]⟩,.slice none 0 0,.string ⟨tx.toArray⟩,.slice none 0 0]) ?c2 ?c3 ?c4 ?c5 ?_)
 case c2=>first | (intro u hu;simp at hu;rcases hu with rfl | rfl | rfl | rfl<;>rfl) | exact ⟨rfl,rfl,rfl,rfl⟩
 case c3=>unfold maxLen;omega
 case c4=>omega
 case c5=>first | omega | (simp;omega)
 intro v3 w3 ho3 hg3 hw3;have hk3:Jb ((.slice (some ⟨g,x,none⟩) (l.length+1) c):Value).ownBlock.toList w w3:=(((Jb.refl _ w).alloc _).alloc _).grown hg3 (fun i e=>.inl (by simp [e]));have hfin:=Ja (Jkq (tx:=tx) HH.out hk3 (by simpa using ho3) hw3 (by omega));go_wp2_with fail;go_ret;exact hfin.out
def txQ (q:Pn) (tx:List UInt8):Pn:=⟨.mk q.nd.name q.nd.attrs (q.nd.text++tx) q.nd.kids,q.av,q.kv⟩
theorem JsM (l:List Pn) (q:Pn) (tx:List UInt8):(Jk (l++[q])).set (l.length * 4+2) (.string ⟨(q.nd.text++tx).toArray⟩)=Jk (l++[txQ q tx]):=by
 have e1: ∀ p:Pn,Jk (l++[p])=Jk l++Qd p:=fun p=>by simp [Jk]
 rw [e1,e1,List.set_append_right _ _ (by rw [Yq];omega),Yq,show l.length * 4+2 - l.length * 4=2 from by omega];obtain ⟨⟨n,a,t,k⟩,av,kv⟩:=q;rfl
theorem JoJ (W:World) (B:Nat) (hB:B≤W.heap.size):(W.alloc (.cells #[] 45)).ownsRow B 45 4 (.slice (some ⟨W.heap.size,0,none⟩) 0 0) 0 []:=
 ⟨rfl,.inr ⟨W.heap.size,0,#[],rfl,hB,heap_alloc_new W _,Nat.le_refl _,Nat.zero_le _,rfl,rfl⟩⟩
def JtG (w:World) (B:Nat) (l:List Pn) (q:Pn) (tx:List UInt8) (e:Ending) (w':World):Prop:=
 ∃ v' g,e=.returned v'∧Y4 w' B v' (l++[txQ q tx])∧v'.ownBlock=some g∧w.heap.size≤g∧Jb [] w w'
set_option maxRecDepth 4000 in
theorem Jlx (B:Nat) (c:Nat) (o:Option Addr) (l:List Pn) (q:Pn) (tx:List UInt8) (w:World) (h:Y4 w B (.slice o (l.length+1) c) (l++[q])) (hq:q.nd.name=[]) (hll:l.length≤1000000) (hB:B≤w.heap.size) (hqt:q.nd.text.length+tx.length≤1000000000):
  Calls Tryz.prog 176 #[.slice o (l.length+1) c,txV tx] w fun e w'=>JtG w B l q tx e w':=by
 obtain ⟨i0,hi,hz0,hz1,hz2⟩:=info_parts Jbs;have hrow:=Ja (show w.ownsRow B 45 4 (.slice o (l.length+1) c) (l.length+1) (Jk (l++[q])) from by simpa using h.row);have hli:=Jh.of_row hrow.out;obtain ⟨g,x,rfl,hcl⟩:=hli.addr (by omega);have a0:=(YJ (l:=l++[q]) hcl l.length (by simp)).1;simp only [List.getElem_append_right (Nat.le_refl _),Nat.sub_self,List.getElem_cons_zero] at a0;rw [hq] at a0;have hlt:=JcY a0;have b0: ∀ o,(w.alloc o).cell? ⟨g,x+l.length * 4,none⟩=some (.string ⟨([]:List UInt8).toArray⟩):=fun o=>(JI (a:=⟨g,x+l.length * 4,none⟩) hlt o).trans a0;have HH:=Ja h;have hone: ∀ u∈Jk (l++[q]),u.oneCell'=true:=Jmj _ (fun p hp=>⟨by obtain ⟨o,c,h9⟩:=(h.done p hp).1.form;exact ⟨_,_,_,h9⟩,by obtain ⟨o,c,h9⟩:=(h.done p hp).2.form;exact ⟨_,_,_,h9⟩⟩);unfold txV;clear h hli;have HCL:=Ja hcl;clear hcl;have her:=Ja (JoJ (w.alloc (.cells #[.string ⟨#[]⟩,.slice none 0 0,.string ⟨tx.toArray⟩,.slice none 0 0] 45)) (w.heap.size+1) (by simp));go_enter Tryz.func176,Tryz.ntmps176;go_wp2_with (at_builtin;refine Jl _ rfl _ _ 29 rfl (w.heap.size+1) 45 i0 _ 4 80 Tryz.underlying29 hi hz0 hz1 hz2 (by kernel_rfl) (by decide) (.slice (some ⟨w.heap.size+1,0,none⟩) 0 0) 0 [] rfl (by have h9:=her.out;simpa using h9) ⟨g,x,none⟩ (l.length+1) c (Jk (l++[q])) rfl (by rw [Yq];simp) ?c1 ?c2 ?c3 ?c4 ?c5 ?_)
 case c1=>exact HCL.out
 case c2=>exact hone
 case c3=>unfold maxLen;omega
 case c4=>omega
 intro v3 w3 ho3 hg3 hw3
 try simp only [Nat.zero_add,List.nil_append] at ho3
 have hk3:Jb [w.heap.size+1] ((w.alloc (.cells #[.string ⟨#[]⟩,.slice none 0 0,.string ⟨tx.toArray⟩,.slice none 0 0] 45)).alloc (.cells #[] 45)) w3:=(Jb.refl _ _).grown hg3 (fun i e=>.inl (by simp [Value.ownBlock] at e ⊢;exact e.symm));obtain ⟨g3,c3,rfl,hge3,hb3⟩: ∃ g3 c3,v3=.slice (some ⟨g3,0,none⟩) (l.length+1) c3∧w.heap.size+1≤g3∧ ∃ cur,w3.heap[g3]?=some (.cells cur 45 (0,0)):=by
  rcases ho3.2 with ⟨_,h0⟩ | ⟨g,cap,cur,e,hb,hc,_⟩
  ·omega
  ·exact ⟨g,cap,e,hb,cur,hc⟩
 obtain ⟨cur,hb3⟩:=hb3;obtain ⟨g',x',hgx,hc3⟩:=(Jh.of_row ho3).addr (by omega);cases hgx;have r2:=(YJ (l:=l++[q]) hc3 l.length (by simp)).2.2.1;simp only [List.getElem_append_right (Nat.le_refl _),Nat.sub_self,List.getElem_cons_zero,Nat.zero_add] at r2;have f2:w3.frozen? ⟨g3,l.length * 4+2,none⟩=false:=Jn hb3 _;have x2:w3.cell? ⟨w.heap.size,2,none⟩=some (.string ⟨tx.toArray⟩):=JE hk3 (a:=⟨w.heap.size,2,none⟩) (by simp) ((JI (a:=⟨w.heap.size,2,none⟩) (by simp) _).trans (Jd (heap_alloc_new w _) 2));have hst:=(ho3.stored (l.length * 4+2) (.string ⟨(q.nd.text++tx).toArray⟩)).1;rw [JsM] at hst;have hgl:w3.heap.size > g3:=lt_of_block hb3;have HST:=Ja hst;have HK3:=Ja hk3;have hcat:(⟨q.nd.text.toArray⟩:ByteArray)++⟨tx.toArray⟩=⟨(q.nd.text++tx).toArray⟩:=by apply WideShapes.bytes_inj;simp
 clear hst hk3 hc3 hg3 hw3 ho3 hb3 her;have hss: ¬ 9223372036854775807<(⟨q.nd.text.toArray⟩:ByteArray).size+(⟨tx.toArray⟩:ByteArray).size:=by rw [Jv,Jv];omega
 go_wp2_with fail
 go_region
 go_wp2_with fail;go_ret;have hk0:Jb [] w ((w.alloc (.cells #[.string ⟨#[]⟩,.slice none 0 0,.string ⟨tx.toArray⟩,.slice none 0 0] 45)).alloc (.cells #[] 45)):=((Jb.refl [] w).alloc _).alloc _;have hk4:Jb [] w w3:=JF hk0 HK3.out (fun g hg hlt=>by simp at hg;omega);have hk5:Jb [] w (w3.setCell ⟨g3,l.length * 4+2,none⟩ (.string ⟨(q.nd.text++tx).toArray⟩)):=JF hk4 ((Jb.refl [g3] w3).setCell (.inl (by simp)) _) (fun g hg hlt=>by simp at hg;omega);have hkf:=hk5.drew;have hrw:=HST.out.drew;have hD:=HH.out.done;generalize (w3.setCell ⟨g3,l.length * 4+2,none⟩ (.string ⟨(q.nd.text++tx).toArray⟩)).drew=w4 at *;have hT: ∀ b,b<w.heap.size→b∈(Value.slice (some ⟨g3,0,none⟩) (l.length+1) c3).ownBlock.toList→b∈(Value.slice (some ⟨g,x,none⟩) (l.length+1) c).ownBlock.toList:=fun b hg hm=>by simp [Value.ownBlock] at hm;omega
 refine ⟨.slice (some ⟨g3,0,none⟩) (l.length+1) c3,g3,rfl,⟨?_,fun p hp=>?_⟩,rfl,by omega,hkf⟩
 ·rw [List.length_append,List.length_singleton];exact hrw.mono (by omega)
 ·rcases List.mem_append.1 hp with hp | hp
  ·exact ⟨(hD p (by simp [hp])).1.move hkf (fun _ h=>by simp at h) hT,(hD p (by simp [hp])).2.move hkf (fun _ h=>by simp at h) hT⟩
  ·simp at hp;subst hp;exact ⟨(hD q (by simp)).1.move hkf (fun _ h=>by simp at h) hT,(hD q (by simp)).2.move hkf (fun _ h=>by simp at h) hT⟩
def YP (os:List (List UInt8)):List Value:=os.map fun s=>.string ⟨s.toArray⟩
theorem Jey (os:List (List UInt8)) (k:Nat) (hk:k<os.length):(YP os)[k * 1]?=some (.string ⟨os[k].toArray⟩):=by simp [YP,hk]
def Jte (m:Nat) (i:Value):Prop:=i=.int .i64 (-1)∨ ∃ k:Nat,k<m∧i=.int .i64 k
theorem Jte.start (m:Nat) {x:Int} (h:x=(m:Int) - 1):Jte m (.int .i64 x):=by
 cases m with
 | zero=>subst h;exact .inl rfl
 | succ m=>subst h;exact .inr ⟨m,by omega,by rw [show ((m+1:Nat):Int) - 1=(m:Int) from by omega]⟩
theorem Jfq (nm:List UInt8) (w:World):Calls Tryz.prog 178 #[.string ⟨nm.toArray⟩] w fun e w'=>e=.returned (.bool (Qm nm))∧w'=w:=by
 cases h1:(nm==[98,114])<;>cases h2:(nm==[104,114])<;>cases h3:(nm==[105,109,103])
 all_goals
  have p1:=(Jp nm _).trans h1;have p2:=(Jp nm _).trans h2;have p3:=(Jp nm _).trans h3;have hf:=Ja (show Qm nm=_ from by unfold Qm;rw [h1,h2,h3]);go_enter Tryz.func178,Tryz.ntmps178;go_wp2_with fail;go_ret;exact ⟨by rw [hf.out];rfl,rfl⟩
def dn (is hides:List UInt8→Bool) (os:List (List UInt8)) (m:Nat):Nat→Nat
 | 0=>m
 | i+1=>if is (os.getD i [])=true then i else if hides (os.getD i [])=true then m else dn is hides os m i
theorem JgE (is hides:List UInt8→Bool) (os:List (List UInt8)) (m:Nat) (hm:m≤os.length): ∀ i,i≤m→Qr is hides (os.take m) i=dn is hides os m i
 | 0,_=>by unfold Qr dn;rw [List.length_take];omega
 | i+1,h=>by
   have e:(os.take m).getD i []=os.getD i []:=by simp [List.getD_eq_getElem?_getD,show i<m from by omega]
   unfold Qr dn;rw [e,JgE is hides os m hm i (by omega),List.length_take,Nat.min_eq_left hm]
theorem JmO (is hides:List UInt8→Bool) (os:List (List UInt8)) (m:Nat): ∀ i,i≤m→dn is hides os m i≤m
 | 0,_=>Nat.le_refl _
 | i+1,h=>by
   unfold dn;split
   ·omega
   ·split
    ·exact Nat.le_refl _
    ·exact JmO is hides os m i (by omega)
theorem JgJ (is hides:List UInt8→Bool) (os:List (List UInt8)):JZ is hides os=dn is hides os os.length os.length:=by
 have h:=JgE is hides os os.length (Nat.le_refl _) os.length (Nat.le_refl _);rw [List.take_length] at h;exact h
theorem Jpt (is hides:List UInt8→Bool) (os:List (List UInt8)) (m:Nat) (hm:m≤os.length):JZ is hides (os.take m)=dn is hides os m m:=by
 have h:=JgE is hides os m hm m (Nat.le_refl _);unfold JZ;rw [List.length_take,Nat.min_eq_left hm];exact h
theorem JoH (os:List (List UInt8)):Jm os [108,105]=dn (· ==[108,105]) QO os (dn (· ==[112]) J5 os os.length os.length) (dn (· ==[112]) J5 os os.length os.length):=by
 unfold Jm;rw [if_pos rfl,if_pos (by decide),JgJ (· ==[112]) J5 os,Jpt _ _ _ _ (JmO _ _ _ _ _ (Nat.le_refl _))]
theorem JoG (os:List (List UInt8)) (nm:List UInt8) (h1:nm≠[108,105]) (h2:YL nm=true):Jm os nm=dn (· ==[112]) J5 os os.length os.length:=by
 unfold Jm;rw [if_neg h1,if_pos h2,JgJ]
theorem Jsq {os:List (List UInt8)} {k m F:Nat} (hk:k<os.length) (h:dn (· ==[112]) J5 os m (k+1)=F):(if (os[k]==[112])=true then k else if J5 os[k]=true then m else dn (· ==[112]) J5 os m k)=F:=by
 unfold dn at h;rw [show os.getD k []=os[k] from by simp [List.getD_eq_getElem?_getD,hk]] at h;exact h
theorem JtI {os:List (List UInt8)} {k m F:Nat} (hk:k<os.length) (h:dn (· ==[108,105]) QO os m (k+1)=F):(if (os[k]==[108,105])=true then k else if QO os[k]=true then m else dn (· ==[108,105]) QO os m k)=F:=by
 unfold dn at h;rw [show os.getD k []=os[k] from by simp [List.getD_eq_getElem?_getD,hk]] at h;exact h
def ZR (m:Nat) (f:Nat→Nat) (F:Nat) (i:Value):Prop:=(i=.int .i64 (-1)∧f 0=F)∨ ∃ k:Nat,k<m∧i=.int .i64 k∧f (k+1)=F
theorem ZR.start {m:Nat} {f:Nat→Nat} {F:Nat} (k:Nat) {x:Int} (h:x=(k:Int) - 1) (hk:k≤m) (hf:f k=F):ZR m f F (.int .i64 x):=by
 cases k with
 | zero=>subst h;exact .inl ⟨rfl,hf⟩
 | succ k=>subst h;exact .inr ⟨k,by omega,by rw [show ((k+1:Nat):Int) - 1=(k:Int) from by omega],hf⟩
set_option maxRecDepth 4000 in
theorem Jbk (nm:List UInt8) (hnm:nm=[112]∨nm=[104,114]∨nm=[117,108]∨nm=[111,108]∨nm=[98,108,111,99,107,113,117,111,116,101]) (os:List (List UInt8)) (o:Option Addr) (c:Nat) (w:World) (hL:Jh w (.slice o os.length c) os.length 1 (YP os)) (hn:os.length≤4000):
  Calls Tryz.prog 177 #[.slice o os.length c,.string ⟨nm.toArray⟩] w fun e w'=>e=.returned (.int .i64 (Jm os nm))∧w'=w:=by
 have hC1:Jm os nm=dn (· ==[112]) J5 os os.length os.length:=JoG os nm (by rcases hnm with rfl | rfl | rfl | rfl | rfl<;>decide) (by rcases hnm with rfl | rfl | rfl | rfl | rfl<;>decide);rcases hnm with rfl | rfl | rfl | rfl | rfl
 all_goals
  obtain ⟨F,hF⟩: ∃ F,dn (· ==[112]) J5 os os.length os.length=F:=⟨_,rfl⟩;have hC:=Ja (hC1.trans hF);clear hC1;have HF:=Ja hF;clear hF;go_enter Tryz.func177,Tryz.ntmps177;go_wp2_with fail;go_loopw [5,6] (fun n i wr=>n=.int .i64 os.length∧ZR os.length (dn (· ==[112]) J5 os os.length) F i∧wr=w) (fun _ i _=>(intOf i+1).toNat)
  case atStart=>exact ⟨rfl,ZR.start _ (by go_num) (Nat.le_refl _) HF.out,rfl⟩
  case round=>
   obtain ⟨rfl,hd,h9⟩:=hrel;obtain rfl:w=wr:=h9.symm;rcases hd with ⟨rfl,h0⟩ | ⟨k,hk,rfl,h0⟩
   ·have hs:=Ja h0;have hf:=Ja (hC.out.trans (show F=os.length from hs.out.symm))
    (try clear hs)
    (try clear h0)
    clear hC;go_wp2_with fail;go_ret;exact ⟨by rw [hf.out];rfl,rfl⟩
   ·have hs:=Ja (Jsq hk h0);obtain ⟨g1,x1,rfl,hc1⟩:=hL.addr (by omega);have q0:=hc1 _ _ (Jey os k hk);simp only [Nat.mul_one] at q0;clear hc1 h0;generalize os[k]=q at *;cases h1:(q==[112])
    ·have p1:=(Jp q _).trans h1;cases u0:(q==[117,108])
     ·have v0:=(Jp q _).trans u0;cases u1:(q==[111,108])
      ·have v1:=(Jp q _).trans u1;cases u2:(q==[108,105])
       ·have v2:=(Jp q _).trans u2;cases u3:(q==[98,108,111,99,107,113,117,111,116,101])
        ·have v3:=(Jp q _).trans u3;have h7:=Ja (show dn (· ==[112]) J5 os os.length k=F from by have:=hs.out;simpa [J5,QO,h1,u0,u1,u2,u3] using this);clear hs;go_wp2_with fail;refine ⟨⟨rfl,ZR.start k (by go_num) (by omega) h7.out,trivial⟩,?_⟩;simp [intOf]
        ·have v3:=(Jp q _).trans u3;have hf:=Ja (hC.out.trans (show F=os.length from by have:=hs.out;simpa [J5,QO,h1,u0,u1,u2,u3] using this.symm))
         (try clear hs)
         (try clear h0)
         clear hC;go_wp2_with fail;go_ret;exact ⟨by rw [hf.out];rfl,rfl⟩
       ·have v2:=(Jp q _).trans u2;have hf:=Ja (hC.out.trans (show F=os.length from by have:=hs.out;simpa [J5,QO,h1,u0,u1,u2] using this.symm))
        (try clear hs)
        (try clear h0)
        clear hC;go_wp2_with fail;go_ret;exact ⟨by rw [hf.out];rfl,rfl⟩
      ·have v1:=(Jp q _).trans u1;have hf:=Ja (hC.out.trans (show F=os.length from by have:=hs.out;simpa [J5,QO,h1,u0,u1] using this.symm))
       (try clear hs)
       (try clear h0)
       clear hC;go_wp2_with fail;go_ret;exact ⟨by rw [hf.out];rfl,rfl⟩
     ·have v0:=(Jp q _).trans u0;have hf:=Ja (hC.out.trans (show F=os.length from by have:=hs.out;simpa [J5,QO,h1,u0] using this.symm))
      (try clear hs)
      (try clear h0)
      clear hC;go_wp2_with fail;go_ret;exact ⟨by rw [hf.out];rfl,rfl⟩
    ·have p1:=(Jp q _).trans h1;have hf:=Ja (hC.out.trans (show F=k from by have:=hs.out;simpa [h1] using this.symm))
     (try clear hs)
     (try clear h0)
     clear hC;go_wp2_with fail;go_ret;exact ⟨by rw [hf.out];rfl,rfl⟩
set_option maxRecDepth 4000 in
theorem JmG (os:List (List UInt8)) (o:Option Addr) (c:Nat) (w:World) (hL:Jh w (.slice o os.length c) os.length 1 (YP os)) (hn:os.length≤4000):
  Calls Tryz.prog 177 #[.slice o os.length c,.string ⟨([108,105]:List UInt8).toArray⟩] w fun e w'=>e=.returned (.int .i64 (Jm os [108,105]))∧w'=w:=by
 obtain ⟨F,hF⟩: ∃ F,dn (· ==[112]) J5 os os.length os.length=F:=⟨_,rfl⟩;obtain ⟨C,hC0⟩: ∃ C,Jm os [108,105]=C:=⟨_,rfl⟩;have hCF:=Ja (show dn (· ==[108,105]) QO os F F=C from by rw [←hC0,JoH,hF]);have hC:=Ja hC0;clear hC0;have hFl:F≤os.length:=by rw [←hF];exact JmO _ _ _ _ _ (Nat.le_refl _)
 have HF:=Ja hF;clear hF;go_enter Tryz.func177,Tryz.ntmps177;go_upto_block 0 with fail
 go_cut [5] (fun v5 wx=>v5=.int .i64 F∧w=wx)
 case first=>
  go_wp2_with fail;go_loopw [5,6] (fun n i wr=>n=.int .i64 os.length∧ZR os.length (dn (· ==[112]) J5 os os.length) F i∧wr=w) (fun _ i _=>(intOf i+1).toNat)
  case atStart=>exact ⟨rfl,ZR.start _ (by go_num) (Nat.le_refl _) HF.out,rfl⟩
  case round=>
   obtain ⟨rfl,hd,h9⟩:=hrel;obtain rfl:w=wr:=h9.symm;rcases hd with ⟨rfl,h0⟩ | ⟨k,hk,rfl,h0⟩
   ·have hs:=Ja h0;have hf:=Ja (show F=os.length from hs.out.symm)
    (try clear hs)
    (try clear h0)
    clear hC hCF;go_wp2_with fail;go_meet;exact ⟨by rw [hf.out],rfl⟩
   ·have hs:=Ja (Jsq hk h0);obtain ⟨g1,x1,rfl,hc1⟩:=hL.addr (by omega);have q0:=hc1 _ _ (Jey os k hk);simp only [Nat.mul_one] at q0;clear hc1 h0;generalize os[k]=q at *;cases h1:(q==[112])
    ·have p1:=(Jp q _).trans h1;cases u0:(q==[117,108])
     ·have v0:=(Jp q _).trans u0;cases u1:(q==[111,108])
      ·have v1:=(Jp q _).trans u1;cases u2:(q==[108,105])
       ·have v2:=(Jp q _).trans u2;cases u3:(q==[98,108,111,99,107,113,117,111,116,101])
        ·have v3:=(Jp q _).trans u3;have h7:=Ja (show dn (· ==[112]) J5 os os.length k=F from by have:=hs.out;simpa [J5,QO,h1,u0,u1,u2,u3] using this);clear hs;go_wp2_with fail;refine ⟨⟨rfl,ZR.start k (by go_num) (by omega) h7.out,trivial⟩,?_⟩;simp [intOf]
        ·have v3:=(Jp q _).trans u3;have hf:=Ja (show F=os.length from by have:=hs.out;simpa [J5,QO,h1,u0,u1,u2,u3] using this.symm)
         (try clear hs)
         (try clear h0)
         clear hC hCF;go_wp2_with fail;go_meet;exact ⟨by rw [hf.out],rfl⟩
       ·have v2:=(Jp q _).trans u2;have hf:=Ja (show F=os.length from by have:=hs.out;simpa [J5,QO,h1,u0,u1,u2] using this.symm)
        (try clear hs)
        (try clear h0)
        clear hC hCF;go_wp2_with fail;go_meet;exact ⟨by rw [hf.out],rfl⟩
      ·have v1:=(Jp q _).trans u1;have hf:=Ja (show F=os.length from by have:=hs.out;simpa [J5,QO,h1,u0,u1] using this.symm)
       (try clear hs)
       (try clear h0)
       clear hC hCF;go_wp2_with fail;go_meet;exact ⟨by rw [hf.out],rfl⟩
     ·have v0:=(Jp q _).trans u0;have hf:=Ja (show F=os.length from by have:=hs.out;simpa [J5,QO,h1,u0] using this.symm)
      (try clear hs)
      (try clear h0)
      clear hC hCF;go_wp2_with fail;go_meet;exact ⟨by rw [hf.out],rfl⟩
    ·have p1:=(Jp q _).trans h1;have hf:=Ja (show F=k from by have:=hs.out;simpa [h1] using this.symm)
     (try clear hs)
     (try clear h0)
     clear hC hCF;go_wp2_with fail;go_meet;exact ⟨by rw [hf.out],rfl⟩
 case rest=>
  obtain ⟨rfl,h9⟩:=hcut;obtain rfl:w=wc:=h9;have hN:=hCF;clear HF hCF;go_wp2_with fail;go_loopw [7] (fun i wr=>ZR F (dn (· ==[108,105]) QO os (F)) C i∧wr=w) (fun i _=>(intOf i+1).toNat)
  case atStart=>exact ⟨ZR.start (F) (by go_num) (Nat.le_refl _) hN.out,rfl⟩
  case round=>
   obtain ⟨hd,h9⟩:=hrel;obtain rfl:w=wr:=h9.symm;rcases hd with ⟨rfl,h0⟩ | ⟨j,hj,rfl,h0⟩
   ·have hf:=Ja (hC.out.trans (show C=F from h0.symm));clear h0 hN hC;go_wp2_with fail;go_ret;exact ⟨by rw [hf.out];rfl,rfl⟩
   ·have hjn:j<os.length:=by omega
    have hs:=Ja (JtI hjn h0);obtain ⟨g2,x2,hg2,hc2⟩:=hL.addr (by omega)
    first | subst hg2 | (cases hg2)
    have r0:=hc2 _ _ (Jey os j hjn);simp only [Nat.mul_one] at r0;clear hc2 h0;generalize os[j]=q2 at *;cases t1:(q2==[108,105])
    ·cases t2:(q2==[117,108])
     ·cases t3:(q2==[111,108])
      all_goals have s1:=(Jp q2 _).trans t1
      all_goals have s2:=(Jp q2 _).trans t2
      all_goals have s3:=(Jp q2 _).trans t3
      ·have h7:=Ja (show dn (· ==[108,105]) QO os (F) j=C from by have:=hs.out;simpa [QO,t1,t2,t3] using this);clear hs;go_wp2_with fail;refine ⟨⟨ZR.start j (by go_num) (by omega) h7.out,trivial⟩,?_⟩;simp [intOf]
      ·have hf:=Ja (hC.out.trans (show C=F from by have:=hs.out;simpa [QO,t1,t2,t3] using this.symm));clear hs hN hC;go_wp2_with fail;go_ret;exact ⟨by rw [hf.out];rfl,rfl⟩
     ·have s1:=(Jp q2 _).trans t1;have s2:=(Jp q2 _).trans t2;have hf:=Ja (hC.out.trans (show C=F from by have:=hs.out;simpa [QO,t1,t2] using this.symm));clear hs hN hC;go_wp2_with fail;go_ret;exact ⟨by rw [hf.out];rfl,rfl⟩
    ·have s1:=(Jp q2 _).trans t1;have hf:=Ja (hC.out.trans (show C=j from by have:=hs.out;simpa [t1] using this.symm));clear hs hN hC;go_wp2_with fail;go_ret;exact ⟨by rw [hf.out];rfl,rfl⟩
theorem Jlj (nm:List UInt8) (os:List (List UInt8)) (o:Option Addr) (c:Nat) (w:World) (hL:Jh w (.slice o os.length c) os.length 1 (YP os)) (hn:os.length≤4000):
  Calls Tryz.prog 177 #[.slice o os.length c,.string ⟨nm.toArray⟩] w fun e w'=>e=.returned (.int .i64 (Jm os nm))∧w'=w:=by
 by_cases h0:nm=[112]
 ·exact Jbk nm (by simp [h0]) os o c w hL hn
 by_cases h1:nm=[104,114]
 ·exact Jbk nm (by simp [h1]) os o c w hL hn
 by_cases h2:nm=[117,108]
 ·exact Jbk nm (by simp [h2]) os o c w hL hn
 by_cases h3:nm=[111,108]
 ·exact Jbk nm (by simp [h3]) os o c w hL hn
 by_cases h4:nm=[108,105]
 ·subst h4;exact JmG os o c w hL hn
 by_cases h5:nm=[98,108,111,99,107,113,117,111,116,101]
 ·exact Jbk nm (by simp [h5]) os o c w hL hn
 have hf:=Ja (show Jm os nm=os.length from by
  unfold Jm;rw [if_neg h4,if_neg];simp [YL,J5,QO,h0,h1,h2,h3,h4,h5])
 have b0:(nm==[112])=false:=by simpa using h0
 have p0:=(Jp nm [112]).trans b0;have b1:(nm==[104,114])=false:=by simpa using h1
 have p1:=(Jp nm [104,114]).trans b1;have b2:(nm==[117,108])=false:=by simpa using h2
 have p2:=(Jp nm [117,108]).trans b2;have b3:(nm==[111,108])=false:=by simpa using h3
 have p3:=(Jp nm [111,108]).trans b3;have b4:(nm==[108,105])=false:=by simpa using h4
 have p4:=(Jp nm [108,105]).trans b4;have b5:(nm==[98,108,111,99,107,113,117,111,116,101])=false:=by simpa using h5
 have p5:=(Jp nm [98,108,111,99,107,113,117,111,116,101]).trans b5;clear h0 h1 h2 h3 h4 h5;go_enter Tryz.func177,Tryz.ntmps177;go_wp2_with fail;go_ret;exact ⟨by rw [hf.out];rfl,rfl⟩
end Go.Proofs.YtlcljanibjdejaaGreat
