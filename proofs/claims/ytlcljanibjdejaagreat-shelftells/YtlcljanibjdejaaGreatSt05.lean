/- ShelfTells holds: the law returns true for every input, and each argument reads behind the call as it read before; no condition. A part of its proof. -/
import Derived.Test.YtlcljanibjdejaaGreatSt04
set_option maxHeartbeats 64000000
namespace Go.Proofs.YtlcljanibjdejaaGreat
open Go.RowKit Go.Maps
theorem JoQ:Jy 162:=JC Tryz.func162 (by kernel_rfl) (by kernel_rfl)
theorem JoR:Jy 163:=JC Tryz.func163 (by kernel_rfl) (by kernel_rfl)
theorem JiJ:Jy 165:=JC Tryz.func165 (by kernel_rfl) (by kernel_rfl)
def Jg0 (w:World) (g:Nat) (nm:List UInt8) (av:Value):Prop:=w.heap[g]?=some (.cells #[.string ⟨nm.toArray⟩,av,.string ⟨#[]⟩,.slice none 0 0] 45 (0,0))
theorem JjZ {w2 w3:World} {cs:Array Value} {t:TypeId} (h:Jb [] ((w2.alloc (.cells cs t)).drew) w3):w3.heap[w2.heap.size]?=some (.cells cs t (0,0)):=
 (h.block w2.heap.size (by simp [World.drew]) List.not_mem_nil).trans (heap_alloc_new w2 _)
theorem Jd {w:World} {g:Nat} {cs:Array Value} {t:TypeId} (h:w.heap[g]?=some (.cells cs t (0,0))) (j:Nat):w.cell? ⟨g,j,none⟩=cs[j]?:=by
 unfold World.cell?;simp only;rw [h];simp
theorem Jn {w:World} {g:Nat} {cs:Array Value} {t:TypeId} (h:w.heap[g]?=some (.cells cs t (0,0))) (j:Nat):w.frozen? ⟨g,j,none⟩=false:=by
 unfold World.frozen?;simp only;rw [h];simp
theorem Jnj {w2 w3:World} (nm:List UInt8) {v:Value} {la:List Jw} (hk:Jb [] ((w2.alloc (.cells #[.string ⟨#[]⟩,.slice none 0 0,.string ⟨#[]⟩,.slice none 0 0] 45)).drew) w3)
  (ho:w3.ownsRow ((w2.alloc (.cells #[.string ⟨#[]⟩,.slice none 0 0,.string ⟨#[]⟩,.slice none 0 0] 45)).drew).heap.size 52 2 v la.length (Jj la)):
  w2.heap.size≤w2.heap.size∧Jg0 ((((w3.setCell ⟨w2.heap.size,0,none⟩ (.string ⟨nm.toArray⟩)).setCell ⟨w2.heap.size,1,none⟩ v).setCell ⟨w2.heap.size,2,none⟩ (.string ⟨#[]⟩)).setCell ⟨w2.heap.size,3,none⟩ (.slice none 0 0)) w2.heap.size nm v∧
   ((((w3.setCell ⟨w2.heap.size,0,none⟩ (.string ⟨nm.toArray⟩)).setCell ⟨w2.heap.size,1,none⟩ v).setCell ⟨w2.heap.size,2,none⟩ (.string ⟨#[]⟩)).setCell ⟨w2.heap.size,3,none⟩ (.slice none 0 0)).ownsRow w2.heap.size 52 2 v la.length (Jj la)∧
   Jb [] w2 ((((w3.setCell ⟨w2.heap.size,0,none⟩ (.string ⟨nm.toArray⟩)).setCell ⟨w2.heap.size,1,none⟩ v).setCell ⟨w2.heap.size,2,none⟩ (.string ⟨#[]⟩)).setCell ⟨w2.heap.size,3,none⟩ (.slice none 0 0)):=by
 have hz:=JjZ hk;have hsz:((w2.alloc (.cells #[.string ⟨#[]⟩,.slice none 0 0,.string ⟨#[]⟩,.slice none 0 0] 45)).drew).heap.size=w2.heap.size+1:=by simp
 rw [hsz] at ho;have hk0:Jb [] w2 w3:=(((Jb.refl [] w2).alloc _).drew).trans hk;have hk1:Jb [w2.heap.size] w3 ((((w3.setCell ⟨w2.heap.size,0,none⟩ (.string ⟨nm.toArray⟩)).setCell ⟨w2.heap.size,1,none⟩ v).setCell ⟨w2.heap.size,2,none⟩ (.string ⟨#[]⟩)).setCell ⟨w2.heap.size,3,none⟩ (.slice none 0 0)):=
  ((((Jb.refl [w2.heap.size] w3).setCell (.inl (by simp)) _).setCell (.inl (by simp)) _).setCell (.inl (by simp)) _).setCell (.inl (by simp)) _
 refine ⟨Nat.le_refl _,?_,?_,?_⟩
 ·unfold Jg0;simp [World.setCell,Array.getElem?_modify,hz]
 ·refine (hk1.owns ho (fun g hg hm=>?_)).mono (by omega);have:=(ho.lt g hg).1;simp at hm;omega
 ·refine ⟨hk1.os.trans hk0.os,hk1.tape.trans hk0.tape,hk1.output.trans hk0.output,Nat.le_trans hk0.size hk1.size,fun k hlt hn=>?_⟩;exact (hk1.block k (Nat.lt_of_lt_of_le hlt hk0.size) (by simp;omega)).trans (hk0.block k hlt hn)
theorem JpM {w2 w3:World} (nm:List UInt8) {v:Value} {la:List Jw} (hk:Jb [] w2.drew w3) (ho:w3.ownsRow w2.drew.heap.size 52 2 v la.length (Jj la)):
  w2.heap.size≤w3.heap.size∧Jg0 (w3.alloc (.cells #[.string ⟨nm.toArray⟩,v,.string ⟨#[]⟩,.slice none 0 0] 45)) w3.heap.size nm v∧(w3.alloc (.cells #[.string ⟨nm.toArray⟩,v,.string ⟨#[]⟩,.slice none 0 0] 45)).ownsRow w2.heap.size 52 2 v la.length (Jj la)∧
   Jb [] w2 (w3.alloc (.cells #[.string ⟨nm.toArray⟩,v,.string ⟨#[]⟩,.slice none 0 0] 45)):=
 ⟨hk.size,heap_alloc_new w3 _,ho.alloc _,(((Jb.refl [] w2).drew).trans hk).alloc _⟩
set_option maxRecDepth 4000 in
theorem Jky (B r:Nat) (s:St) (T:List Nat) (w:World) (h:BdT w B r s T) (hr:s.Root) (hw:s.weight≤90000)
  (kd:Int) (nm tx:List UInt8) (la:List Jw) (o:Option Addr) (c:Nat) (hA: ∀ W,Below B w W→Jh W (.slice o la.length c) la.length 2 (Jj la)) (hal:la.length≤2000000):
  Calls Tryz.prog 83 #[.pointer (some ⟨r,0,none⟩),.agg #[.int .i64 kd,.string ⟨nm.toArray⟩,.slice o la.length c,.string ⟨tx.toArray⟩]] w fun e w'=>
   e=.returned (.tuple #[])∧ ∃ T',BdT w' B r (s.openTag ⟨kd,nm,la,tx⟩) T'∧Stp w T w' T':=by
 have hka:Jb [] w (w.alloc (.cells #[.int .i64 kd,.string ⟨nm.toArray⟩,.slice o la.length c,.string ⟨tx.toArray⟩] 117)):=(Jb.refl [] w).alloc _;have hbx:QI (w.alloc (.cells #[.int .i64 kd,.string ⟨nm.toArray⟩,.slice o la.length c,.string ⟨tx.toArray⟩] 117)) w.heap.size (⟨kd,nm,la,tx⟩,.slice o la.length c):=heap_alloc_new w _;have hge:=h.ge;have ha:=h.keepsNil hka;obtain ⟨W,hW⟩: ∃ W,w.alloc (.cells #[.int .i64 kd,.string ⟨nm.toArray⟩,.slice o la.length c,.string ⟨tx.toArray⟩] 117)=W:=⟨_,rfl⟩;rw [hW] at hka hbx ha;have hWl:w.heap.size<W.heap.size:=hbx.lt;have hle:=Jg9 s.names nm;have hpos:=Jli hr nm;have hul:=Jag s;rw [Jft] at hle;have hcl:=Ja (fun n=>JbN B r s T (Jm s.names nm) hpos (by omega) (W.drewN n) (ha.keepsNil ((Jb.refl [] _).drewN n)) (by omega));obtain ⟨openv,textv,l,p,hTT,e2,e3,hB⟩:=id ha;have hnm:=hB.named;rw [Jkv e2 e3] at hnm;have c0:=hB.cell0;have hcb:=Ja (fun n=>Je7 (W.drewN n) openv s.names nm hnm);unfold St.openTag;simp only;have hw1:(s.closeFrom (Jm s.names nm)).weight≤90000:=Nat.le_trans (JbF _ s) hw;generalize s.closeFrom (Jm s.names nm)=s1 at *;generalize Jm s.names nm=L at *;obtain ⟨go,cap,hv,_⟩:=hB.form;subst hv;have b1:=hbx.cell 1;simp at b1;clear hB hnm e2 e3 hTT;obtain ⟨R,hR⟩: ∃ R,(if 8<s1.up.length+1 then s1 else s1.openIn ⟨kd,nm,la,tx⟩)=R:=⟨_,rfl⟩;rw [hR];have HR:=Ja hR;clear hR;go_enter Tryz.func83,Tryz.ntmps83;go_upto_region 1 with fail
 go_cut [] from 5 to 13 (fun wc=> ∃ T1,BdT wc B r s1 T1∧Stp W T wc T1∧QI wc w.heap.size (⟨kd,nm,la,tx⟩,.slice o la.length c))
 case first=>
  go_region_law (first
   | (refine Xg rfl 163 _ _ rfl JoR #[.slice (some ⟨go,0,none⟩) (l.length+1) cap,.string ⟨nm.toArray⟩] (by simp [Act.eval]) (hcb.out _) ?_;rintro e w2 ⟨rfl,rfl⟩;refine ⟨_,rfl,?_⟩)
   | (refine Xg rfl 162 _ _ rfl JoQ #[.pointer (some ⟨r,0,none⟩),.int .i64 L] (by simp [Act.eval]) (hcl.out _) ?_;rintro e w2 ⟨rfl,T2,hB2,hs2⟩;refine ⟨_,rfl,?_⟩))
  all_goals go_wp2
  all_goals go_meet
  all_goals exact ⟨T2,hB2,(Stp.nil ((Jb.refl [] _).drewN _) T).trans hs2,QI.keeps (show QI (W.drewN _) _ _ from hbx) hs2.1 (fun hm=>by have:=(hge.1 _ hm).2;omega)⟩
 case rest=>
  obtain ⟨T1,hB1,hs1,hbx1⟩:=hcut;clear hcl hcb hW hbx b1 c0 ha hul hle hpos hr;obtain ⟨openv,textv,l,p,hTT,e2,e3,hB⟩:=id hB1;obtain ⟨go1,cap1,hv1,_⟩:=hB.form;have hu1:=JfJ e2;have hul:=Jag s1;subst hv1;have d0:=hB.cell0;rw [hu1] at d0;clear hB e2 e3 hTT;by_cases hdeep:8<s1.up.length+1
  ·have hRe:s1=R:=by rw [←HR.out,if_pos hdeep]
   subst hRe;have hd:(8:Int)<(s1.up.length:Int)+1:=by omega
   clear hbx1;go_wp2_with fail;refine bodyPost_ret (v:=.tuple #[]) (by simp [results,Tryz.results83]) rfl ?_;exact ⟨rfl,T1,hB1,(Stp.nil hka T).trans hs1⟩
  ·have hRe:s1.openIn ⟨kd,nm,la,tx⟩=R:=by rw [←HR.out,if_neg hdeep]
   have HRe:=Ja hRe;clear hRe HR;have hd: ¬ (8:Int)<(s1.up.length:Int)+1:=by omega
   have het:=Ja (Jc1 B r s1 T1 _ hB1 (by omega));have hge1:=hB1.ge;have hwe:=Jb0 s1;go_wp2_with fail;refine het.out.mono ?_;rintro e w2 ⟨rfl,T2,hB2,hs2⟩;have hbW:w.heap.size∉T1:=fun hm=>by have h9:=hs1.2 _ hm hWl;have:=(hge.1 _ h9).2;omega
   have hbx2:=hbx1.keeps hs2.1 hbW;have hge2:=hB2.ge;have hbel:Below B w w2:=(((Stp.nil hka T).trans hs1).trans hs2).below (fun g hg=>(hge.1 g hg).1) hge.2;have hA2:=Ja (fun (W':World) (hk:Jb [] w2 W')=>hA W' (hbel.trans (hk.below hge2.2 (fun _ hm=>absurd hm List.not_mem_nil))));have b1:=hbx2.cell 1;have b2:=hbx2.cell 2;simp at b1 b2;have hcp:=Ja (fun (W':World) (hk:Jb [] w2 W')=>Jhe W' _ la (hA2.out W' hk) hal);have b1a: ∀ o',(w2.alloc o').cell? ⟨w.heap.size,1,none⟩=some (.string ⟨nm.toArray⟩):=fun o'=>(JI (a:=⟨w.heap.size,1,none⟩) hbx2.lt o').trans b1;have b2a: ∀ o',(w2.alloc o').cell? ⟨w.heap.size,2,none⟩=some (.slice o la.length c):=fun o'=>(JI (a:=⟨w.heap.size,2,none⟩) hbx2.lt o').trans b2;clear het hd d0;go_upto_region 4 with fail
   go_cut [4] from 22 to 27 (fun v4 wd=> ∃ bn av,v4=.pointer (some ⟨bn,0,none⟩)∧w2.heap.size≤bn∧Jg0 wd bn nm av∧wd.ownsRow w2.heap.size 52 2 av la.length (Jj la)∧Jb [] w2 wd)
   case first=>
    go_region_law (refine Xg rfl 165 _ _ rfl JiJ #[.slice o la.length c] (by simp [Act.eval]) (hcp.out _ (by first | exact (Jb.refl [] _).drew | exact ((Jb.refl [] _).alloc _).drew)) ?_;rintro e w3 ⟨v3,rfl,ho3,hk3⟩;obtain ⟨o3,c3,hv3⟩:=Jg ho3;subst hv3;refine ⟨_,rfl,?_⟩;have x1:w3.cell? ⟨w.heap.size,1,none⟩=some (.string ⟨nm.toArray⟩):=Jc hk3 (by first | exact b1 | exact b1a _);have x1a: ∀ o',(w3.alloc o').cell? ⟨w.heap.size,1,none⟩=some (.string ⟨nm.toArray⟩):=fun o'=>(JI (a:=⟨w.heap.size,1,none⟩) (Nat.lt_of_lt_of_le hbx2.lt (Nat.le_trans (by simp) hk3.size)) o').trans x1;try (have hz:=JjZ hk3;have z0:w3.cell? ⟨w2.heap.size,0,none⟩=some (.string ⟨#[]⟩):=Jd hz 0;have z1:w3.cell? ⟨w2.heap.size,1,none⟩=some (.slice none 0 0):=Jd hz 1;have z2:w3.cell? ⟨w2.heap.size,2,none⟩=some (.string ⟨#[]⟩):=Jd hz 2;have z3:w3.cell? ⟨w2.heap.size,3,none⟩=some (.slice none 0 0):=Jd hz 3;have y0:=Jn hz 0;have y1:=Jn hz 1;have y2:=Jn hz 2;have y3:=Jn hz 3))
    all_goals go_wp2
    all_goals go_meet
    all_goals first
     | (have hz9:=hz;exact ⟨_,_,rfl,Jnj nm hk3 ho3⟩)
     | exact ⟨_,_,rfl,JpM nm hk3 ho3⟩
   case rest=>
    obtain ⟨bn,av,rfl,hbn,hnode,hrow,hkd⟩:=hcut;obtain ⟨oa,ca,hav⟩:=Jg hrow;subst hav;have hLA:QB wc (Qp B T2) (.slice oa la.length ca) la.length 2 (Jj la):=QB.of_row hrow (fun g hg=>⟨Nat.le_trans hge2.2 (hrow.lt g hg).1,fun hm=>by have:=(hge2.1 g hm).2;have:=(hrow.lt g hg).1;omega⟩);have hB3:=hB2.keepsNil hkd;have hs3:=(((Stp.nil hka T).trans hs1).trans hs2).trans (Stp.nil hkd T2);have hbx3:=hbx2.keeps hkd List.not_mem_nil;have b3:=hbx3.cell 1;simp at b3;have k0:wc.cell? ⟨bn,0,none⟩=some (.string ⟨nm.toArray⟩):=Jd hnode 0;have k1:wc.cell? ⟨bn,1,none⟩=some (.slice oa la.length ca):=Jd hnode 1;have k2:wc.cell? ⟨bn,2,none⟩=some (.string ⟨#[]⟩):=Jd hnode 2;have k3:wc.cell? ⟨bn,3,none⟩=some (.slice none 0 0):=Jd hnode 3;have hbnl:bn<wc.heap.size:=lt_of_block hnode;have hie:=Ja (fun W'=>JdA nm W');have hRe2:=HRe.out;unfold St.openIn at hRe2;simp only at hRe2;clear hcp hA2 b1a b2a b1 b2 hbx1 hbx2 hs1 hs2 hB1 hB2 hbel HRe;cases hem:Qm nm
    ·rw [hem] at hie hRe2;rw [if_neg (by simp)] at hRe2;have HRe3:=Ja hRe2;clear hRe2 hem;obtain ⟨openv,textv,l9,p9,hTT,e2,e3,hB⟩:=id hB3;have hul9:=JfJ e2;rw [QG] at hul9;obtain ⟨go2,cap2,hv2,hgo2,hgl2,hc1,hc2⟩:=hB.form;subst hv2;have q0:=hB.cell0;have qf:=hB.free 0;have hrl:=hB.lt;have hrg:r∉(Value.slice (some ⟨go2,0,none⟩) (l9.length+1) cap2).ownBlock.toList:=fun hm=>Jt hB.opn hB.blk (by decide) (by simpa using hm);have q0a: ∀ o',(wc.alloc o').cell? ⟨r,0,none⟩=some (.slice (some ⟨go2,0,none⟩) (l9.length+1) cap2):=fun o'=>(JI (a:=⟨r,0,none⟩) hrl o').trans q0;have k0a: ∀ o',(wc.alloc o').cell? ⟨bn,0,none⟩=some (.string ⟨nm.toArray⟩):=fun o'=>(JI (a:=⟨bn,0,none⟩) hbnl o').trans k0;have k1a: ∀ o',(wc.alloc o').cell? ⟨bn,1,none⟩=some (.slice oa la.length ca):=fun o'=>(JI (a:=⟨bn,1,none⟩) hbnl o').trans k1;have k2a: ∀ o',(wc.alloc o').cell? ⟨bn,2,none⟩=some (.string ⟨#[]⟩):=fun o'=>(JI (a:=⟨bn,2,none⟩) hbnl o').trans k2;have k3a: ∀ o',(wc.alloc o').cell? ⟨bn,3,none⟩=some (.slice none 0 0):=fun o'=>(JI (a:=⟨bn,3,none⟩) hbnl o').trans k3;have hopn:=hB.opn;rw [List.length_append,List.length_singleton] at hopn;obtain ⟨i0,hi,hz0,hz1,hz2⟩:=info_parts Jbs;unfold maxLen at hc2;have hl9:l9.length≤100000:=by omega
     have hlt1:(l9.length:Int)+1<(l9.length:Int)+1+1:=by omega
     have hlt0:(0:Int)≤(l9.length:Int)+1:=by omega
     have hBwc:B≤wc.heap.size:=Nat.le_trans hge2.2 hkd.size;have hpl:(Xs (l9++[p9])).length=(l9.length+1) * 4:=by rw [Zh];simp
     have E2:=Ja e2;have E3:=Ja e3;have HT:=Ja hTT;clear hul9 e2 e3 hTT;go_wp2_with fail;refine (hie.out _).mono ?_;rintro e w5 ⟨rfl,h5⟩;obtain rfl:wc=w5:=h5.symm;go_upto_region 7 with fail
     go_region_law (refine JaN rfl _ _ 29 rfl B 45 i0 _ 4 80 Tryz.underlying29 hi hz0 hz1 hz2 (by kernel_rfl) (by decide) (.slice (some ⟨go2,0,none⟩) (l9.length+1) cap2) (l9.length+1) (Xs (l9++[p9])) rfl ((hopn.alloc _).drew) ⟨wc.heap.size,0,none⟩ 1 1 Jcn rfl rfl (J9 wc _ 45) (by intro u hu;simp [Jcn] at hu;rcases hu with rfl | rfl | rfl | rfl<;>rfl) (by unfold maxLen;omega) (by omega) (Nat.le_trans hBwc (by simp)) ?_;intro v3 w3 ho3 hg3 hw3;obtain ⟨g3,c3,hv3,hc31,hc32,hB3',hl3,hcl3,hfr3⟩:=JiT ho3 hpl;subst hv3;unfold maxLen at hc32;have n0:w3.cell? ⟨g3,(l9.length+1) * 4,none⟩=some (.string ⟨#[]⟩):=hcl3 0 (by decide);have n1:w3.cell? ⟨g3,(l9.length+1) * 4+1,none⟩=some (.slice none 0 0):=hcl3 1 (by decide);have n2:w3.cell? ⟨g3,(l9.length+1) * 4+2,none⟩=some (.string ⟨#[]⟩):=hcl3 2 (by decide);have n3:w3.cell? ⟨g3,(l9.length+1) * 4+3,none⟩=some (.slice none 0 0):=hcl3 3 (by decide);clear hcl3;have hk3:Jb (Value.slice (some ⟨go2,0,none⟩) (l9.length+1) cap2).ownBlock.toList wc w3:=(((Jb.refl _ wc).alloc _).drew).grown hg3 (fun i e=>.inl (by simp [e]));have hne:g3≠r:=Jqb hrg hw3 hrl;have z0:=hfr3 ((l9.length+1) * 4);have z1:=hfr3 ((l9.length+1) * 4+1);have z2:=hfr3 ((l9.length+1) * 4+2);have z3:=hfr3 ((l9.length+1) * 4+3);have d3:=JE hk3 (a:=⟨r,0,none⟩) hrg q0;have e9:w3.frozen? ⟨r,0,none⟩=false:=Jn ((hk3.block r hrl hrg).trans hB.blk) 0)
     all_goals go_end0
     all_goals rw [←HRe3.out]
     all_goals have hW1:wc.heap.size≤((wc.alloc (.cells #[.string ⟨#[]⟩,.slice none 0 0,.string ⟨#[]⟩,.slice none 0 0] 45)).drew).heap.size:=by simp
     all_goals have hfin:=hB.push (q:=⟨⟨nm,la,[]⟩,.slice oa la.length ca,.slice none 0 0,[]⟩) (Jpy (n:=l9.length+1) hk3 (JpV hw3 hW1) (.string ⟨nm.toArray⟩) (.slice oa la.length ca) (.string ⟨#[]⟩) (.slice none 0 0)) (by rw [List.length_append,List.length_singleton];exact Jmm ho3 hpl _ _ _ _) (Jmh hw3 hW1) rfl rfl rfl (HT.out ▸ hLA)
     all_goals try rw [Yr w3 (a:=⟨r,0,none⟩) (b:=⟨g3,(l9.length+1) * 4,none⟩) hne.symm,Yr _ (a:=⟨r,0,none⟩) (b:=⟨g3,(l9.length+1) * 4+1,none⟩) hne.symm,Yr _ (a:=⟨r,0,none⟩) (b:=⟨g3,(l9.length+1) * 4+2,none⟩) hne.symm,Yr _ (a:=⟨r,0,none⟩) (b:=⟨g3,(l9.length+1) * 4+3,none⟩) hne.symm]
     all_goals exact ⟨rfl,_,⟨_,textv,l9++[p9],_,rfl,by simp [E2.out,E3.out,QG],rfl,by have h9:=hfin.1;rw [QD] at h9;exact h9⟩,hs3.trans (HT.out ▸ hfin.2)⟩
    ·rw [hem] at hie hRe2;rw [if_pos rfl] at hRe2;have HRe3:=Ja hRe2;clear hRe2 hem;have hput:=Ja (JrM B r s1.endText T2 wc hB3 (by omega) (.mk nm la [] []) oa none la.length ca 0 0 hLA (Ns.nil _ _ none 0 (by simp [maxLen])));simp only [Nd.name,Nd.text] at hput;go_wp2_with fail;refine (hie.out _).mono ?_;rintro e w5 ⟨rfl,h5⟩;subst h5;go_wp2_with fail;refine hput.out.mono ?_;rintro e w6 ⟨rfl,T6,hB6,hs6⟩;go_wp2_with fail;refine bodyPost_ret (v:=.tuple #[]) (by simp [results,Tryz.results83]) rfl ?_;rw [←HRe3.out];exact ⟨rfl,T6,hB6,hs3.trans hs6⟩
theorem Jev {P:Program} (w:World) (base:Nat) (t u ty e:TypeId) (i:TypeInfo) (ht:P.underlying t=some (.slice e)) (hu:P.underlying u=some .string) (hi:P.info? e=some i) (hz:i.zero=some (.int .u8 0))
  (hsize:i.size=1) (hby:i.bytes=1) (v:Value) (n:Nat) (xs:List Value) (hown:w.ownsRow base e 1 v n xs) (s:ByteArray)
  (h63:n+s.size≤maxLen) (hbytes:n+s.size≤140737488355328) (hbase:base≤w.heap.size):
  ∃ v' w',(Builtin.append_ #[t,u] ty #[v,.string s]).run P w=.ok v' w'∧w'.ownsRow base e 1 v' (n+s.size) (xs++Lib.strCells s)∧w.grownBy w' v.ownBlock∧
   (v'.ownBlock=v.ownBlock∨ ∃ k,v'.ownBlock=some k∧w.heap.size≤k):=by
 obtain ⟨v',w',hr,h1,h2,h3⟩:=Lib.run_append_own_string (P:=P) w base t u ty e i ht hu hi hz hsize hby v n xs hown s h63 hbytes hbase;refine ⟨v',w',hr,h1,h2,?_⟩;have hxl:xs.length=n:=by simpa using hown.1
 rcases hown.2 with ⟨rfl,rfl⟩ | ⟨g,cap,cur,rfl,hbg,hg,hnc,hcm,hcs,htake⟩
 ·obtain ⟨v2,w2,hr2,h12,h22,_⟩:=Lib.run_append_own_string (P:=P) w w.heap.size t u ty e i ht hu hi hz hsize hby (.slice none 0 0) 0 [] (World.ownsRow_nil _ _ _ _) s h63 hbytes (Nat.le_refl _);rw [hr] at hr2;simp only [Result.ok.injEq] at hr2;obtain ⟨rfl,rfl⟩:=hr2;cases hb:v'.ownBlock with
  | none=>exact .inl rfl
  | some k=>exact .inr ⟨k,rfl,(h12.lt k hb).1⟩
 ·by_cases hroom:n+s.size≤cap
  ·have hcs':cur.size=cap:=by simpa using hcs
   have hr2:=Lib.run_append_room_string (P:=P) w t u ty e i ht hu hi hsize g n cap cur hg s hroom (by omega);rw [hr] at hr2;simp only [Result.ok.injEq] at hr2;rw [hr2.1];exact .inl rfl
  ·have holds: ∀ j u,xs[j]?=some u→w.cell? ((⟨g,0,none⟩:Addr).add j)=some u:=hown.cells (g:=g) rfl;have hsmall:n+s.size≤9223372036854775807:=by simp only [maxLen] at h63;omega
   have hr2:=Lib.run_append_grow_string (P:=P) w t u ty e i (.int .u8 0) ht hu hi hz ⟨g,0,none⟩ n cap xs (by rw [hsize];simpa using hxl) holds s (by omega) (by omega) (by rw [hby];exact growslice_fits (by omega) (by omega));rw [hr] at hr2;simp only [Result.ok.injEq] at hr2;rw [hr2.1];exact .inr ⟨_,rfl,Nat.le_refl _⟩
theorem JlW {P:Program} {ops:Array Oper} {o:Oper} {a:Act} {w:World} {K:Act→World→Prop} {Q:Exit→Act→World→Prop} {E:Prop} (hg:o.guard=none) (sl x:Operand) (t u:TypeId)
  (ho:o.op=.call { callee:=.builtin .append,args:=#[sl,x],argTypes:=#[t,u] })
  (base:Nat) (e:TypeId) (i:TypeInfo) (ht:P.underlying t=some (.slice e)) (hu:P.underlying u=some .string) (hi:P.info? e=some i) (hz:i.zero=some (.int .u8 0))
  (hsize:i.size=1) (hby:i.bytes=1)
  (v:Value) (n:Nat) (xs:List Value) (hs:a.eval sl=v) (hown:w.ownsRow base e 1 v n xs) (s:ByteArray) (hx:a.eval x=.string s)
  (h63:n+s.size≤maxLen) (hbytes:n+s.size≤140737488355328) (hbase:base≤w.heap.size)
  (h: ∀ v' w',w'.ownsRow base e 1 v' (n+s.size) (xs++Lib.strCells s)→w.grownBy w' v.ownBlock→(v'.ownBlock=v.ownBlock∨ ∃ k,v'.ownBlock=some k∧w.heap.size≤k)→K (a.put o.dst v') w'):
  if Region.wanted o (yielded ops a.tmps)=true then Oper.wp P o a w K Q else E:=by
 refine JcQ hg ?_;obtain ⟨v',w',hr,h2,h3,h4⟩:=Jev (P:=P) w base t u o.type e i ht hu hi hz hsize hby v n xs hown s h63 hbytes hbase;unfold Oper.wp execOp;simp only [ho,resolve,invoke,builtin,Sem.run_bind,Sem.run_pure,Result.andThen_ok,List.map_toArray,List.map_cons,List.map_nil,hs,hx,hr];exact h v' w' h2 h3 h4
theorem Jto:(Tryz.prog.info? 5).map (fun i=>(i.zero,i.size,i.bytes))=some (some (.int .u8 0),1,1):=by kernel_rfl
theorem Jr4 (w:World) (h0:0<w.heap.size):
  BdT ((w.alloc (.cells #[.string ⟨#[]⟩,.slice none 0 0,.string ⟨#[]⟩,.slice none 0 0] 45)).alloc (.cells #[.slice (some ⟨w.heap.size,0,none⟩) 1 1,.slice none 0 0] 115)) w.heap.size (w.heap.size+1) St.start
   (JU (w.heap.size+1) (.slice (some ⟨w.heap.size,0,none⟩) 1 1) (.slice none 0 0) [⟨⟨[],[],[]⟩,.slice none 0 0,.slice none 0 0,[]⟩]):=by
 refine ⟨_,_,[],⟨⟨[],[],[]⟩,.slice none 0 0,.slice none 0 0,[]⟩,rfl,rfl,rfl,?_⟩;have hblk:=heap_alloc_new (w.alloc (.cells #[.string ⟨#[]⟩,.slice none 0 0,.string ⟨#[]⟩,.slice none 0 0] 45)) (.cells #[.slice (some ⟨w.heap.size,0,none⟩) 1 1,.slice none 0 0] 115);have hsz:(w.alloc (.cells #[.string ⟨#[]⟩,.slice none 0 0,.string ⟨#[]⟩,.slice none 0 0] 45)).heap.size=w.heap.size+1:=by simp
 rw [hsz] at hblk;refine ⟨hblk,(World.ownsRow_lit (base:=w.heap.size) (e:=45) (size:=4) w #[.string ⟨#[]⟩,.slice none 0 0,.string ⟨#[]⟩,.slice none 0 0] 1 (Nat.le_refl _) (by decide) rfl).alloc _,World.ownsRow_nil _ _ _ _,?_,?_,?_,?_,by omega,h0⟩
 ·intro p hp;simp at hp;subst hp;exact ⟨rfl,World.ownsRow_nil _ _ _ _⟩
 ·intro p hp;simp at hp;subst hp;exact ⟨rfl,.inl ⟨rfl,none,0,rfl,by simp [maxLen]⟩⟩
 ·intro p hp;simp at hp;subst hp;simp
 ·simp [Zk,Value.ownBlock]
theorem Jjo (l:List UInt8) (t:List UInt8):Lib.byteCells l++Lib.strCells ⟨t.toArray⟩=Lib.byteCells (l++t):=by
 simp [Lib.byteCells,Lib.strCells]
theorem Jl1 (s:St) (t:Tok):(s.step t).weight≤s.weight+1:=by
 unfold St.step;split
 ·unfold St.weight;simp only [St.all];split<;>split<;>omega
 ·split
  ·unfold St.openTag;have hc:=JbF (s.up.length+1 - Jm s.names t.name) s;split
   ·exact Nat.le_trans hc (by omega)
   ·unfold St.closeFrom;generalize s.close (s.up.length+1 - Jm s.names t.name)=s1 at hc;rw [←Jb0 s1] at hc;refine Nat.le_trans ?_ (Nat.add_le_add_right hc 1);have h1:=QG s1;have h2:=QD s1;unfold St.openIn;split
    ·unfold St.weight;rw [XZ,XZ];simp [St.put,Op.put,h2];omega
    ·unfold St.weight;rw [XZ,XZ,h1,h2];simp;omega
  ·exact Nat.le_trans (JbF _ s) (by omega)
theorem Jsc (s:St):s.pop.text=[]:=by
 unfold St.pop;split
 ·exact QD s
 ·rfl
theorem Jh0 (k:Nat) (s:St):(s.close k).text.length≤s.text.length:=by
 induction k generalizing s with
 | zero=>exact Nat.le_refl _
 | succ k ih=>rw [St.close];exact Nat.le_trans (ih _) (by rw [Jsc];simp)
theorem JqJ (s:St) (t:Tok):(s.step t).text.length≤s.text.length+t.text.length:=by
 unfold St.step;split
 ·simp
 ·split
  ·unfold St.openTag;have hc:=Jh0 (s.up.length+1 - Jm s.names t.name) s;split
   ·exact Nat.le_trans hc (by omega)
   ·unfold St.openIn;split
    ·simp [St.put,QD]
    ·simp
  ·exact Nat.le_trans (Jh0 _ s) (by omega)
theorem Joz {t:Tok} (h:Xi t=0):t.kind=1∨t.kind=2∨(t.kind=3∧t.name≠[]):=by
 unfold Xi at h;split at h
 ·exact .inl ‹_›
 ·split at h
  ·exact .inr (.inl ‹_›)
  ·split at h
   ·split at h
    ·simp at h
    ·next hn=>
     refine .inr (.inr ⟨‹_›,fun e=>?_⟩);rw [e] at hn;exact hn (.inr (.inr (by decide)))
   ·simp at h
theorem Jts (w:World):(Instr.makeSlice 29 (.int .i64 1) (.int .i64 1)).run Tryz.prog w=.ok (.slice (some ⟨w.heap.size,0,none⟩) 1 1) (w.alloc (.cells #[.string ⟨#[]⟩,.slice none 0 0,.string ⟨#[]⟩,.slice none 0 0] 45)):=by
 obtain ⟨i0,hi,hz0,hz1,hz2⟩:=info_parts Jbs;have hr:=run_make (P:=Tryz.prog) w 29 45 i0 _ Tryz.underlying29 hi hz0 .i64 .i64 1 1 (by decide) (by decide) (by rw [hz2];decide) (by decide);rw [hz1] at hr;have e1:madeCells (Value.agg #[.string ⟨#[]⟩,.slice none 0 0,.string ⟨#[]⟩,.slice none 0 0]).cells ((1:Int).toNat * 4)=#[.string ⟨#[]⟩,.slice none 0 0,.string ⟨#[]⟩,.slice none 0 0]:=by kernel_rfl
 rw [e1] at hr;exact hr
set_option maxRecDepth 8000 in
theorem Jol (w:World) (v:Value) (ts:List Tok) (hv:Jbd w v ts) (hf: ∀ t∈ts,JjK t) (h0:0<w.heap.size) (hat: ∀ t∈ts,t.attrs.length≤2000000) (htx:(ts.flatMap Tok.text).length≤2000000):
  Calls Tryz.prog 19 #[v] w fun e w'=> ∃ v',e=.returned (.tuple #[v',.int .i64 (Ya ts)])∧Ns w' (fun g=>w.heap.size≤g) v' (if Ya ts=0 then JP ts else [])∧Jb [] w w':=by
 have hck:=Ja (Je2 w v ts hv hf);by_cases hc:Ya ts=0
 ·have hts: ∀ t∈ts,Xi t=0:=Je5 ts hc;rw [if_pos hc];rw [hc] at hck ⊢;have hlen:ts.length≤3000:=by
   unfold Ya at hc;split at hc
   ·simp at hc
   ·omega
  unfold JP;obtain ⟨R,hR⟩: ∃ R,ts.foldl St.step St.start=R:=⟨_,rfl⟩;rw [hR];obtain ⟨l,rfl,hvl,hva⟩:=id hv;obtain ⟨o,c,rfl,h1,h2⟩:=hvl.form;unfold maxLen at h2;have HR:=Ja hR;have HTX:=Ja htx;have HV:=Ja hv;clear hc hR htx hv;rw [List.length_map] at hlen;go_enter Tryz.func19,Tryz.ntmps19;go_wp2_with fail;refine hck.out.mono ?_;rintro e w1 ⟨rfl,hk1⟩;clear hck;have hst:=Jr4 w1 (Nat.lt_of_lt_of_le h0 hk1.size);have HST:=Ja hst;clear hst;have hmk:=Jts w1;go_wp2_with fail;clear hmk;obtain ⟨W0,hW0⟩: ∃ W0,((w1.alloc (.cells #[.string ⟨#[]⟩,.slice none 0 0,.string ⟨#[]⟩,.slice none 0 0] 45)).alloc (.cells #[.slice (some ⟨w1.heap.size,0,none⟩) 1 1,.slice none 0 0] 115))=W0:=⟨_,rfl⟩;have hk0:Jb [] w1 W0:=by rw [←hW0];exact ((Jb.refl [] w1).alloc _).alloc _
  have hst:=HST.out;rw [hW0] at hst ⊢;generalize JU (w1.heap.size+1) (.slice (some ⟨w1.heap.size,0,none⟩) 1 1) (.slice none 0 0) [⟨⟨[],[],[]⟩,.slice none 0 0,.slice none 0 0,[]⟩]=T0 at hst;have hge0:=hst.ge;have HST0:=Ja hst;have hw1:w.heap.size≤w1.heap.size:=hk1.size;clear HST hW0 hst;generalize hrr:w1.heap.size+1=r at *;generalize hBB:w1.heap.size=B at *;have hkW: ∀ wr T,Stp W0 T0 wr T→Jb [] w wr:=fun wr T h=>by
   have hb:=h.below (B:=B) (fun g hg=>(hge0.1 g hg).1) hge0.2;have h8:=hk0.nil_below;rw [hBB] at h8;have h9:Jb [] w1 wr:=Jb.of_below (by rw [hBB];exact h8.trans hb);exact hk1.trans h9
  have HkW:=Ja hkW;have HTS:=Ja hts;have HAT:=Ja hat;have HVA:=Ja hva;have HVL:=Ja hvl;clear hkW hrr hge0 hts hat hva hvl hf hk0 hk1;go_loopw [18] (fun i wr=> ∃ (k:Nat) (s:St),k≤l.length∧i=.int .i64 k∧Hid (∃ T,BdT wr B r s T∧Stp W0 T0 wr T)∧Hid (((l.drop k).map (·.1)).foldl St.step s=R)∧Hid (s.weight≤k+1)∧Hid s.Root∧Hid (s.text.length+(((l.drop k).map (·.1)).flatMap Tok.text).length≤2000000)) (fun i _=>l.length - (intOf i).toNat)
  case atStart=>exact ⟨0,St.start,Nat.zero_le _,rfl,⟨T0,HST0.out,Stp.refl _ _⟩,HR,by rw [Hid];decide,⟨[],rfl⟩,by rw [Hid];simpa [St.start] using HTX.out⟩
  case round=>
   obtain ⟨k,s,hk,rfl,hB,hF,hW,hRt,hX⟩:=hrel;clear HST0 HR HTX;by_cases hlt:k<l.length
   ·obtain ⟨T,hBd,hS⟩:=hB.out;have hkw:=HkW.out wr T hS;have hgeT:=hBd.ge;obtain ⟨g,x,hoo,hcl⟩:=(HVL.out.keeps hkw).addr (by omega);subst hoo;obtain ⟨a0,a1,a2,a3⟩:=JbS hcl k hlt;have hdr:l.drop k=l[k]::l.drop (k+1):=List.drop_eq_getElem_cons hlt;have hF1:=hF.out;have hX1:=hX.out;rw [hdr,List.map_cons] at hF1 hX1;rw [List.foldl_cons] at hF1;rw [List.flatMap_cons,List.length_append] at hX1;have hmem:l[k].1∈l.map (·.1):=List.mem_map_of_mem (List.getElem_mem hlt);have hchk:=Joz (HTS.out _ hmem);have hatk:=HAT.out _ hmem;have hvak:=HVA.out l[k] (List.getElem_mem hlt);have hws:=Jl1 s l[k].1;have hts:=JqJ s l[k].1;have hrs:=Jqm s l[k].1 hRt.out;have hw0:=hW.out;clear hF hX hdr hmem hcl hB;generalize l[k]=p at *;obtain ⟨⟨kd,nm,la,tx⟩,pv⟩:=p;simp only at a0 a1 a2 a3 hchk hatk hvak hX1 hws hts hrs hF1;obtain ⟨po,pc,hpv,hp1,hp2⟩:=hvak.form;subst hpv;unfold maxLen at hp2;have hka:Jb [] wr (wr.alloc (.cells #[.int .i64 kd,.string ⟨nm.toArray⟩,.slice po la.length pc,.string ⟨tx.toArray⟩] 117)):=(Jb.refl [] wr).alloc _;have hBa:=hBd.keepsNil hka;have hSa:=hS.trans (Stp.nil hka T);have HNX:Hid (∃ s',s.step ⟨kd,nm,la,tx⟩=s'∧s'.weight≤k+1+1∧s'.Root∧s'.text.length+(((l.drop (k+1)).map (·.1)).flatMap Tok.text).length≤2000000∧((l.drop (k+1)).map (·.1)).foldl St.step s'=R):=⟨_,rfl,by omega,hrs,by omega,hF1⟩;have hNX:=HNX;clear HNX hws hts hrs hF1;rcases hchk with hkd | hkd | ⟨hkd,hnn⟩
    ·subst hkd;have hstp:s.step ⟨1,nm,la,tx⟩=⟨s.up,s.cur,s.text++tx⟩:=rfl;have HSTP:=Ja hstp;obtain ⟨openv,textv,l9,p9,hTT,e2,e3,hBt⟩:=id hBa;have hrl:=hBt.lt;have q1:=hBt.cell1;obtain ⟨t0,tc,htv⟩:=Jg hBt.txt;subst htv;obtain ⟨i0,hi,hz0,hz1,hz2⟩:=info_parts Jto;have hbx:(wr.alloc (.cells #[.int .i64 1,.string ⟨nm.toArray⟩,.slice po la.length pc,.string ⟨tx.toArray⟩] 117)).heap[wr.heap.size]?=some (.cells #[.int .i64 1,.string ⟨nm.toArray⟩,.slice po la.length pc,.string ⟨tx.toArray⟩] 117 (0,0)):=heap_alloc_new wr _;have b3:(wr.alloc (.cells #[.int .i64 1,.string ⟨nm.toArray⟩,.slice po la.length pc,.string ⟨tx.toArray⟩] 117)).cell? ⟨wr.heap.size,3,none⟩=some (.string ⟨tx.toArray⟩):=Jd hbx 3;have hrt:r∉(Value.slice t0 s.text.length tc).ownBlock.toList:=fun hm=>Jt hBt.txt hBt.blk (by decide) (by simpa using hm);have hBW:=hBa.ge.2;have E2:=Ja e2;have E3:=Ja e3;have HT:=Ja hTT;clear hstp e2 e3 hTT hbx;have htsz:(⟨tx.toArray⟩:ByteArray).size=tx.length:=Jv tx;go_upto_region 11 with fail;obtain ⟨W,hWW⟩: ∃ W,wr.alloc (.cells #[.int .i64 1,.string ⟨nm.toArray⟩,.slice po la.length pc,.string ⟨tx.toArray⟩] 117)=W:=⟨_,rfl⟩;rw [hWW] at hBa hSa hBt q1 b3 hBW hrl hka ⊢;clear hWW
     go_region_law (refine JlW rfl _ _ 107 9 rfl B 5 i0 Tryz.underlying107 Tryz.underlying9 hi hz0 hz1 hz2 (.slice t0 s.text.length tc) s.text.length (Lib.byteCells s.text) rfl hBt.txt.drew ⟨tx.toArray⟩ rfl (by rw [Jv];unfold maxLen;omega) (by rw [Jv];omega) hBW ?_;intro v3 w3 ho3 hg3 hw3;obtain ⟨o3,c3,hv3⟩:=Jg ho3;subst hv3;have hk3:Jb (Value.slice t0 s.text.length tc).ownBlock.toList W w3:=((Jb.refl _ W).drew).grown hg3 (fun i e=>.inl (by simp [e]));have d1:=JE hk3 (a:=⟨r,1,none⟩) hrt q1;have d2:w3.frozen? ⟨r,1,none⟩=false:=Jn ((hk3.block r hrl hrt).trans hBt.blk) 1)
     all_goals go_wp2_with fail
     all_goals have ho4:w3.ownsRow B 5 1 (.slice o3 (s.text.length+tx.length) c3) (s.text++tx).length (Lib.byteCells (s.text++tx)):=(by have h9:=ho3;rw [Jjo] at h9;rw [List.length_append];exact h9)
     all_goals have hst:=hBt.setText hk3 ho4 hw3
     all_goals obtain ⟨s',hs',n1,n2,n3,n4⟩:=hNX.out
     all_goals rw [HSTP.out] at hs'
     all_goals subst hs'
     all_goals refine ⟨⟨k+1,⟨s.up,s.cur,s.text++tx⟩,by omega,rfl,⟨_,⟨openv,_,l9,p9,rfl,E2.out,E3.out,hst.1⟩,hSa.trans (HT.out ▸ hst.2)⟩,n4,n1,n2,n3⟩,?_⟩
     all_goals (simp [intOf];omega)
    ·subst hkd;have hop:=Ja (Jky B r s T _ hBa hRt.out (by omega) 2 nm tx la po pc (fun W hb=>hvak.keeps (Jb.of_below ((HkW.out _ _ hSa).nil_below.trans (hb.mono hw1)))) hatk);have hstp:s.step ⟨2,nm,la,tx⟩=s.openTag ⟨2,nm,la,tx⟩:=rfl;rw [hstp] at hNX;clear hstp;go_wp2_with fail;refine hop.out.mono ?_;rintro e w5 ⟨rfl,T5,hB5,hS5⟩;clear hop;go_wp2_with fail;go_roundw
     case rel=>
      obtain ⟨s',hs',n1,n2,n3,n4⟩:=hNX.out;subst hs';exact ⟨k+1,_,by omega,by go_num,⟨T5,hB5,hSa.trans hS5⟩,n4,n1,n2,n3⟩
     case measure=>simp [intOf];omega
    ·subst hkd;have hcl:=Ja (Jjs B r s T nm hnn _ hBa hRt.out (by omega));have hstp:s.step ⟨3,nm,la,tx⟩=s.closeTag nm:=rfl;rw [hstp] at hNX;clear hstp;go_wp2_with fail;refine hcl.out.mono ?_;rintro e w5 ⟨rfl,T5,hB5,hS5⟩;clear hcl;go_wp2_with fail;go_roundw
     case rel=>
      obtain ⟨s',hs',n1,n2,n3,n4⟩:=hNX.out;subst hs';exact ⟨k+1,_,by omega,by go_num,⟨T5,hB5,hSa.trans hS5⟩,n4,n1,n2,n3⟩
     case measure=>simp [intOf];omega
   ·have hke:k=l.length:=by omega
    subst hke;have hRe:s=R:=by have:=hF.out;rw [List.drop_length] at this;exact this
    subst hRe;obtain ⟨T,hBd,hS⟩:=hB.out;have hkw:=HkW.out wr T hS;have hen:=Ja (Jrb B r s T wr hBd (by have:=hW.out;omega));go_wp2_with fail;refine hen.out.mono ?_;rintro e w9 ⟨v9,rfl,hN9,hb9⟩;have hN9':Ns w9 (fun g=>w.heap.size≤g) v9 _:=hN9.mono (fun g _ hg=>by omega);obtain ⟨o9,n9,c9,hv9⟩: ∃ o n c,v9=.slice o n c:=by
     cases hN9 with
     | mk v l' ns e h ha hk=>obtain ⟨o,c,h⟩:=h.form;exact ⟨o,_,c,h⟩
    subst hv9;clear hen;go_wp2_with fail
    go_ret2
    refine ⟨_,rfl,hN9',Jb.of_below ((hkw.nil_below).trans (hb9.mono hw1))⟩
 ·rw [if_neg hc];generalize Ya ts=E at *;have hEb:(E != 0)=true:=by simpa using hc
  obtain ⟨l,_,hvl,_⟩:=id hv;obtain ⟨o,c,rfl,h1,h2⟩:=hvl.form;unfold maxLen at h2;clear hvl hv hf hat htx;go_enter Tryz.func19,Tryz.ntmps19;go_wp2_with fail;refine hck.out.mono ?_;rintro e w1 ⟨rfl,hk1⟩;clear hck;go_wp2_with fail
  go_ret2
  exact ⟨_,rfl,Ns.nil _ _ none 0 (by simp [maxLen]),hk1⟩
theorem Ns.keeps0 {w w':World} {P:Nat→Prop} {v:Value} {ns:List Nd} (h:Ns w P v ns) (hk:Jb [] w w'):Ns w' P v ns:=h.keeps hk (fun _ _=>List.not_mem_nil)
theorem JhU {P:Program} (w:World) (base:Nat) (t ty e:TypeId) (i:TypeInfo) (z:Value) (size bytes:Nat) (ht:P.underlying t=some (.slice e)) (hi:P.info? e=some i) (hz:i.zero=some z)
  (hsize:i.size=size) (hby:i.bytes=bytes) (hzs:z.cells.size=size) (hsz:0<size)
  (v:Value) (n:Nat) (xs:List Value) (hown:w.ownsRow base e size v n xs)
  (a:Addr) (c:Nat) (news:List Value) (hl:news.length=size) (hnews: ∀ j u,news[j]?=some u→w.cell? (a.add j)=some u) (h1: ∀ u∈news,u.oneCell'=true)
  (h63:n+1≤maxLen) (hbytes:(n+1) * bytes≤140737488355328) (hbase:base≤w.heap.size):
  ∃ v' w',(Builtin.append_ #[t,t] ty #[v,.slice (some a) 1 c]).run P w=.ok v' w'∧w'.ownsRow base e size v' (n+1) (xs++news)∧w.grownBy w' v.ownBlock∧
   ((∃ g cap,v=.slice (some ⟨g,0,none⟩) n cap∧v'=.slice (some ⟨g,0,none⟩) (n+1) cap)∨(v'.ownBlock=some w.heap.size∧Jb [] w w')):=by
 obtain ⟨v',w',hr,h2,h3,_⟩:=run_append_own (P:=P) w base t ty e i z size bytes ht hi hz hsize hby hzs hsz v n xs hown a 1 c news (by rw [hl,Nat.one_mul]) hnews h1 h63 hbytes hbase;refine ⟨v',w',hr,h2,h3,?_⟩;have hsmall:n+1≤9223372036854775807:=by simp only [maxLen] at h63;omega
 subst hsize;subst hby;rcases hown.2 with ⟨rfl,rfl⟩ | ⟨g,cap,cur,rfl,hbg,hg,hnc,hcm,hcs,htake⟩
 ·have hr2:=run_append_nil (P:=P) w t ty e i z ht hi hz a 1 c news (by rw [hl,Nat.one_mul]) hnews (by omega) (by omega) (by simp only [Nat.zero_add] at hbytes;omega);rw [hr] at hr2;simp only [Result.ok.injEq] at hr2;obtain ⟨rfl,rfl⟩:=hr2;exact .inr ⟨rfl,((Jb.refl [] w).drew).alloc _⟩
 ·by_cases hroom:n+1≤cap
  ·have hfit:n * i.size+news.length≤cur.size:=by
    rw [hl,hcs];have:=Nat.mul_le_mul_right i.size hroom;rw [Nat.add_mul,Nat.one_mul] at this;exact this
   have hr2:=run_append_room (P:=P) w t ty e i ht hi g n cap cur hg a 1 c news (by rw [hl,Nat.one_mul]) hnews h1 hroom hfit;rw [hr] at hr2;simp only [Result.ok.injEq] at hr2;exact .inl ⟨g,cap,rfl,hr2.1⟩
  ·have holds: ∀ j u,xs[j]?=some u→w.cell? ((⟨g,0,none⟩:Addr).add j)=some u:=hown.cells (g:=g) rfl;have hr2:=run_append_grow (P:=P) w t ty e i z ht hi hz ⟨g,0,none⟩ n cap xs hown.1 holds a 1 c news (by rw [hl,Nat.one_mul]) hnews (by omega) (by omega) (growslice_fits (by omega) hbytes);rw [hr] at hr2;simp only [Result.ok.injEq] at hr2;obtain ⟨rfl,rfl⟩:=hr2;exact .inr ⟨rfl,((Jb.refl [] w).drew).alloc _⟩
theorem X8 {P:Program} {ops:Array Oper} {o:Oper} {a:Act} {w:World} {K:Act→World→Prop} {Q:Exit→Act→World→Prop} {E:Prop} (hg:Region.wanted o (yielded ops a.tmps)=true) (s x:Operand) (t:TypeId)
  (ho:o.op=.call { callee:=.builtin .append,args:=#[s,x],argTypes:=#[t,t] })
  (base:Nat) (e:TypeId) (i:TypeInfo) (z:Value) (size bytes:Nat) (ht:P.underlying t=some (.slice e)) (hi:P.info? e=some i) (hz:i.zero=some z)
  (hsize:i.size=size) (hby:i.bytes=bytes) (hzs:z.cells.size=size) (hsz:0<size)
  (v:Value) (n:Nat) (xs:List Value) (hs:a.eval s=v) (hown:w.ownsRow base e size v n xs)
  (ad:Addr) (c:Nat) (news:List Value) (hx:a.eval x=.slice (some ad) 1 c) (hl:news.length=size) (hnews: ∀ j u,news[j]?=some u→w.cell? (ad.add j)=some u) (h1: ∀ u∈news,u.oneCell'=true)
  (h63:n+1≤maxLen) (hbytes:(n+1) * bytes≤140737488355328) (hbase:base≤w.heap.size)
  (h: ∀ v' w',w'.ownsRow base e size v' (n+1) (xs++news)→w.grownBy w' v.ownBlock→((∃ g cap,v=.slice (some ⟨g,0,none⟩) n cap∧v'=.slice (some ⟨g,0,none⟩) (n+1) cap)∨(v'.ownBlock=some w.heap.size∧Jb [] w w'))→K (a.put o.dst v') w'):
  if Region.wanted o (yielded ops a.tmps)=true then Oper.wp P o a w K Q else E:=by
 rw [if_pos hg];obtain ⟨v',w',hr,h2,h3,h5⟩:=JhU (P:=P) w base t o.type e i z size bytes ht hi hz hsize hby hzs hsz v n xs hown ad c news hl hnews h1 h63 hbytes hbase;unfold Oper.wp execOp;simp only [ho,resolve,invoke,builtin,Sem.run_bind,Sem.run_pure,Result.andThen_ok,List.map_toArray,List.map_cons,List.map_nil,hs,hx,hr];exact h v' w' h2 h3 h5
theorem XC {ops:Array Oper} {o:Oper} {a:Act} {w:World} {K:Act→World→Prop} {Q:Exit→Act→World→Prop} {E:Prop} (hg:Region.wanted o (yielded ops a.tmps)=true)
  (c:Operand) (xs:Array Operand) (ts:Array TypeId) (hop:o.op=.call { callee:=.value c,args:=xs,argTypes:=ts }) (f:FuncId) (caps:Array Value) (hc:a.eval c=.func (.func f) #[] caps) (hE:Jy f) (args:Array Value) (hxs:xs.map a.eval=args)
  {R:Ending→World→Prop} (hcl:Calls Tryz.prog f (args++caps) w R) (hK: ∀ e w',R e w'→ ∃ v,e=.returned v∧K (a.put o.dst v) w'):
  if Region.wanted o (yielded ops a.tmps)=true then Oper.wp Tryz.prog o a w K Q else E:=by
 rw [if_pos hg];have hr:(execOp a.eval o).run Tryz.prog w=.ok (.enter f (args++caps)) w:=by
  have hE':=hE (args++caps) w;simp [execOp,hop,resolve,invoke,hc,Deferred.ofValue,hxs,hE']
 unfold Oper.wp;rw [hr,Oper.upon_enter];refine hcl.mono fun e w' h=>?_;obtain ⟨v,rfl,hk⟩:=hK e w' h;exact hk
def QL {σ:Type} (f:σ→List Nd→Nat→List Nd→σ × Bool):List Nd→List Nd→Nat→List Nd→σ→σ × Bool
 | _,[],_,_,s=>(s,true)
 | b,.mk n a t k::r,i,ar,s=>
   if (f s b i ar).2=true then
    (if (QL f k k 0 (ar++[.mk n a t k]) (f s b i ar).1).2=true then QL f b r (i+1) ar (QL f k k 0 (ar++[.mk n a t k]) (f s b i ar).1).1
    else ((QL f k k 0 (ar++[.mk n a t k]) (f s b i ar).1).1,false))
   else ((f s b i ar).1,false)
theorem JnZ {σ:Type} (f:σ→List Nd→Nat→List Nd→σ × Bool) (b:List Nd) (n:Nd) (r:List Nd) (i:Nat) (ar:List Nd) (s:σ):QL f b (n::r) i ar s=
  if (f s b i ar).2=true then
   (if (QL f n.kids n.kids 0 (ar++[n]) (f s b i ar).1).2=true then QL f b r (i+1) ar (QL f n.kids n.kids 0 (ar++[n]) (f s b i ar).1).1
   else ((QL f n.kids n.kids 0 (ar++[n]) (f s b i ar).1).1,false))
  else ((f s b i ar).1,false):=by
 obtain ⟨n,a,t,k⟩:=n;rw [QL];rfl
def JD:List Nd→Nat
 | []=>0
 | .mk _ _ _ k::r=>1+JD k+JD r
theorem ZP (n:Nd) (r:List Nd):JD (n::r)=1+JD n.kids+JD r:=by
 obtain ⟨n,a,t,k⟩:=n;rw [JD];rfl
theorem Jew {n:Nd}:{ns:List Nd}→n∈ns→JD n.kids<JD ns
 | m::r,h=>by
   rw [ZP];rcases List.mem_cons.1 h with rfl | h
   ·omega
   ·have:=Jew h;omega
structure Vis {σ:Type} (K:Nat) (caps:Array Value) (f:σ→List Nd→Nat→List Nd→σ × Bool) (I:σ→World→Prop) (S:List Nat) (B1:Nat) (P:Nat→Prop) (F:List Nd→Prop):Prop where
 call: ∀ (s:σ) (w:World) (v:Value) (ns:List Nd) (i:Nat) (av:Value) (pl:List Pn),I s w→Ns w P v ns→F ns→i<ns.length→w.ownsRow B1 45 4 av pl.length (Jk pl)→pl.length≤2000000→B1≤w.heap.size→
  Calls Tryz.prog K (#[v,.int .i64 i,av]++caps) w fun e w'=>e=.returned (.bool (f s ns i (pl.map Pn.nd)).2)∧I (f s ns i (pl.map Pn.nd)).1 w'∧Jb S w w'
 stable: ∀ (s:σ) (w w':World) (L:List Nat),(∀ g,g∈L→B1≤g)→I s w→Jb L w w'→I s w'
 down: ∀ ns,F ns→ ∀ n∈ns,F n.kids
 low: ∀ g,g∈S→g<B1
 enters:Jy K
 part: ∀ g,P g→g<B1∧g∉S
theorem X6:Jy 171:=JC Tryz.func171 (by kernel_rfl) (by kernel_rfl)
def Je3 (S:List Nat) (av:Value):List Nat:=S++av.ownBlock.toList
theorem Jeu {w:World} {B g cap n:Nat} {xs:List Value} {p:Pn} (hx:xs.length=n * 4) (h:w.ownsRow B 45 4 (.slice (some ⟨g,0,none⟩) (n+1) cap) (n+1) (xs++Qd p)):w.ownsRow B 45 4 (.slice (some ⟨g,0,none⟩) n cap) n xs:=ownsRow_pop hx h
theorem Ns.form {w:World} {P:Nat→Prop} {v:Value} {ns:List Nd} (h:Ns w P v ns): ∃ o c,v=.slice o ns.length c:=by
 cases h with
 | mk v l ns e h ha hk=>
   obtain ⟨o,c,h⟩:=h.form;exact ⟨o,c,by rw [h, ←e,List.length_map]⟩
theorem QN {S T:List Nat} {a b c:World} (h:Jb T a b) (k:Jb S b c) (hS: ∀ g,g∈S→g<a.heap.size→g∈T):Jb T a c:=
 ⟨k.os.trans h.os,k.tape.trans h.tape,k.output.trans h.output,Nat.le_trans h.size k.size,fun i hi hT=>(k.block i (Nat.lt_of_lt_of_le hi h.size) (fun hm=>hT (hS i hm hi))).trans (h.block i hi hT)⟩
theorem ZI {nd:Nd} {qo ko:Option Addr} {qn qc kn kc:Nat}: ∀ u∈Qd ⟨nd,.slice qo qn qc,.slice ko kn kc⟩,u.oneCell'=true:=by
 intro u hu;simp [Qd] at hu;rcases hu with rfl | rfl | rfl | rfl<;>rfl
theorem Qe {A:Act} {j d:Nat} {u v:Value} (h:A.tmps[j]?=some u) (hd:d≠j):(A.put (some d) v).tmps[j]?=some u:=by
 simp only [Act.put];rw [Array.getElem?_setIfInBounds_ne hd];exact h
theorem ZA (A:Act) (d:Option Nat) (v:Value):(A.put d v).tmps.size=A.tmps.size:=by cases d<;>simp [Act.put]
theorem Zz {A:Act} {d:Nat} {v:Value} (h:d<A.tmps.size):(A.put (some d) v).tmps[d]?=some v:=by
 simp only [Act.put];rw [Array.getElem?_setIfInBounds_self_of_lt h]
theorem Ji {ops:Array Oper} {A:Act} {o o6:Oper} {b:Bool} {j d:Nat} (hg:o.guard=some (j,b)) (h6:ops[j]?=some o6) (h7:o6.dst=some d) (h:A.tmps[d]?=some (.bool b)):Region.wanted o (yielded ops A.tmps)=true:=by
 simp [Region.wanted,hg,yielded,h6,h7,h]
theorem Qt {P:Program} {ops:Array Oper} {o:Oper} {a:Act} {w:World} {K:Act→World→Prop} {Q:Exit→Act→World→Prop} {E:Prop} (hg:Region.wanted o (yielded ops a.tmps)=true) {v:Value} {w':World}
  (hr:(execOp a.eval o).run P w=.ok (.value v) w') (h:K (a.put o.dst v) w'):if Region.wanted o (yielded ops a.tmps)=true then Oper.wp P o a w K Q else E:=by
 rw [if_pos hg];unfold Oper.wp;rw [hr];exact h
theorem Y3 {ops:Array Oper} {A:Act} {o o6:Oper} {b c:Bool} {j d:Nat} (hg:o.guard=some (j,b)) (h6:ops[j]?=some o6) (h7:o6.dst=some d) (h:A.tmps[d]?=some (.bool c)) (hbc:c≠b):Region.wanted o (yielded ops A.tmps)=false:=by
 simp [Region.wanted,hg,yielded,h6,h7,h,hbc]
set_option maxRecDepth 8000 in
theorem Jsn {σ:Type} {K:Nat} {caps:Array Value} {f:σ→List Nd→Nat→List Nd→σ × Bool} {I:σ→World→Prop} {S:List Nat} {B1:Nat} {P:Nat→Prop} {F:List Nd→Prop} (V:Vis K caps f I S B1 P F)
  (w0:World) (v:Value) (ns:List Nd) (h:Ns w0 P v ns): ∀ (w:World) (L:List Nat),Jb L w0 w→(∀ g,P g→g∉L)→ ∀ (s:σ) (av:Value) (pl:List Pn),I s w→w.ownsRow B1 45 4 av pl.length (Jk pl)→B1≤w.heap.size→pl.length+JD ns≤2000000→F ns→
  Calls Tryz.prog 171 #[v,av,.func (.func K) #[] caps] w fun e w'=>e=.returned (.bool (QL f ns ns 0 (pl.map Pn.nd) s).2)∧I (QL f ns ns 0 (pl.map Pn.nd) s).1 w'∧w'.ownsRow B1 45 4 av pl.length (Jk pl)∧Jb (Je3 S av) w w':=by
 induction h with
 | mk v l ns hns hl ha hk ih=>
   intro w L hkw hPL s av pl hI hrow hB1 hsz hF;have hNs:Ns w P v ns:=(Ns.mk v l ns hns hl ha hk).keeps hkw hPL;obtain ⟨R,hR⟩: ∃ R,QL f ns ns 0 (pl.map Pn.nd) s=R:=⟨_,rfl⟩;rw [hR];have hlw:=hl.keeps hkw hPL;obtain ⟨o,c,rfl,h1,h2⟩:=hlw.lies.form;obtain ⟨ao,ac,hav⟩:=Jg hrow;subst hav;unfold maxLen at h2;have hll:l.length=ns.length:=by rw [←hns,List.length_map]
   have hE:=V.enters;unfold Jy at hE;obtain ⟨i0,hi,hz0,hz1,hz2⟩:=info_parts Jbs;have hpl:pl.length≤2000000:=by omega
   have HNs:=Ja hNs;have HL:=Ja hlw;have HI:=Ja ih;have HKW:=Ja hkw;have HR:=Ja hR;have Hns:=Ja hns;have Hll:=Ja hll;have Hsz:=Ja hsz;have HF:=Ja hF;have HA:=Ja ha;have HPL:=Ja hPL;have HKD:=Ja hk;clear hNs hlw ih hkw hR hns hll hsz hl ha hk hPL hF;go_enter Tryz.func171,Tryz.ntmps171;go_wp2_with fail;go_loopw [11] (fun i wr=> ∃ (k:Nat) (s':σ),k≤l.length∧i=.int .i64 k∧Hid (I s' wr)∧Hid (wr.ownsRow B1 45 4 (.slice ao pl.length ac) pl.length (Jk pl))∧Hid (Jb (Je3 S (.slice ao pl.length ac)) w wr)∧Hid (QL f ns (ns.drop k) k (pl.map Pn.nd) s'=R)) (fun i _=>l.length - (intOf i).toNat)
   case atStart=>exact ⟨0,s,Nat.zero_le _,rfl,hI,hrow,Jb.refl _ _,HR⟩
   case round=>
    obtain ⟨k,s',hk,rfl,hI',hrow',hkr,hW⟩:=hrel;clear HR hI hrow;have hPc: ∀ g,P g→g∉Je3 S (.slice ao pl.length ac):=fun g hg hm=>by
     rcases List.mem_append.1 hm with hm | hm
     ·exact (V.part g hg).2 hm
     ·have:=(hrow'.out.lt g (by simpa using hm)).1;have:=(V.part g hg).1;omega
    by_cases hlt:k<l.length
    ·obtain ⟨g,x,hoo,hcl⟩:=(HL.out.keeps hkr.out hPc).lies.addr (by omega);subst hoo;obtain ⟨a0,a1,a2,a3⟩:=YJ hcl k hlt;have hkn:k<ns.length:=by rw [←Hll.out];exact hlt
     have hpn:l[k].nd=ns[k]:=by
      have h9:(l.map Pn.nd)[k]?=ns[k]?:=by rw [Hns.out]
      simpa [List.getElem?_eq_getElem hlt,List.getElem?_eq_getElem hkn] using h9
     have hW1:=hW.out;rw [List.drop_eq_getElem_cons hkn,JnZ, ←hpn] at hW1;have hpk:=HI.out l[k] (List.getElem_mem hlt);have hak:=(((HA.out l[k] (List.getElem_mem hlt)).keeps HKW.out HPL.out).keeps hkr.out hPc);have hszk:JD l[k].nd.kids<JD ns:=Jew (by rw [hpn];exact List.getElem_mem hkn);have hFk:=V.down ns HF.out l[k].nd (by rw [hpn];exact List.getElem_mem hkn);have hkf:=(HKD.out l[k] (List.getElem_mem hlt)).form;clear hcl hW;generalize l[k]=p at *;obtain ⟨nd,pav,pkv⟩:=p;simp only at a0 a1 a2 a3 hpn hW1 hpk hak hszk hkf hFk;clear hpn;obtain ⟨qo,qc,hq⟩:=hak.form;subst hq;obtain ⟨ko,kc,hkv⟩:=hkf;subst hkv;obtain ⟨Wb,hWb⟩: ∃ Wb,wr.alloc (.cells #[.string ⟨nd.name.toArray⟩,.slice qo nd.attrs.length qc,.string ⟨nd.text.toArray⟩,.slice ko nd.kids.length kc] 45)=Wb:=⟨_,rfl⟩;have hka:Jb [] wr Wb:=by rw [←hWb];exact (Jb.refl [] wr).alloc _
     have hbx:Wb.heap[wr.heap.size]?=some (.cells #[.string ⟨nd.name.toArray⟩,.slice qo nd.attrs.length qc,.string ⟨nd.text.toArray⟩,.slice ko nd.kids.length kc] 45 (0,0)):=by rw [←hWb];exact heap_alloc_new wr _
     have hBr:B1≤wr.heap.size:=Nat.le_trans hB1 hkr.out.size;have hbl:wr.heap.size<Wb.heap.size:=lt_of_block hbx;have hvis:=Ja (fun (W':World) (hkk:Jb [] Wb W')=>V.call s' W' (.slice (some ⟨g,x,none⟩) l.length c) ns k (.slice ao pl.length ac) pl (V.stable s' wr W' [] (by simp) hI'.out (hka.trans hkk)) ((HNs.out.keeps hkr.out hPc).keeps0 (hka.trans hkk)) HF.out hkn ((hka.trans hkk).owns hrow'.out (fun _ _=>List.not_mem_nil)) hpl (Nat.le_trans hBr (hka.trans hkk).size));have hSl:=V.low;have hst:=V.stable;have hrb: ∀ g,(Value.slice ao pl.length ac).ownBlock=some g→g<wr.heap.size:=fun g hg=>(hrow'.out.lt g hg).2;have hend:=Ja (fun (Wx:World) (hkx:Jb [] wr Wx) {W2:World} (hS2:Jb S Wx W2)=>(⟨hS2.owns (hkx.owns hrow'.out (fun _ _=>List.not_mem_nil)) (fun g hg hm=>by have:=hSl g hm;have:=(hrow'.out.lt g hg).1;omega),QN (QN hkr.out hkx (by simp)) hS2 (fun g hg _=>List.mem_append_left _ hg)⟩:W2.ownsRow B1 45 4 (.slice ao pl.length ac) pl.length (Jk pl)∧Jb (Je3 S (.slice ao pl.length ac)) w W2));cases hb:(f s' ns k (pl.map Pn.nd)).2
     ·rw [hb] at hvis hW1;rw [if_neg (by simp)] at hW1;have hRe:R=((f s' ns k (pl.map Pn.nd)).1,false):=hW1.symm;obtain ⟨s2,hs2⟩: ∃ s2,(f s' ns k (pl.map Pn.nd)).1=s2:=⟨_,rfl⟩;rw [hs2] at hvis hRe;have HRe:=Ja hRe;clear hW1 hb hpk hs2 hRe;go_upto_region 4 with fail;refine wp_region_any (by kernel_rfl) ?_;change wpAny _ _ _ _ _ _ _ (World.drew _);refine wpAny_take (i:=0) (v:=.func (.func K) #[] caps) rfl (by kernel_rfl) (by kernel_rfl) (by kernel_rfl) (fun _ _ _ h=>h) (Or.inl ⟨by rfl,by intro w;go_simp⟩) ?_;refine wpAny_take (i:=1) (v:=.slice (some ⟨g,x,none⟩) l.length c) rfl (by kernel_rfl) (by kernel_rfl) (by kernel_rfl) (fun _ _ _ h=>h) (Or.inl ⟨by rfl,by intro w;go_simp⟩) ?_;refine wpAny_take (i:=2) (v:=.int .i64 k) rfl (by kernel_rfl) (by kernel_rfl) (by kernel_rfl) (fun _ _ _ h=>h) (Or.inl ⟨by rfl,by intro w;go_simp⟩) ?_;refine wpAny_take (i:=3) (v:=.slice ao pl.length ac) rfl (by kernel_rfl) (by kernel_rfl) (by kernel_rfl) (fun _ _ _ h=>h) (Or.inl ⟨by rfl,by intro w;go_simp⟩) ?_;refine wpAny_ready (rs:=[4]) (by kernel_rfl) (by simp) ?_;refine AllReady.cons rfl (fun K9 hK9=>?_) AllReady.nil;refine XC (by simp [Region.wanted]) (.tmp 16) _ _ rfl K caps rfl V.enters #[.slice (some ⟨g,x,none⟩) l.length c,.int .i64 k,.slice ao pl.length ac] (by first | (simp [Act.eval];done) | (simp [Act.eval,Act.put];done)) (hvis.out _ ((Jb.refl [] _).drew)) ?_;rintro e w2 ⟨rfl,hI2,hS2⟩;refine ⟨_,rfl,?_⟩;refine hK9 _ _ ?_;clear hK9 K9;refine wpAny_take (i:=5) (v:=.bool true) rfl (by kernel_rfl) (by kernel_rfl) (by kernel_rfl) (fun _ _ _ h=>h) (Or.inl ⟨by rfl,by intro w;go_simp⟩) ?_;refine wpAny_take (i:=6) (v:=.bool true) rfl (by kernel_rfl) (by kernel_rfl) (by kernel_rfl) (fun _ _ _ h=>h) (Or.inl ⟨by rfl,by intro w;go_simp⟩) ?_
      --MARK1
      refine wpAny_take (i:=7) (v:=undef) rfl (by kernel_rfl) (by kernel_rfl) (by kernel_rfl) (fun _ _ _ h=>h) (Or.inr ⟨Y3 rfl rfl rfl ((Zz (by simp only [ZA];exact of_decide_eq_true rfl))) (by decide),rfl⟩) ?_
      --MARK2
      refine wpAny_take (i:=8) (v:=undef) rfl (by kernel_rfl) (by kernel_rfl) (by kernel_rfl) (fun _ _ _ h=>h) (Or.inr ⟨Y3 rfl rfl rfl (Qe ((Zz (by simp only [ZA];exact of_decide_eq_true rfl))) (by decide)) (by decide),rfl⟩) ?_;refine wpAny_take (i:=9) (v:=undef) rfl (by kernel_rfl) (by kernel_rfl) (by kernel_rfl) (fun _ _ _ h=>h) (Or.inr ⟨Y3 rfl rfl rfl (Qe (Qe ((Zz (by simp only [ZA];exact of_decide_eq_true rfl))) (by decide)) (by decide)) (by decide),rfl⟩) ?_;refine wpAny_take (i:=10) (v:=undef) rfl (by kernel_rfl) (by kernel_rfl) (by kernel_rfl) (fun _ _ _ h=>h) (Or.inr ⟨Y3 rfl rfl rfl (Qe (Qe (Qe ((Zz (by simp only [ZA];exact of_decide_eq_true rfl))) (by decide)) (by decide)) (by decide)) (by decide),rfl⟩) ?_;refine wpAny_take (i:=11) (v:=undef) rfl (by kernel_rfl) (by kernel_rfl) (by kernel_rfl) (fun _ _ _ h=>h) (Or.inr ⟨Y3 rfl rfl rfl (Qe (Qe (Qe (Qe ((Zz (by simp only [ZA];exact of_decide_eq_true rfl))) (by decide)) (by decide)) (by decide)) (by decide)) (by decide),rfl⟩) ?_;refine wpAny_take (i:=12) (v:=undef) rfl (by kernel_rfl) (by kernel_rfl) (by kernel_rfl) (fun _ _ _ h=>h) (Or.inr ⟨Y3 rfl rfl rfl (Qe (Qe (Qe (Qe (Qe ((Zz (by simp only [ZA];exact of_decide_eq_true rfl))) (by decide)) (by decide)) (by decide)) (by decide)) (by decide)) (by decide),rfl⟩) ?_;refine wpAny_take (i:=13) (v:=undef) rfl (by kernel_rfl) (by kernel_rfl) (by kernel_rfl) (fun _ _ _ h=>h) (Or.inr ⟨Y3 rfl rfl rfl (Qe (Qe (Qe (Qe (Qe (Qe ((Zz (by simp only [ZA];exact of_decide_eq_true rfl))) (by decide)) (by decide)) (by decide)) (by decide)) (by decide)) (by decide)) (by decide),rfl⟩) ?_;refine wpAny_take (i:=14) (v:=undef) rfl (by kernel_rfl) (by kernel_rfl) (by kernel_rfl) (fun _ _ _ h=>h) (Or.inr ⟨Y3 rfl rfl rfl (Qe (Qe (Qe (Qe (Qe (Qe (Qe ((Zz (by simp only [ZA];exact of_decide_eq_true rfl))) (by decide)) (by decide)) (by decide)) (by decide)) (by decide)) (by decide)) (by decide)) (by decide),rfl⟩) ?_;refine wpAny_take (i:=15) (v:=undef) rfl (by kernel_rfl) (by kernel_rfl) (by kernel_rfl) (fun _ _ _ h=>h) (Or.inr ⟨Y3 rfl rfl rfl (Qe (Qe (Qe (Qe (Qe (Qe (Qe (Qe ((Zz (by simp only [ZA];exact of_decide_eq_true rfl))) (by decide)) (by decide)) (by decide)) (by decide)) (by decide)) (by decide)) (by decide)) (by decide)) (by decide),rfl⟩) ?_
      --MARK3
      refine wpAny_take (i:=16) (v:=.bool true) rfl (by kernel_rfl) (by kernel_rfl) (by kernel_rfl) (fun _ _ _ h=>h) (Or.inl ⟨by rfl,by intro w;go_simp⟩) ?_
      --MARK4
      refine wpAny_done (by kernel_rfl) ?_ _;simp only [List.getElem_toArray,List.getElem_cons_zero,List.getElem_cons_succ,Act.put,List.setIfInBounds_toArray,List.set]
      --MARK5
      go_wp2_with fail;go_ret;rw [HRe.out];exact ⟨rfl,hI2,hend.out _ (hka.trans ((Jb.refl [] _).drew)) hS2⟩
     ·rw [hb] at hvis hW1;rw [if_pos rfl] at hW1;obtain ⟨s2,hs2⟩: ∃ s2,(f s' ns k (pl.map Pn.nd)).1=s2:=⟨_,rfl⟩;rw [hs2] at hvis hW1;have hin:=Ja (fun (W':World) (L':List Nat) (hkk:Jb L' w0 W') (hPL': ∀ g,P g→g∉L') (av':Value) (hI9:I s2 W') (hrow9:W'.ownsRow B1 45 4 av' (pl++[(⟨nd,.slice qo nd.attrs.length qc,.slice ko nd.kids.length kc⟩:Pn)]).length (Jk (pl++[(⟨nd,.slice qo nd.attrs.length qc,.slice ko nd.kids.length kc⟩:Pn)]))) (hB9:B1≤W'.heap.size)=>hpk W' L' hkk hPL' s2 av' (pl++[(⟨nd,.slice qo nd.attrs.length qc,.slice ko nd.kids.length kc⟩:Pn)]) hI9 hrow9 hB9 (by have:=Hsz.out;simp;omega) hFk);simp only [List.map_append,List.map_cons,List.map_nil,List.length_append,List.length_singleton] at hin;obtain ⟨R2,hR2⟩: ∃ R2,QL f nd.kids nd.kids 0 (pl.map Pn.nd++[nd]) s2=R2:=⟨_,rfl⟩;rw [hR2] at hW1 hin;have HW:=Ja hW1;clear hW1 hb hpk hs2 hR2;have e0:Jk (pl++[(⟨nd,.slice qo nd.attrs.length qc,.slice ko nd.kids.length kc⟩:Pn)])=Jk pl++Qd ⟨nd,.slice qo nd.attrs.length qc,.slice ko nd.kids.length kc⟩:=by simp [Jk]
      rw [e0] at hin;have E0:=Ja e0;clear e0;go_upto_region 4 with fail;refine wp_region_any (by kernel_rfl) ?_;change wpAny _ _ _ _ _ _ _ (World.drew _);refine wpAny_take (i:=0) (v:=.func (.func K) #[] caps) rfl (by kernel_rfl) (by kernel_rfl) (by kernel_rfl) (fun _ _ _ h=>h) (Or.inl ⟨by rfl,by intro w;go_simp⟩) ?_;simp only [List.getElem_toArray,List.getElem_cons_zero,Act.put,List.setIfInBounds_toArray,List.set];refine wpAny_take (i:=1) (v:=.slice (some ⟨g,x,none⟩) l.length c) rfl (by kernel_rfl) (by kernel_rfl) (by kernel_rfl) (fun _ _ _ h=>h) (Or.inl ⟨by rfl,by intro w;go_simp⟩) ?_;simp only [List.getElem_toArray,List.getElem_cons_zero,List.getElem_cons_succ,Act.put,List.setIfInBounds_toArray,List.set];refine wpAny_take (i:=2) (v:=.int .i64 k) rfl (by kernel_rfl) (by kernel_rfl) (by kernel_rfl) (fun _ _ _ h=>h) (Or.inl ⟨by rfl,by intro w;go_simp⟩) ?_;simp only [List.getElem_toArray,List.getElem_cons_zero,List.getElem_cons_succ,Act.put,List.setIfInBounds_toArray,List.set];refine wpAny_take (i:=3) (v:=.slice ao pl.length ac) rfl (by kernel_rfl) (by kernel_rfl) (by kernel_rfl) (fun _ _ _ h=>h) (Or.inl ⟨by rfl,by intro w;go_simp⟩) ?_;simp only [List.getElem_toArray,List.getElem_cons_zero,List.getElem_cons_succ,Act.put,List.setIfInBounds_toArray,List.set];refine wpAny_ready (rs:=[4]) (by kernel_rfl) (by simp) ?_;refine AllReady.cons rfl (fun K9 hK9=>?_) AllReady.nil;refine XC (by simp [Region.wanted]) (.tmp 16) _ _ rfl K caps rfl V.enters #[.slice (some ⟨g,x,none⟩) l.length c,.int .i64 k,.slice ao pl.length ac] (by first | (simp [Act.eval];done) | (simp [Act.eval,Act.put];done)) (hvis.out _ ((Jb.refl [] _).drew)) ?_;rintro e w2 ⟨rfl,hI2,hS2⟩;refine ⟨_,rfl,?_⟩;refine hK9 _ _ ?_;clear hK9 K9;simp only [List.getElem_toArray,List.getElem_cons_zero,List.getElem_cons_succ,Act.put,List.setIfInBounds_toArray,List.set];have hbS:wr.heap.size∉S:=fun hm=>by have:=hSl _ hm;omega
      have hbx2:w2.heap[wr.heap.size]?=some (.cells #[.string ⟨nd.name.toArray⟩,.slice qo nd.attrs.length qc,.string ⟨nd.text.toArray⟩,.slice ko nd.kids.length kc] 45 (0,0)):=(hS2.block _ hbl hbS).trans hbx;have hrow2:=(hend.out _ (hka.trans ((Jb.refl [] _).drew)) hS2).1;have hkp2:=(hend.out _ (hka.trans ((Jb.refl [] _).drew)) hS2).2;have k0:w2.cell? ⟨wr.heap.size,0,none⟩=some (.string ⟨nd.name.toArray⟩):=Jd hbx2 0;have k1:w2.cell? ⟨wr.heap.size,1,none⟩=some (.slice qo nd.attrs.length qc):=Jd hbx2 1;have k2:w2.cell? ⟨wr.heap.size,2,none⟩=some (.string ⟨nd.text.toArray⟩):=Jd hbx2 2;have k3:w2.cell? ⟨wr.heap.size,3,none⟩=some (.slice ko nd.kids.length kc):=Jd hbx2 3;have hbl2:wr.heap.size<w2.heap.size:=lt_of_block hbx2;have k3a: ∀ o',(w2.alloc o').cell? ⟨wr.heap.size,3,none⟩=some (.slice ko nd.kids.length kc):=fun o'=>(JI (a:=⟨wr.heap.size,3,none⟩) hbl2 o').trans k3;have hB2:B1≤w2.heap.size:=by omega
      refine wpAny_take (i:=5) (v:=.bool false) rfl (by kernel_rfl) (by kernel_rfl) (by kernel_rfl) (fun _ _ _ h=>h) (Or.inl ⟨by rfl,by intro w;go_simp⟩) ?_;simp only [List.getElem_toArray,List.getElem_cons_zero,List.getElem_cons_succ,Act.put,List.setIfInBounds_toArray,List.set];refine wpAny_take (i:=6) (v:=.bool false) rfl (by kernel_rfl) (by kernel_rfl) (by kernel_rfl) (fun _ _ _ h=>h) (Or.inl ⟨by rfl,by intro w;go_simp⟩) ?_;simp only [List.getElem_toArray,List.getElem_cons_zero,List.getElem_cons_succ,Act.put,List.setIfInBounds_toArray,List.set];refine wpAny_take (i:=7) (v:=.pointer (some ⟨wr.heap.size,3,none⟩)) rfl (by kernel_rfl) (by kernel_rfl) (by kernel_rfl) (fun _ _ _ h=>h) (Or.inl ⟨Ji rfl rfl rfl rfl,by intro w;go_simp⟩) ?_;simp only [List.getElem_toArray,List.getElem_cons_zero,List.getElem_cons_succ,Act.put,List.setIfInBounds_toArray,List.set];refine wpAny_take (i:=9) (v:=.slice ao pl.length ac) rfl (by kernel_rfl) (by kernel_rfl) (by kernel_rfl) (fun _ _ _ h=>h) (Or.inl ⟨Ji rfl rfl rfl rfl,by intro w;go_simp⟩) ?_;simp only [List.getElem_toArray,List.getElem_cons_zero,List.getElem_cons_succ,Act.put,List.setIfInBounds_toArray,List.set];refine wpAny_take (i:=13) (v:=.func (.func K) #[] caps) rfl (by kernel_rfl) (by kernel_rfl) (by kernel_rfl) (fun _ _ _ h=>h) (Or.inl ⟨Ji rfl rfl rfl rfl,by intro w;go_simp⟩) ?_;simp only [List.getElem_toArray,List.getElem_cons_zero,List.getElem_cons_succ,Act.put,List.setIfInBounds_toArray,List.set]
      --MARK7
      have hdeep:Hid (∀ (w4:World) (o4:Option Addr) (c4:Nat),w4.ownsRow B1 45 4 (.slice o4 (pl.length+1) c4) (pl.length+1) (Jk pl++Qd (⟨nd,.slice qo nd.attrs.length qc,.slice ko nd.kids.length kc⟩:Pn))→(w2.alloc (.cells #[.string ⟨nd.name.toArray⟩,.slice qo nd.attrs.length qc,.string ⟨nd.text.toArray⟩,.slice ko nd.kids.length kc] 45)).grownBy w4 (Value.slice ao pl.length ac).ownBlock→((∃ g cap,Value.slice ao pl.length ac=.slice (some ⟨g,0,none⟩) pl.length cap∧Value.slice o4 (pl.length+1) c4=.slice (some ⟨g,0,none⟩) (pl.length+1) cap)∨((Value.slice o4 (pl.length+1) c4).ownBlock=some (w2.alloc (.cells #[.string ⟨nd.name.toArray⟩,.slice qo nd.attrs.length qc,.string ⟨nd.text.toArray⟩,.slice ko nd.kids.length kc] 45)).heap.size∧Jb [] (w2.alloc (.cells #[.string ⟨nd.name.toArray⟩,.slice qo nd.attrs.length qc,.string ⟨nd.text.toArray⟩,.slice ko nd.kids.length kc] 45)) w4))→Calls Tryz.prog 171 (#[.slice ko nd.kids.length kc,.slice o4 (pl.length+1) c4,.func (.func K) #[] caps]++#[]) w4 fun e w5=>e=.returned (.bool R2.2)∧I R2.1 w5∧w5.ownsRow B1 45 4 (.slice ao pl.length ac) pl.length (Jk pl)∧Jb (Je3 S (.slice ao pl.length ac)) w w5):=by
       intro w4 o4 c4 ho4 hg4 hc4;have hk4:Jb (Value.slice ao pl.length ac).ownBlock.toList w2 w4:=((Jb.refl _ w2).alloc _).grown hg4 (fun i e=>.inl (by simp [e]));have hk24:Jb (Je3 S (.slice ao pl.length ac)) w w4:=hkp2.trans (hk4.to (fun g hg=>List.mem_append_right _ hg));refine (hin.out w4 (L++Je3 S (.slice ao pl.length ac)) ((HKW.out.to (fun g hg=>List.mem_append_left _ hg)).trans (hk24.to (fun g hg=>List.mem_append_right _ hg))) (fun g hg hm=>(List.mem_append.1 hm).elim (HPL.out g hg) (hPc g hg)) (.slice o4 (pl.length+1) c4) (hst s2 w2 w4 _ (fun g hg=>(hrow2.lt g (by simpa using hg)).1) hI2 hk4) ho4 (Nat.le_trans hB2 hk4.size)).mono ?_;rintro e w5 ⟨rfl,hI5,hrow5,hk5⟩;rcases hc4 with ⟨g4,cap4,e1,e2⟩ | ⟨e1,hk34⟩
       ·rw [e1];rw [e2] at hrow5 hk5;rw [e1] at hk24;refine ⟨rfl,hI5,Jeu (Yq pl) hrow5,QN hk24 hk5 (fun g hg _=>?_)⟩;exact hg
       ·have hr4:=hk34.owns (hrow2.alloc (.cells #[.string ⟨nd.name.toArray⟩,.slice qo nd.attrs.length qc,.string ⟨nd.text.toArray⟩,.slice ko nd.kids.length kc] 45)) (fun _ _=>List.not_mem_nil);have hsz9:(w2.alloc (.cells #[.string ⟨nd.name.toArray⟩,.slice qo nd.attrs.length qc,.string ⟨nd.text.toArray⟩,.slice ko nd.kids.length kc] 45)).heap.size=w2.heap.size+1:=by simp
        rw [hsz9] at e1;refine ⟨rfl,hI5,hk5.owns hr4 (fun g hg hm=>?_),QN hk24 hk5 (fun g hg hlt=>?_)⟩
        ·rcases List.mem_append.1 hm with hm | hm
         ·have:=hSl g hm;have:=(hrow2.lt g hg).1;omega
         ·rw [e1] at hm;simp at hm;have:=(hrow2.lt g hg).2;omega
        ·rcases List.mem_append.1 hg with hg | hg
         ·exact List.mem_append_left _ hg
         ·rw [e1] at hg;simp at hg;have:=hkp2.size;omega
      refine wpAny_ready (rs:=[8,10]) (by kernel_rfl) (by simp) ?_;refine AllReady.cons rfl (fun K9 hK9=>?_) (AllReady.cons rfl (fun K9 hK9=>?_) AllReady.nil)
      ·refine Qt (v:=.slice ko nd.kids.length kc) (w':=w2) (Ji rfl rfl rfl rfl) (by go_simp) ?_;refine hK9 _ _ ?_;clear hK9 K9;simp only [List.getElem_toArray,List.getElem_cons_zero,List.getElem_cons_succ,Act.put,List.setIfInBounds_toArray,List.set];refine wpAny_ready (rs:=[10]) (by kernel_rfl) (by simp) ?_;refine AllReady.cons rfl (fun K9 hK9=>?_) AllReady.nil
       ·refine Qt (v:=.agg #[.string ⟨nd.name.toArray⟩,.slice qo nd.attrs.length qc,.string ⟨nd.text.toArray⟩,.slice ko nd.kids.length kc]) (w':=w2) (Ji rfl rfl rfl rfl) (by go_simp) ?_;refine hK9 _ _ ?_;clear hK9 K9;simp only [List.getElem_toArray,List.getElem_cons_zero,List.getElem_cons_succ,Act.put,List.setIfInBounds_toArray,List.set];refine wpAny_ready (rs:=[11]) (by kernel_rfl) (by simp) ?_;refine AllReady.cons rfl (fun K9 hK9=>?_) AllReady.nil
        ·refine Qt (v:=.slice (some ⟨w2.heap.size,0,none⟩) 1 1) (w':=w2.alloc (.cells #[.string ⟨nd.name.toArray⟩,.slice qo nd.attrs.length qc,.string ⟨nd.text.toArray⟩,.slice ko nd.kids.length kc] 45)) (Ji rfl rfl rfl rfl) (by go_simp) ?_;refine hK9 _ _ ?_;clear hK9 K9;simp only [List.getElem_toArray,List.getElem_cons_zero,List.getElem_cons_succ,Act.put,List.setIfInBounds_toArray,List.set];refine wpAny_ready (rs:=[12]) (by kernel_rfl) (by simp) ?_;refine AllReady.cons rfl (fun K9 hK9=>?_) AllReady.nil
         ·refine X8 (Ji rfl rfl rfl rfl) _ _ 29 rfl B1 45 i0 _ 4 80 Tryz.underlying29 hi hz0 hz1 hz2 (by kernel_rfl) (by decide) (.slice ao pl.length ac) pl.length (Jk pl) rfl (hrow2.alloc _) ⟨w2.heap.size,0,none⟩ 1 (Qd (⟨nd,.slice qo nd.attrs.length qc,.slice ko nd.kids.length kc⟩:Pn)) rfl rfl (J9 w2 _ 45) ZI (by unfold maxLen;omega) (by omega) (Nat.le_trans hB2 (by simp)) ?_;intro v4 w4 ho4 hg4 hc4;obtain ⟨o4,c4,hv4⟩:=Jg ho4;subst hv4;have hk4:Jb (Value.slice ao pl.length ac).ownBlock.toList w2 w4:=((Jb.refl _ w2).alloc _).grown hg4 (fun i e=>.inl (by simp [e]));have k3b:=JE hk4 (a:=⟨wr.heap.size,3,none⟩) (fun hm=>by have:=hrb _ (by simpa using hm);simp at this) k3;refine hK9 _ _ ?_;clear hK9 K9;simp only [List.getElem_toArray,List.getElem_cons_zero,List.getElem_cons_succ,Act.put,List.setIfInBounds_toArray,List.set];refine wpAny_ready (rs:=[14]) (by kernel_rfl) (by simp) ?_;refine AllReady.cons rfl (fun K9 hK9=>?_) AllReady.nil
          ·refine XC (Ji rfl rfl rfl rfl) (.func 171) _ _ rfl 171 #[] rfl X6 #[.slice ko nd.kids.length kc,.slice o4 (pl.length+1) c4,.func (.func K) #[] caps] (by simp [Act.eval]) (hdeep.out w4 _ _ ho4 hg4 hc4) ?_;rintro e w5 ⟨rfl,hI5,hrow5,hk5⟩;refine ⟨_,rfl,?_⟩;refine hK9 _ _ ?_;clear hK9 K9;simp only [List.getElem_toArray,List.getElem_cons_zero,List.getElem_cons_succ,Act.put,List.setIfInBounds_toArray,List.set];cases hb2:R2.2
           ·refine wpAny_take (i:=15) (v:=.bool true) rfl (by kernel_rfl) (by kernel_rfl) (by kernel_rfl) (fun _ _ _ h=>h) (Or.inl ⟨Ji rfl rfl rfl rfl,by intro w;go_simp⟩) ?_;simp only [List.getElem_toArray,List.getElem_cons_zero,List.getElem_cons_succ,Act.put,List.setIfInBounds_toArray,List.set];refine wpAny_take (i:=16) (v:=.bool true) rfl (by kernel_rfl) (by kernel_rfl) (by kernel_rfl) (fun _ _ _ h=>h) (Or.inl ⟨by rfl,by intro w;go_simp⟩) ?_;simp only [List.getElem_toArray,List.getElem_cons_zero,List.getElem_cons_succ,Act.put,List.setIfInBounds_toArray,List.set];refine wpAny_done (by kernel_rfl) ?_ _;go_wp2_with fail;go_ret;have h9:=HW.out;rw [if_neg (by rw [hb2];simp)] at h9;rw [←h9];exact ⟨rfl,hI5,hrow5,hk5⟩
           ·refine wpAny_take (i:=15) (v:=.bool false) rfl (by kernel_rfl) (by kernel_rfl) (by kernel_rfl) (fun _ _ _ h=>h) (Or.inl ⟨Ji rfl rfl rfl rfl,by intro w;go_simp⟩) ?_;simp only [List.getElem_toArray,List.getElem_cons_zero,List.getElem_cons_succ,Act.put,List.setIfInBounds_toArray,List.set];refine wpAny_take (i:=16) (v:=.bool false) rfl (by kernel_rfl) (by kernel_rfl) (by kernel_rfl) (fun _ _ _ h=>h) (Or.inl ⟨by rfl,by intro w;go_simp⟩) ?_;simp only [List.getElem_toArray,List.getElem_cons_zero,List.getElem_cons_succ,Act.put,List.setIfInBounds_toArray,List.set];refine wpAny_done (by kernel_rfl) ?_ _;go_wp2_with fail;go_roundw
            case rel=>exact ⟨k+1,R2.1,by omega,by go_num,hI5,hrow5,hk5,by have h9:=HW.out;rw [if_pos hb2] at h9;exact h9⟩
            case measure=>simp [intOf];omega
      ·refine Qt (v:=.agg #[.string ⟨nd.name.toArray⟩,.slice qo nd.attrs.length qc,.string ⟨nd.text.toArray⟩,.slice ko nd.kids.length kc]) (w':=w2) (Ji rfl rfl rfl rfl) (by go_simp) ?_;refine hK9 _ _ ?_;clear hK9 K9;simp only [List.getElem_toArray,List.getElem_cons_zero,List.getElem_cons_succ,Act.put,List.setIfInBounds_toArray,List.set];refine wpAny_ready (rs:=[8,11]) (by kernel_rfl) (by simp) ?_;refine AllReady.cons rfl (fun K9 hK9=>?_) (AllReady.cons rfl (fun K9 hK9=>?_) AllReady.nil)
       ·refine Qt (v:=.slice ko nd.kids.length kc) (w':=w2) (Ji rfl rfl rfl rfl) (by go_simp) ?_;refine hK9 _ _ ?_;clear hK9 K9;simp only [List.getElem_toArray,List.getElem_cons_zero,List.getElem_cons_succ,Act.put,List.setIfInBounds_toArray,List.set];refine wpAny_ready (rs:=[11]) (by kernel_rfl) (by simp) ?_;refine AllReady.cons rfl (fun K9 hK9=>?_) AllReady.nil
        ·refine Qt (v:=.slice (some ⟨w2.heap.size,0,none⟩) 1 1) (w':=w2.alloc (.cells #[.string ⟨nd.name.toArray⟩,.slice qo nd.attrs.length qc,.string ⟨nd.text.toArray⟩,.slice ko nd.kids.length kc] 45)) (Ji rfl rfl rfl rfl) (by go_simp) ?_;refine hK9 _ _ ?_;clear hK9 K9;simp only [List.getElem_toArray,List.getElem_cons_zero,List.getElem_cons_succ,Act.put,List.setIfInBounds_toArray,List.set];refine wpAny_ready (rs:=[12]) (by kernel_rfl) (by simp) ?_;refine AllReady.cons rfl (fun K9 hK9=>?_) AllReady.nil
         ·refine X8 (Ji rfl rfl rfl rfl) _ _ 29 rfl B1 45 i0 _ 4 80 Tryz.underlying29 hi hz0 hz1 hz2 (by kernel_rfl) (by decide) (.slice ao pl.length ac) pl.length (Jk pl) rfl (hrow2.alloc _) ⟨w2.heap.size,0,none⟩ 1 (Qd (⟨nd,.slice qo nd.attrs.length qc,.slice ko nd.kids.length kc⟩:Pn)) rfl rfl (J9 w2 _ 45) ZI (by unfold maxLen;omega) (by omega) (Nat.le_trans hB2 (by simp)) ?_;intro v4 w4 ho4 hg4 hc4;obtain ⟨o4,c4,hv4⟩:=Jg ho4;subst hv4;have hk4:Jb (Value.slice ao pl.length ac).ownBlock.toList w2 w4:=((Jb.refl _ w2).alloc _).grown hg4 (fun i e=>.inl (by simp [e]));have k3b:=JE hk4 (a:=⟨wr.heap.size,3,none⟩) (fun hm=>by have:=hrb _ (by simpa using hm);simp at this) k3;refine hK9 _ _ ?_;clear hK9 K9;simp only [List.getElem_toArray,List.getElem_cons_zero,List.getElem_cons_succ,Act.put,List.setIfInBounds_toArray,List.set];refine wpAny_ready (rs:=[14]) (by kernel_rfl) (by simp) ?_;refine AllReady.cons rfl (fun K9 hK9=>?_) AllReady.nil
          ·refine XC (Ji rfl rfl rfl rfl) (.func 171) _ _ rfl 171 #[] rfl X6 #[.slice ko nd.kids.length kc,.slice o4 (pl.length+1) c4,.func (.func K) #[] caps] (by simp [Act.eval]) (hdeep.out w4 _ _ ho4 hg4 hc4) ?_;rintro e w5 ⟨rfl,hI5,hrow5,hk5⟩;refine ⟨_,rfl,?_⟩;refine hK9 _ _ ?_;clear hK9 K9;simp only [List.getElem_toArray,List.getElem_cons_zero,List.getElem_cons_succ,Act.put,List.setIfInBounds_toArray,List.set];cases hb2:R2.2
           ·refine wpAny_take (i:=15) (v:=.bool true) rfl (by kernel_rfl) (by kernel_rfl) (by kernel_rfl) (fun _ _ _ h=>h) (Or.inl ⟨Ji rfl rfl rfl rfl,by intro w;go_simp⟩) ?_;simp only [List.getElem_toArray,List.getElem_cons_zero,List.getElem_cons_succ,Act.put,List.setIfInBounds_toArray,List.set];refine wpAny_take (i:=16) (v:=.bool true) rfl (by kernel_rfl) (by kernel_rfl) (by kernel_rfl) (fun _ _ _ h=>h) (Or.inl ⟨by rfl,by intro w;go_simp⟩) ?_;simp only [List.getElem_toArray,List.getElem_cons_zero,List.getElem_cons_succ,Act.put,List.setIfInBounds_toArray,List.set];refine wpAny_done (by kernel_rfl) ?_ _;go_wp2_with fail;go_ret;have h9:=HW.out;rw [if_neg (by rw [hb2];simp)] at h9;rw [←h9];exact ⟨rfl,hI5,hrow5,hk5⟩
           ·refine wpAny_take (i:=15) (v:=.bool false) rfl (by kernel_rfl) (by kernel_rfl) (by kernel_rfl) (fun _ _ _ h=>h) (Or.inl ⟨Ji rfl rfl rfl rfl,by intro w;go_simp⟩) ?_;simp only [List.getElem_toArray,List.getElem_cons_zero,List.getElem_cons_succ,Act.put,List.setIfInBounds_toArray,List.set];refine wpAny_take (i:=16) (v:=.bool false) rfl (by kernel_rfl) (by kernel_rfl) (by kernel_rfl) (fun _ _ _ h=>h) (Or.inl ⟨by rfl,by intro w;go_simp⟩) ?_;simp only [List.getElem_toArray,List.getElem_cons_zero,List.getElem_cons_succ,Act.put,List.setIfInBounds_toArray,List.set];refine wpAny_done (by kernel_rfl) ?_ _;go_wp2_with fail;go_roundw
            case rel=>exact ⟨k+1,R2.1,by omega,by go_num,hI5,hrow5,hk5,by have h9:=HW.out;rw [if_pos hb2] at h9;exact h9⟩
            case measure=>simp [intOf];omega
       ·refine Qt (v:=.slice (some ⟨w2.heap.size,0,none⟩) 1 1) (w':=w2.alloc (.cells #[.string ⟨nd.name.toArray⟩,.slice qo nd.attrs.length qc,.string ⟨nd.text.toArray⟩,.slice ko nd.kids.length kc] 45)) (Ji rfl rfl rfl rfl) (by go_simp) ?_;refine hK9 _ _ ?_;clear hK9 K9;simp only [List.getElem_toArray,List.getElem_cons_zero,List.getElem_cons_succ,Act.put,List.setIfInBounds_toArray,List.set];refine wpAny_ready (rs:=[8,12]) (by kernel_rfl) (by simp) ?_;refine AllReady.cons rfl (fun K9 hK9=>?_) (AllReady.cons rfl (fun K9 hK9=>?_) AllReady.nil)
        ·refine Qt (v:=.slice ko nd.kids.length kc) (w':=w2.alloc (.cells #[.string ⟨nd.name.toArray⟩,.slice qo nd.attrs.length qc,.string ⟨nd.text.toArray⟩,.slice ko nd.kids.length kc] 45)) (Ji rfl rfl rfl rfl) (by go_simp) ?_;refine hK9 _ _ ?_;clear hK9 K9;simp only [List.getElem_toArray,List.getElem_cons_zero,List.getElem_cons_succ,Act.put,List.setIfInBounds_toArray,List.set];refine wpAny_ready (rs:=[12]) (by kernel_rfl) (by simp) ?_;refine AllReady.cons rfl (fun K9 hK9=>?_) AllReady.nil
         ·refine X8 (Ji rfl rfl rfl rfl) _ _ 29 rfl B1 45 i0 _ 4 80 Tryz.underlying29 hi hz0 hz1 hz2 (by kernel_rfl) (by decide) (.slice ao pl.length ac) pl.length (Jk pl) rfl (hrow2.alloc _) ⟨w2.heap.size,0,none⟩ 1 (Qd (⟨nd,.slice qo nd.attrs.length qc,.slice ko nd.kids.length kc⟩:Pn)) rfl rfl (J9 w2 _ 45) ZI (by unfold maxLen;omega) (by omega) (Nat.le_trans hB2 (by simp)) ?_;intro v4 w4 ho4 hg4 hc4;obtain ⟨o4,c4,hv4⟩:=Jg ho4;subst hv4;have hk4:Jb (Value.slice ao pl.length ac).ownBlock.toList w2 w4:=((Jb.refl _ w2).alloc _).grown hg4 (fun i e=>.inl (by simp [e]));have k3b:=JE hk4 (a:=⟨wr.heap.size,3,none⟩) (fun hm=>by have:=hrb _ (by simpa using hm);simp at this) k3;refine hK9 _ _ ?_;clear hK9 K9;simp only [List.getElem_toArray,List.getElem_cons_zero,List.getElem_cons_succ,Act.put,List.setIfInBounds_toArray,List.set];refine wpAny_ready (rs:=[14]) (by kernel_rfl) (by simp) ?_;refine AllReady.cons rfl (fun K9 hK9=>?_) AllReady.nil
          ·refine XC (Ji rfl rfl rfl rfl) (.func 171) _ _ rfl 171 #[] rfl X6 #[.slice ko nd.kids.length kc,.slice o4 (pl.length+1) c4,.func (.func K) #[] caps] (by simp [Act.eval]) (hdeep.out w4 _ _ ho4 hg4 hc4) ?_;rintro e w5 ⟨rfl,hI5,hrow5,hk5⟩;refine ⟨_,rfl,?_⟩;refine hK9 _ _ ?_;clear hK9 K9;simp only [List.getElem_toArray,List.getElem_cons_zero,List.getElem_cons_succ,Act.put,List.setIfInBounds_toArray,List.set];cases hb2:R2.2
           ·refine wpAny_take (i:=15) (v:=.bool true) rfl (by kernel_rfl) (by kernel_rfl) (by kernel_rfl) (fun _ _ _ h=>h) (Or.inl ⟨Ji rfl rfl rfl rfl,by intro w;go_simp⟩) ?_;simp only [List.getElem_toArray,List.getElem_cons_zero,List.getElem_cons_succ,Act.put,List.setIfInBounds_toArray,List.set];refine wpAny_take (i:=16) (v:=.bool true) rfl (by kernel_rfl) (by kernel_rfl) (by kernel_rfl) (fun _ _ _ h=>h) (Or.inl ⟨by rfl,by intro w;go_simp⟩) ?_;simp only [List.getElem_toArray,List.getElem_cons_zero,List.getElem_cons_succ,Act.put,List.setIfInBounds_toArray,List.set];refine wpAny_done (by kernel_rfl) ?_ _;go_wp2_with fail;go_ret;have h9:=HW.out;rw [if_neg (by rw [hb2];simp)] at h9;rw [←h9];exact ⟨rfl,hI5,hrow5,hk5⟩
           ·refine wpAny_take (i:=15) (v:=.bool false) rfl (by kernel_rfl) (by kernel_rfl) (by kernel_rfl) (fun _ _ _ h=>h) (Or.inl ⟨Ji rfl rfl rfl rfl,by intro w;go_simp⟩) ?_;simp only [List.getElem_toArray,List.getElem_cons_zero,List.getElem_cons_succ,Act.put,List.setIfInBounds_toArray,List.set];refine wpAny_take (i:=16) (v:=.bool false) rfl (by kernel_rfl) (by kernel_rfl) (by kernel_rfl) (fun _ _ _ h=>h) (Or.inl ⟨by rfl,by intro w;go_simp⟩) ?_;simp only [List.getElem_toArray,List.getElem_cons_zero,List.getElem_cons_succ,Act.put,List.setIfInBounds_toArray,List.set];refine wpAny_done (by kernel_rfl) ?_ _;go_wp2_with fail;go_roundw
            case rel=>exact ⟨k+1,R2.1,by omega,by go_num,hI5,hrow5,hk5,by have h9:=HW.out;rw [if_pos hb2] at h9;exact h9⟩
            case measure=>simp [intOf];omega
        ·refine X8 (Ji rfl rfl rfl rfl) _ _ 29 rfl B1 45 i0 _ 4 80 Tryz.underlying29 hi hz0 hz1 hz2 (by kernel_rfl) (by decide) (.slice ao pl.length ac) pl.length (Jk pl) rfl (hrow2.alloc _) ⟨w2.heap.size,0,none⟩ 1 (Qd (⟨nd,.slice qo nd.attrs.length qc,.slice ko nd.kids.length kc⟩:Pn)) rfl rfl (J9 w2 _ 45) ZI (by unfold maxLen;omega) (by omega) (Nat.le_trans hB2 (by simp)) ?_;intro v4 w4 ho4 hg4 hc4;obtain ⟨o4,c4,hv4⟩:=Jg ho4;subst hv4;have hk4:Jb (Value.slice ao pl.length ac).ownBlock.toList w2 w4:=((Jb.refl _ w2).alloc _).grown hg4 (fun i e=>.inl (by simp [e]));have k3b:=JE hk4 (a:=⟨wr.heap.size,3,none⟩) (fun hm=>by have:=hrb _ (by simpa using hm);simp at this) k3;refine hK9 _ _ ?_;clear hK9 K9;simp only [List.getElem_toArray,List.getElem_cons_zero,List.getElem_cons_succ,Act.put,List.setIfInBounds_toArray,List.set];refine wpAny_ready (rs:=[8]) (by kernel_rfl) (by simp) ?_;refine AllReady.cons rfl (fun K9 hK9=>?_) AllReady.nil
         ·refine Qt (v:=.slice ko nd.kids.length kc) (w':=w4) (Ji rfl rfl rfl rfl) (by go_simp) ?_;refine hK9 _ _ ?_;clear hK9 K9;simp only [List.getElem_toArray,List.getElem_cons_zero,List.getElem_cons_succ,Act.put,List.setIfInBounds_toArray,List.set];refine wpAny_ready (rs:=[14]) (by kernel_rfl) (by simp) ?_;refine AllReady.cons rfl (fun K9 hK9=>?_) AllReady.nil
          ·refine XC (Ji rfl rfl rfl rfl) (.func 171) _ _ rfl 171 #[] rfl X6 #[.slice ko nd.kids.length kc,.slice o4 (pl.length+1) c4,.func (.func K) #[] caps] (by simp [Act.eval]) (hdeep.out w4 _ _ ho4 hg4 hc4) ?_;rintro e w5 ⟨rfl,hI5,hrow5,hk5⟩;refine ⟨_,rfl,?_⟩;refine hK9 _ _ ?_;clear hK9 K9;simp only [List.getElem_toArray,List.getElem_cons_zero,List.getElem_cons_succ,Act.put,List.setIfInBounds_toArray,List.set];cases hb2:R2.2
           ·refine wpAny_take (i:=15) (v:=.bool true) rfl (by kernel_rfl) (by kernel_rfl) (by kernel_rfl) (fun _ _ _ h=>h) (Or.inl ⟨Ji rfl rfl rfl rfl,by intro w;go_simp⟩) ?_;simp only [List.getElem_toArray,List.getElem_cons_zero,List.getElem_cons_succ,Act.put,List.setIfInBounds_toArray,List.set];refine wpAny_take (i:=16) (v:=.bool true) rfl (by kernel_rfl) (by kernel_rfl) (by kernel_rfl) (fun _ _ _ h=>h) (Or.inl ⟨by rfl,by intro w;go_simp⟩) ?_;simp only [List.getElem_toArray,List.getElem_cons_zero,List.getElem_cons_succ,Act.put,List.setIfInBounds_toArray,List.set];refine wpAny_done (by kernel_rfl) ?_ _;go_wp2_with fail;go_ret;have h9:=HW.out;rw [if_neg (by rw [hb2];simp)] at h9;rw [←h9];exact ⟨rfl,hI5,hrow5,hk5⟩
           ·refine wpAny_take (i:=15) (v:=.bool false) rfl (by kernel_rfl) (by kernel_rfl) (by kernel_rfl) (fun _ _ _ h=>h) (Or.inl ⟨Ji rfl rfl rfl rfl,by intro w;go_simp⟩) ?_;simp only [List.getElem_toArray,List.getElem_cons_zero,List.getElem_cons_succ,Act.put,List.setIfInBounds_toArray,List.set];refine wpAny_take (i:=16) (v:=.bool false) rfl (by kernel_rfl) (by kernel_rfl) (by kernel_rfl) (fun _ _ _ h=>h) (Or.inl ⟨by rfl,by intro w;go_simp⟩) ?_;simp only [List.getElem_toArray,List.getElem_cons_zero,List.getElem_cons_succ,Act.put,List.setIfInBounds_toArray,List.set];refine wpAny_done (by kernel_rfl) ?_ _;go_wp2_with fail;go_roundw
            case rel=>exact ⟨k+1,R2.1,by omega,by go_num,hI5,hrow5,hk5,by have h9:=HW.out;rw [if_pos hb2] at h9;exact h9⟩
            case measure=>simp [intOf];omega
    ·have hRe:R=(s',true):=by
      have:=hW.out;rw [List.drop_eq_nil_of_le (by rw [←Hll.out];omega),QL] at this;exact this.symm
     subst hRe;go_wp2_with fail;go_ret;exact ⟨rfl,hI'.out,hrow'.out,hkr.out⟩
theorem JjT {σ:Type} {K:Nat} {caps:Array Value} {f:σ→List Nd→Nat→List Nd→σ × Bool} {I:σ→World→Prop} {S:List Nat} {B1:Nat} {P:Nat→Prop} {F:List Nd→Prop} (V:Vis K caps f I S B1 P F)
  (w:World) (v:Value) (ns:List Nd) (h:Ns w P v ns) (s:σ) (hI:I s w) (hB:B1≤w.heap.size) (hsz:JD ns≤2000000) (hF:F ns):
  Calls Tryz.prog 87 #[v,.func (.func K) #[] caps] w fun e w'=>e=.returned (.bool (QL f ns ns 0 [] s).2)∧I (QL f ns ns 0 [] s).1 w'∧Jb S w w':=by
 have hc:=Ja (Jsn V w v ns h w [] (Jb.refl _ _) (fun _ _=>List.not_mem_nil) s (.slice none 0 0) [] hI (World.ownsRow_nil _ _ _ _) hB (by simpa using hsz) hF);simp only [List.map_nil] at hc;generalize QL f ns ns 0 [] s=R at *;obtain ⟨o,c,hv⟩:=h.form;subst hv;clear h;go_enter Tryz.func87,Tryz.ntmps87;go_wp2_with fail;refine hc.out.mono ?_;rintro e w1 ⟨rfl,h1,_,h2⟩;go_wp2_with fail;go_ret;exact ⟨rfl,h1,h2.mono (fun g hg _=>by simpa [Je3,Value.ownBlock] using hg)⟩
def ZS (w:World) (c:Nat) (t:TypeId) (s:Int):Prop:=w.heap[c]?=some (.cells #[.int .i64 s] t (0,0))
theorem ZS.keeps {S:List Nat} {w w':World} {c:Nat} {t:TypeId} {s:Int} (h:ZS w c t s) (hk:Jb S w w') (hc:c∉S):ZS w' c t s:=by
 unfold ZS at *;rw [hk.block c (lt_of_block h) hc];exact h
theorem ZS.set {w:World} {c:Nat} {t:TypeId} {s:Int} (h:ZS w c t s) (u:Int):ZS (w.setCell ⟨c,0,none⟩ (.int .i64 u)) c t u:=by
 unfold ZS at *;simp [World.setCell,Array.getElem?_modify,h]
def JaR (s:Int) (b:List Nd) (i:Nat) (ar:List Nd):Int × Bool:=
 (wrap64 (s+1),decide (wrap64 (s+1)≤3000)&&((b[i]?.map Nd.name==some []) || decide (ar.length<8)))
set_option maxRecDepth 4000 in
theorem Jph (P:Nat→Prop) (B1 c:Nat) (s:Int) (w:World) (v:Value) (ns:List Nd) (i:Nat) (av:Value) (pl:List Pn) (hI:ZS w c 3 s) (hN:Ns w P v ns) (hi:i<ns.length) (hrow:w.ownsRow B1 45 4 av pl.length (Jk pl)) (hpl:pl.length≤2000000) (hc: ∀ g,P g→g≠c):
  Calls Tryz.prog 251 #[v,.int .i64 i,av,.pointer (some ⟨c,0,none⟩)] w fun e w'=>e=.returned (.bool (JaR s ns i (pl.map Pn.nd)).2)∧ZS w' c 3 (JaR s ns i (pl.map Pn.nd)).1∧Jb [c] w w':=by
 unfold JaR;simp only;cases hN with
 | mk _ l _ hns hl ha hk=>
 obtain ⟨o,c',rfl,h1,h2⟩:=hl.lies.form;obtain ⟨ao,ac,hav⟩:=Jg hrow;subst hav;subst hns;rw [List.length_map] at hi;have hd0:w.cell? ⟨c,0,none⟩=some (.int .i64 s):=Jd hI 0;have hd1:w.frozen? ⟨c,0,none⟩=false:=Jn hI 0;rcases hl.2 with ⟨h0,_⟩ | ⟨g,x,c9,e9,_,_,_,hPg,hcl⟩
 ·omega
 simp only [Value.slice.injEq] at e9;obtain ⟨rfl,_,rfl⟩:=e9;obtain ⟨a0,_,_,_⟩:=YJ hcl i hi;have hgc:g≠c:=hc g hPg;have a0s: ∀ u,(w.setCell ⟨c,0,none⟩ u).cell? ⟨g,x+i * 4,none⟩=some (.string ⟨l[i].nd.name.toArray⟩):=fun u=>
  JE ((Jb.refl [c] w).setCell (p:=⟨c,0,none⟩) (.inl (by simp)) u) (a:=⟨g,x+i * 4,none⟩) (by simpa using hgc) a0
 have hnm:((l.map Pn.nd)[i]?.map Nd.name==some [])=decide (l[i].nd.name=[]):=by
  rw [List.getElem?_map,List.getElem?_eq_getElem hi,Bool.eq_iff_iff];simp
 rw [hnm,List.length_map];have p0:=Jfc l[i].nd.name;have hst:=hI.set (wrap64 (s+1));have hks:Jb [c] w (w.setCell ⟨c,0,none⟩ (.int .i64 (wrap64 (s+1)))):=(Jb.refl [c] w).setCell (.inl (by simp)) _;clear hcl hnm hrow ha hk hl;obtain ⟨S1,hS1⟩: ∃ S1,wrap64 (s+1)=S1:=⟨_,rfl⟩;rw [hS1] at hst hks ⊢;generalize l[i].nd.name=nm at *;unfold maxLen at h2;have d2:(w.setCell ⟨c,0,none⟩ (.int .i64 S1)).cell? ⟨c,0,none⟩=some (.int .i64 S1):=Jd hst 0;by_cases q1:S1≤3000
 ·have q1b:decide (S1≤3000)=true:=by simpa using q1
  rw [q1b,Bool.true_and];by_cases q2:nm=[]
  ·have q2b:decide (nm=[])=true:=by simpa using q2
   rw [q2b];rw [Bool.true_or];subst q2;clear p0 q2b;go_enter Tryz.func251,Tryz.ntmps251;go_wp2_with fail;go_ret;exact ⟨rfl,hst,hks⟩
  ·have q2b:decide (nm=[])=false:=by simpa using q2
   rw [q2b];rw [Bool.false_or];have q2e:nm.isEmpty=false:=by cases nm<;>simp_all
   clear q2 p0 q2b;by_cases q3:pl.length<8
   ·have q3b:decide (pl.length<8)=true:=by simpa using q3
    have q3c:(pl.length:Int)<8:=by omega
    rw [q3b];go_enter Tryz.func251,Tryz.ntmps251;go_wp2_with fail;go_ret;exact ⟨rfl,hst,hks⟩
   ·have q3b:decide (pl.length<8)=false:=by simpa using q3
    have q3c: ¬ (pl.length:Int)<8:=by omega
    rw [q3b];go_enter Tryz.func251,Tryz.ntmps251;go_wp2_with fail;go_ret;exact ⟨rfl,hst,hks⟩
 ·have q1b:decide (S1≤3000)=false:=by simpa using q1
  rw [q1b,Bool.false_and];go_enter Tryz.func251,Tryz.ntmps251;go_wp2_with fail;go_ret;exact ⟨rfl,hst,hks⟩
theorem Jo5:Jy 251:=JC Tryz.func251 (by kernel_rfl) (by kernel_rfl)
theorem Ns.lt {w:World} {P:Nat→Prop} {v:Value} {ns:List Nd} (h:Ns w P v ns):Ns w (fun g=>g<w.heap.size) v ns:=h.mono (fun _ hg _=>hg)
theorem Jrj (c B1:Nat) (h:c<B1):Vis 251 #[.pointer (some ⟨c,0,none⟩)] JaR (fun s w=>ZS w c 3 s) [c] B1 (fun g=>g<c) (fun _=>True) where
 call s w v ns i av pl hI hN _ hi hrow hpl _:=Jph _ B1 c s w v ns i av pl hI hN hi hrow hpl (fun g hg=>by omega)
 stable s w w' L hL hI hk:=hI.keeps hk (fun hm=>by have:=hL c hm;omega)
 down _ _ _ _:=trivial
 low g hg:=by simp at hg;omega
 enters:=Jo5
 part g hg:=⟨by omega,by simp;omega⟩
theorem Jri (w:World) (P:Nat→Prop) (v:Value) (ns:List Nd) (h:Ns w P v ns) (hsz:JD ns≤2000000):
  Calls Tryz.prog 181 #[v] w fun e w'=>e=.returned (.bool (QL JaR ns ns 0 [] 0).2)∧Jb [] w w':=by
 have hka:Jb [] w (w.alloc (.cells #[.int .i64 0] 3)):=(Jb.refl [] w).alloc _;have hc:=Ja (JjT (Jrj w.heap.size (w.heap.size+1) (by omega)) (w.alloc (.cells #[.int .i64 0] 3)) v ns (h.lt.keeps0 hka) 0 (heap_alloc_new w _) (by simp) hsz trivial);generalize QL JaR ns ns 0 [] 0=R at *;obtain ⟨o,c,hv⟩:=h.form;subst hv;clear h;go_enter Tryz.func181,Tryz.ntmps181;go_wp2_with fail;refine hc.out.mono ?_;rintro e w1 ⟨rfl,_,h2⟩;go_wp2_with fail;go_ret;refine ⟨rfl,?_⟩;have h3:=QN hka h2 (fun g hg hlt=>by simp at hg;omega);exact h3
def Q1 (tx:List UInt8) (at':List Jw) (ks:List Nd) (prev:Bool):Int:=if tx.isEmpty=true∨0<at'.length∨0<ks.length then 1 else if prev=true then 4 else 0
def Zx (b:List Nd) (i:Nat):Bool:=decide (0<i)&&(b[i - 1]?.map Nd.name==some [])
def JcM (b:List Nd) (i:Nat):Int:=
 match b[i]? with
 | none=>0
 | some n=>Q1 n.text n.attrs n.kids (Zx b i)
set_option maxRecDepth 4000 in
theorem Jjr (w:World) (P:Nat→Prop) (v:Value) (ns:List Nd) (i:Nat) (hN:Ns w P v ns) (hi:i<ns.length):
  Calls Tryz.prog 183 #[v,.int .i64 i] w fun e w'=>e=.returned (.int .i64 (JcM ns i))∧Jb [] w w':=by
 cases hN with
 | mk _ l _ hns hl ha hk=>
 obtain ⟨o,c',rfl,h1,h2⟩:=hl.lies.form;subst hns;rw [List.length_map] at hi;obtain ⟨g,x,rfl,hcl⟩:=hl.lies.addr (by omega);obtain ⟨a0,a1,a2,a3⟩:=YJ hcl i hi;have hprev:0<i→ ∃ pn:List UInt8,w.cell? ⟨g,x+(i - 1) * 4,none⟩=some (.string ⟨pn.toArray⟩)∧Zx (l.map Pn.nd) i=pn.isEmpty:=fun h0=>by
  refine ⟨l[i - 1].nd.name,(YJ hcl (i - 1) (by omega)).1,?_⟩;unfold Zx;rw [List.getElem?_map,List.getElem?_eq_getElem (by omega)];cases hq:l[i - 1].nd.name<;>simp [h0,hq]
 have hno:i=0→Zx (l.map Pn.nd) i=false:=fun h0=>by simp [Zx,h0]
 have hc0:JcM (l.map Pn.nd) i=Q1 l[i].nd.text l[i].nd.attrs l[i].nd.kids (Zx (l.map Pn.nd) i):=by
  unfold JcM;rw [List.getElem?_map,List.getElem?_eq_getElem hi];rfl
 rw [hc0];obtain ⟨oa,ca,hav⟩:=(ha l[i] (List.getElem_mem hi)).form;obtain ⟨ok,ck,hkv⟩:=(hk l[i] (List.getElem_mem hi)).form;rw [hav] at a1;rw [hkv] at a3;clear hcl hav hkv ha hk hl hc0;generalize Zx (l.map Pn.nd) i=pb at *;generalize l[i].nd=nd at *;generalize nd.attrs=at' at *;generalize nd.text=tx at *;generalize nd.kids=ks at *;generalize nd.name=nm at *;have hka:Jb [] w (w.alloc (.cells #[.string ⟨nm.toArray⟩,.slice oa at'.length ca,.string ⟨tx.toArray⟩,.slice ok ks.length ck] 45)):=(Jb.refl [] w).alloc _;unfold maxLen at h2;cases t0:tx.isEmpty
 ·by_cases t1:0<at'.length
  ·have e1:Q1 tx at' ks pb=1:=by simp only [Q1,t1,true_or,or_true,if_true]
   rw [e1];clear hprev hno e1;go_enter Tryz.func183,Tryz.ntmps183;go_wp2_with fail;go_ret;exact ⟨rfl,hka⟩
  ·by_cases t2:0<ks.length
   ·have e1:Q1 tx at' ks pb=1:=by simp only [Q1,t2,or_true,if_true]
    rw [e1];clear hprev hno e1;go_enter Tryz.func183,Tryz.ntmps183;go_wp2_with fail;go_ret;exact ⟨rfl,hka⟩
   ·have e1:Q1 tx at' ks pb=if pb=true then 4 else 0:=by simp only [Q1,t0,t1,t2,or_self,if_false,Bool.false_eq_true]
    rw [e1];clear e1;by_cases i0:0<i
    ·obtain ⟨pn,p9,hp9⟩:=hprev i0;have p9a: ∀ o',(w.alloc o').cell? ⟨g,x+(i - 1) * 4,none⟩=some (.string ⟨pn.toArray⟩):=fun o'=>Jc ((Jb.refl [] w).alloc o') p9;have i1:((i:Int) - 1)=((i - 1:Nat):Int):=by omega
     have ib:i≤9223372036854775807:=by omega
     rw [hp9];clear hprev hno hp9;cases q:pn.isEmpty
     ·rw [if_neg (by simp)];go_enter Tryz.func183,Tryz.ntmps183;go_wp2_with fail;go_ret;exact ⟨rfl,hka⟩
     ·rw [if_pos rfl];go_enter Tryz.func183,Tryz.ntmps183;go_wp2_with fail;go_ret;exact ⟨rfl,hka⟩
    ·have hi0:i=0:=by omega
     rw [hno hi0,if_neg (by simp)];clear hprev hno hi0;go_enter Tryz.func183,Tryz.ntmps183;go_wp2_with fail;go_ret;exact ⟨rfl,hka⟩
 ·have e1:Q1 tx at' ks pb=1:=by simp only [Q1,t0,true_or,if_true]
  rw [e1];clear hprev hno e1;go_enter Tryz.func183,Tryz.ntmps183;go_wp2_with fail;go_ret;exact ⟨rfl,hka⟩
theorem XJ.keeps {B b:Nat} {l:List UInt8} {w w':World} (h:XJ B b l w) (hk:Jb [] w w'):XJ B b l w':=by
 rcases h with ⟨hB,v,hb,ho,hne⟩ | ⟨hB,v,hb,ho,hne⟩
 ·exact .inl ⟨hB,v,by rw [hk.block b (lt_of_block hb) List.not_mem_nil];exact hb,hk.owns ho (fun _ _=>List.not_mem_nil),hne⟩
 ·exact .inr ⟨hB,v,by rw [hk.block b (lt_of_block hb) List.not_mem_nil];exact hb,hk.owns ho (fun _ _=>List.not_mem_nil),hne⟩
def Yu (p:Jw):List UInt8:=[32]++p.1++[61,34]++J0 p.2++[34]
def J3 (l:List Jw):List UInt8:=l.flatMap Yu
def Jbz (t:Tok):List UInt8:=[60]++t.name++J3 t.attrs++[62]
def XS (t:Tok):List UInt8:=if t.kind=1 then J0 t.text else if t.kind=2 then Jbz t else [60,47]++t.name++[62]
def Qn (l:List Tok):List UInt8:=l.flatMap XS
theorem Jgp (l:List Jw) (k:Nat) (hk:k<l.length):J3 (l.take (k+1))=J3 (l.take k)++Yu l[k]:=by
 rw [List.take_succ_eq_append_getElem hk];unfold J3;rw [List.flatMap_append];simp
theorem JjU (a x:List UInt8):((⟨a.toArray⟩:ByteArray)++⟨x.toArray⟩)=⟨(a++x).toArray⟩:=WideShapes.bytes_inj (by simp)
theorem Jh2 (l:List (Tok × Value)) (k:Nat) (hk:k<l.length):Qn ((l.take (k+1)).map (·.1))=Qn ((l.take k).map (·.1))++XS l[k].1:=by
 rw [List.take_succ_eq_append_getElem hk,List.map_append];unfold Qn;rw [List.flatMap_append];simp
theorem Jsx (w:World):XJ w.heap.size w.heap.size [] (w.alloc (.cells #[.pointer none,.slice none 0 0] 134)):=
 .inl ⟨Nat.le_refl _,.slice none 0 0,heap_alloc_new w _,World.ownsRow_nil _ _ _ _,by simp [Value.ownBlock]⟩
theorem Jks (w:World) (cs:Array Value) (t:TypeId) (n z:Nat) (hn:n≤maxLen) (hz:cs.size=n * z):Jh (w.alloc (.cells cs t)) (.slice (some ⟨w.heap.size,0,none⟩) n n) n z cs.toList:=
 ⟨by simpa using hz,.inr (.inl ⟨_,0,n,rfl,Nat.le_refl _,hn,fun j u hj=>by
   have:=J9 w cs t j u hj;rw [ZY] at this;rw [Nat.zero_add];exact this⟩)⟩
end Go.Proofs.YtlcljanibjdejaaGreat
