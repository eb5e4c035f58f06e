/- ShelfTells holds: the law returns true for every input, and each argument reads behind the call as it read before; no condition. A part of its proof. -/
import Derived.Test.YtlcljanibjdejaaGreatSt13
set_option maxHeartbeats 64000000
namespace Go.Proofs.YtlcljanibjdejaaGreat
open Go.RowKit Go.Maps
def goM (id:List UInt8):List (List UInt8)→Bool→List (List UInt8)
 | [],b=>if b=true then [] else [id]
 | x::r,b=>if x=id then goM id r b else if b=false∧JH id x=true then id::x::goM id r true else x::goM id r b
theorem Jeb (id:List UInt8): ∀ l:List (List UInt8),goM id l true=l.filter (fun y=> !(y==id))
 | []=>rfl
 | x::r=>by
   unfold goM;by_cases h:x=id
   ·simp [h,Jeb id r]
   ·simp [h,Jeb id r]
theorem JiR (id:List UInt8): ∀ l:List (List UInt8),id∉l→goM id l false=Jfp l id
 | [],_=>rfl
 | x::r,h=>by
   have h1:x≠id:=fun e=>h (by simp [e]);have h2:id∉r:=fun e=>h (by simp [e]);unfold goM;rw [if_neg h1];by_cases hl:JH id x=true
   ·rw [if_pos ⟨rfl,hl⟩,Jeb,List.filter_eq_self.2 (fun y hy=>by simp only [Bool.not_eq_true',beq_eq_false_iff_ne,ne_eq];rintro rfl;exact h2 hy)];have:=JaF hl;simp [Jfp,this]
   ·rw [if_neg (fun hh=>hl hh.2),JiR id r h2];have:JH x id=true:=by
     rcases JaG x id with h9 | h9 | h9
     ·exact absurd h9 h1
     ·exact h9
     ·exact absurd h9 hl
    simp [Jfp,this]
theorem Jrm {id:List UInt8} {l:List (List UInt8)} {read:Bool} (h:read=true→id∉l):goM id l (!read)=XE l id read:=by
 cases read
 ·exact Jeb id l
 ·have h9:=h rfl;unfold XE;rw [if_pos rfl,if_neg h9];exact JiR id l h9
theorem Jce (l:List (List UInt8)) (x:List UInt8):Jq (l++[x])=Jq l++[.string ⟨x.toArray⟩]:=by simp [Jq]
def Jgy (s:Sh) (id:List UInt8) (read:Bool):Int:=if YO id s.es<0 then 5 else if 40<(XE s.rd id read).length then 2 else 0
set_option maxRecDepth 8000 in
theorem Jnd (w:World) (ev rv:Value) (s:Sh) (id:List UInt8) (read:Bool) (he:Jh w ev s.es.length 5 (Je s.es)) (hr:Jh w rv s.rd.length 1 (Jq s.rd)) (h40:s.rd.length≤40) (hid:id.length≤maxLen) (hrl: ∀ x∈s.rd,x.length≤maxLen):
  Calls Tryz.prog 48 #[.agg #[ev,rv],.string ⟨id.toArray⟩,.bool read] w fun e w'=> ∃ ev' rv',e=.returned (.tuple #[.agg #[ev',rv'],.int .i64 (Jgy s id read)])∧(Jgy s id read=0→Jh w' ev' s.es.length 5 (Je s.es)∧Jh w' rv' (XE s.rd id read).length 1 (Jq (XE s.rd id read)))∧(∃ o1 n1 c1 o2 n2 c2,ev'=.slice o1 n1 c1∧rv'=.slice o2 n2 c2)∧Jb [] w w':=by
 obtain ⟨es,rd⟩:=s;simp only at he hr h40 hrl ⊢;obtain ⟨eo,ec,rfl,g1,g2⟩:=he.form;obtain ⟨ro,rc,rfl,g3,g4⟩:=hr.form;unfold maxLen at g2 g4;obtain ⟨C,hC⟩: ∃ C,Jgy ⟨es,rd⟩ id read=C:=⟨_,rfl⟩;rw [hC];unfold Jgy at hC;simp only at hC;obtain ⟨W,hW⟩: ∃ W,(w.alloc (.cells #[.slice eo es.length ec,.slice ro rd.length rc] 64)).alloc (.cells #[.slice none 0 0,.slice none 0 0] 64)=W:=⟨_,rfl⟩;have hkW:Jb [] w W:=by rw [←hW];exact ((Jb.refl [] w).alloc _).alloc _
 have hb0:W.heap[w.heap.size]?=some (.cells #[.slice eo es.length ec,.slice ro rd.length rc] 64 (0,0)):=by rw [←hW];exact Yi w _ _
 have hb1:W.heap[w.heap.size+1]?=some (.cells #[.slice none 0 0,.slice none 0 0] 64 (0,0)):=by rw [←hW];exact Yj w _ _
 have b0:W.cell? ⟨w.heap.size,0,none⟩=some (.slice eo es.length ec):=Jd hb0 0;have b1:W.cell? ⟨w.heap.size,1,none⟩=some (.slice ro rd.length rc):=Jd hb0 1;have HE0:=Ja he;have HR0:=Ja hr;have HR:=Ja (hr.keeps hkW);have HB1:=Ja hb1;have HKW:=Ja hkW;have HW:=Ja hW;have hea:=Ja (JaC id W _ es (he.keeps hkW));obtain ⟨i0,hi,hz0,hz1,hz2⟩:=info_parts Jcg;have htl:=Ja (fun k (hk:k<rd.length) w=>JeB id rd[k] hid (hrl _ (List.getElem_mem hk)) w);obtain ⟨ix,hix⟩: ∃ ix,YO id es=ix:=⟨_,rfl⟩;rw [hix] at hC hea;clear he hr hkW hb0 hb1 hW hix;by_cases hneg:ix<0
 ·have hd:(ix<0):=hneg;rw [if_pos hneg] at hC;have HC9:=Ja hC;clear hC;clear hneg;have hks:=Ja (Qx W (w.heap.size+1) (.slice none 0 0) (.slice none 0 0));have z0:=Jd HB1.out 0;have z1:=Jd HB1.out 1;have f0:=Jn HB1.out 0;have f1:=Jn HB1.out 1;simp at z0 z1;go_enter Tryz.func48,Tryz.ntmps48;go_upto_region 1 with fail;rw [HW.out];go_wp2_with fail;refine hea.out.mono ?_;rintro e w2 ⟨rfl,hw2⟩;cases hw2.symm;go_wp2_with fail;exact ⟨rfl,_,Q9 (P:=Tryz.prog) rfl _ _ (w.heap.size+1) 64 _ (0,0) _ rfl (QV _ _ HB1.out) Tryz.underlying64 rfl (by kernel_rfl),.slice none 0 0,.slice none 0 0,Eq.trans (b:=Ending.returned (.tuple #[.agg #[.slice none 0 0,.slice none 0 0],.int .i64 5])) rfl (congrArg (fun c=>Ending.returned (.tuple #[.agg #[.slice none 0 0,.slice none 0 0],.int .i64 c])) HC9.out),(fun h=>absurd (HC9.out.trans h) (by decide)),(by first | exact ⟨_,_,_,_,_,_,rfl,rfl⟩ | exact ⟨⟨_,_,_,rfl⟩,⟨_,_,_,rfl⟩⟩),JF HKW.out hks.out (fun g hg hlt=>by simp at hg;omega)⟩
 ·have hd:decide (ix<0)=false:=decide_eq_false hneg;rw [if_neg hneg] at hC;have hWl:w.heap.size+1<W.heap.size:=lt_of_block HB1.out;obtain ⟨R,hR⟩: ∃ R,goM id rd (!read)=R:=⟨_,rfl⟩;have HC:=Ja hC;have HRR:=Ja hR;clear hneg hC hR;go_enter Tryz.func48,Tryz.ntmps48;go_upto_region 1 with fail;rw [HW.out];go_wp2_with fail;refine hea.out.mono ?_;rintro e w2 ⟨rfl,hw2⟩;cases hw2.symm;go_wp2_with fail;go_loopw [8,9,10] (fun v b i wr=> ∃ (k:Nat) (bb:Bool) (acc:List (List UInt8)),k≤rd.length∧i=.int .i64 k∧b=.bool bb∧wr.ownsRow W.heap.size 9 1 v acc.length (Jq acc)∧Jb [] W wr∧acc.length≤k+1∧(bb=false→acc.length≤k)∧Hid (acc++goM id (rd.drop k) bb=R)∧Hid (read=true→id∉rd.take k)) (fun _ _ i _=>rd.length - (intOf i).toNat)
  case atStart=>exact ⟨0, !read,[],Nat.zero_le _,rfl,rfl,World.ownsRow_nil _ _ _ _,Jb.refl _ _,Nat.zero_le _,fun _=>Nat.le_refl _,Ja (by simpa using HRR.out),Ja (by simp)⟩
  case round=>
   obtain ⟨k,bb,acc,hk,rfl,rfl,hrow,hkr,hac,hac2,hG,hN⟩:=hrel;obtain ⟨vo,vc,rfl⟩:=Jg hrow;have x0:=Jc hkr b0;have x1:=Jc hkr b1;have HKR:=Ja hkr;have HROW:=Ja hrow;have szr:W.heap.size≤wr.heap.size:=hkr.size;clear hkr;by_cases hlt:k<rd.length
   ·obtain ⟨g,o0,rfl,hc⟩:=HR.out.addr (by omega);have q0W:=hc _ _ (ZO rd k hlt);have q0:=Jc HKR.out q0W;have b3:(0:Int)≤(k:Int):=by omega
    have b4:(k:Int)<(rd.length:Int):=by omega
    have hst:=hG.out;rw [List.drop_eq_getElem_cons hlt] at hst;unfold goM at hst;have hle:=Ja (htl.out k hlt);have hnx:Hid (rd[k]≠id→read=true→id∉rd.take (k+1)):=Ja (fun hx hr9 hm=>by
     rw [List.take_succ_eq_append_getElem hlt,List.mem_append] at hm;rcases hm with hm | hm
     ·exact hN.out hr9 hm
     ·exact hx (List.mem_singleton.1 hm).symm)
    have hmem:rd[k]∈rd:=List.getElem_mem hlt;have HQ:=Ja (fun w1 (hk:Jb [] W w1)=>Jc hk (q0W));clear hc htl hrow q0W;generalize rd[k]=x at *;by_cases hx:x=id
    ·subst hx;rw [if_pos rfl] at hst;have heb:(x==x)=true:=by simp
     have HS:=Ja hst;clear hst;cases read
     ·clear hmem;go_wp2_with fail;go_roundw
      case rel=>exact ⟨k+1,bb,acc,by omega,by go_num,rfl,HROW.out,HKR.out,by omega,fun h=>by have:=hac2 h;omega,HS,Ja (fun h=>by cases h)⟩
      case measure=>simp [intOf];omega
     ·have hm:XE rd x true=rd:=by unfold XE;rw [if_pos rfl,if_pos hmem]
      have hC:=HC.out;rw [hm,if_neg (by omega)] at hC;have HC9:=Ja hC;clear hC;have HM:=Ja hm;have hb1r:=(HKR.out.block _ (lt_of_block HB1.out) List.not_mem_nil).trans HB1.out;have z0:=Jd hb1r 0;have z1:=Jd hb1r 1;have f0:=Jn hb1r 0;have f1:=Jn hb1r 1;simp at z0 z1;have HB2:=Ja hb1r;have hks:=Ja (Qx wr (w.heap.size+1) (.slice eo es.length ec) (.slice (some ⟨g,o0,none⟩) rd.length rc));clear hmem hm hb1r;go_wp2_with fail;have hkk:=JF (HKW.out.trans HKR.out) hks.out (fun g hg hlt=>by simp at hg;omega);exact ⟨rfl,_,Q9 (P:=Tryz.prog) rfl _ _ (w.heap.size+1) 64 _ (0,0) _ rfl (QV _ _ HB2.out) Tryz.underlying64 rfl (by kernel_rfl),.slice eo es.length ec,.slice (some ⟨g,o0,none⟩) rd.length rc,Eq.trans (b:=Ending.returned (.tuple #[.agg #[.slice eo es.length ec,.slice (some ⟨g,o0,none⟩) rd.length rc],.int .i64 0])) rfl (congrArg (fun c=>Ending.returned (.tuple #[.agg #[.slice eo es.length ec,.slice (some ⟨g,o0,none⟩) rd.length rc],.int .i64 c])) HC9.out),(fun _=>⟨HE0.out.keeps hkk,by rw [HM.out];exact HR0.out.keeps hkk⟩),(by first | exact ⟨_,_,_,_,_,_,rfl,rfl⟩ | exact ⟨⟨_,_,_,rfl⟩,⟨_,_,_,rfl⟩⟩),hkk⟩
    ·rw [if_neg hx] at hst;have heb:(x==id)=false:=by simpa using hx
     have hN2:=Ja (hnx.out hx);clear hx hnx hmem;cases bb
     ·have hac3:=hac2 rfl;cases hl:JH id x
      ·simp only [hl] at hst hle;simp at hst;have HS:Hid (acc++[x]++goM id (rd.drop (k+1)) false=R):=Ja (by simpa using hst);clear hst hl;go_wp2_with fail;refine (hle.out _).mono ?_;rintro e w3 ⟨rfl,m,hw3⟩;have hk3:Jb [] wr w3:=by rw [hw3];exact (Jb.refl [] wr).drewN _
       have hrow3:=hk3.owns HROW.out (fun _ _=>List.not_mem_nil);have HK3:=Ja (HKR.out.trans hk3);have y0:=Jc hk3 x0;have y1:=Jc hk3 x1;have y2:=Jc hk3 q0;have sz3:W.heap.size≤w3.heap.size:=HK3.out.size;clear hk3 hw3 x0 x1 q0;go_wp2_with (at_builtin;refine Jl _ rfl _ _ 62 rfl W.heap.size 9 i0 _ 1 16 Tryz.underlying62 hi hz0 hz1 hz2 (by kernel_rfl) (by decide) (.slice vo (acc).length vc) (acc).length (Jq (acc)) rfl (hrow3.alloc _) ⟨w3.heap.size,0,none⟩ 1 1 [.string ⟨x.toArray⟩] rfl rfl ?c1 ?c2 ?c3 ?c4 ?c5 ?_)
       try (case c1=>exact JcO w3 x)
       case c2=>first | rfl | (intro u hu;simp at hu;subst hu;rfl)
       case c3=>(try simp only [List.length_append,List.length_singleton]);(try unfold maxLen);omega
       case c4=>(try simp only [List.length_append,List.length_singleton]);omega
       case c5=>first | exact Nat.le_trans sz3 (by simp) | omega
       intro v5 w5 ho5 hg5 hw5;obtain ⟨o5,c5,hv5⟩:=Jg ho5;subst hv5;have hk5:Jb (Value.slice vo (acc).length vc).ownBlock.toList w3 w5:=((Jb.refl _ w3).alloc _).grown hg5 (fun i e=>.inl (by simp [e]));have HK5:Hid (Jb [] W w5):=Ja ((HK3.out.up.trans hk5).mono (fun i hi hlt=>by have:=(hrow3.lt i (by simpa using hi)).1;omega));rw [←Jce] at ho5;have hll5:(acc).length+1=(acc++[x]).length:=by simp
       rw [hll5] at ho5
       try rw [hll5]
       have sz5:W.heap.size≤w5.heap.size:=HK5.out.size;have x05:=Jc HK5.out b0;have x15:=Jc HK5.out b1;clear hk5 hg5 hw5 hll5;have HO:=Ja ho5;clear ho5;go_wp2_with fail;go_roundw
       case rel=>exact ⟨k+1,false,acc++[x],by omega,by go_num,rfl,HO.out,HK5.out,by simp;omega,fun _=>by simp;omega,HS,hN2⟩
       case measure=>simp [intOf];omega
      ·simp only [hl] at hst hle;simp at hst;have HS:Hid (acc++[id]++[x]++goM id (rd.drop (k+1)) true=R):=Ja (by simpa using hst);clear hst hl;go_wp2_with fail;refine (hle.out _).mono ?_;rintro e w3 ⟨rfl,m,hw3⟩;have hk3:Jb [] wr w3:=by rw [hw3];exact (Jb.refl [] wr).drewN _
       have hrow3:=hk3.owns HROW.out (fun _ _=>List.not_mem_nil);have HK3:=Ja (HKR.out.trans hk3);have y0:=Jc hk3 x0;have y1:=Jc hk3 x1;have y2:=Jc hk3 q0;have sz3:W.heap.size≤w3.heap.size:=HK3.out.size;clear hk3 hw3 x0 x1 q0;go_wp2_with (at_builtin;refine Jl _ rfl _ _ 62 rfl W.heap.size 9 i0 _ 1 16 Tryz.underlying62 hi hz0 hz1 hz2 (by kernel_rfl) (by decide) (.slice vo (acc).length vc) (acc).length (Jq (acc)) rfl (hrow3.alloc _) ⟨w3.heap.size,0,none⟩ 1 1 [.string ⟨id.toArray⟩] rfl rfl ?c1 ?c2 ?c3 ?c4 ?c5 ?_)
       try (case c1=>exact JcO w3 id)
       case c2=>first | rfl | (intro u hu;simp at hu;subst hu;rfl)
       case c3=>(try simp only [List.length_append,List.length_singleton]);(try unfold maxLen);omega
       case c4=>(try simp only [List.length_append,List.length_singleton]);omega
       case c5=>first | exact Nat.le_trans sz3 (by simp) | omega
       intro v5 w5 ho5 hg5 hw5;obtain ⟨o5,c5,hv5⟩:=Jg ho5;subst hv5;have hk5:Jb (Value.slice vo (acc).length vc).ownBlock.toList w3 w5:=((Jb.refl _ w3).alloc _).grown hg5 (fun i e=>.inl (by simp [e]));have HK5:Hid (Jb [] W w5):=Ja ((HK3.out.up.trans hk5).mono (fun i hi hlt=>by have:=(hrow3.lt i (by simpa using hi)).1;omega));rw [←Jce] at ho5;have hll5:(acc).length+1=(acc++[id]).length:=by simp
       rw [hll5] at ho5
       try rw [hll5]
       have sz5:W.heap.size≤w5.heap.size:=HK5.out.size;have x05:=Jc HK5.out b0;have x15:=Jc HK5.out b1;clear hk5 hg5 hw5 hll5;obtain ⟨acc2,hacc2⟩: ∃ a,acc++[id]=a:=⟨_,rfl⟩;have hla2:acc2.length≤k+1:=by rw [←hacc2];simp;omega
       rw [hacc2] at ho5 HS
       try rw [hacc2]
       clear hacc2;have q5:=HQ.out w5 HK5.out;clear y0 y1 y2;go_wp2_with (at_builtin;refine Jl _ rfl _ _ 62 rfl W.heap.size 9 i0 _ 1 16 Tryz.underlying62 hi hz0 hz1 hz2 (by kernel_rfl) (by decide) (.slice o5 (acc2).length c5) (acc2).length (Jq (acc2)) rfl (ho5.alloc _) ⟨w5.heap.size,0,none⟩ 1 1 [.string ⟨x.toArray⟩] rfl rfl ?c1 ?c2 ?c3 ?c4 ?c5 ?_)
       try (case c1=>exact JcO w5 x)
       case c2=>first | rfl | (intro u hu;simp at hu;subst hu;rfl)
       case c3=>(try simp only [List.length_append,List.length_singleton]);(try unfold maxLen);omega
       case c4=>(try simp only [List.length_append,List.length_singleton]);omega
       case c5=>first | exact Nat.le_trans sz5 (by simp) | omega
       intro v6 w6 ho6 hg6 hw6;obtain ⟨o6,c6,hv6⟩:=Jg ho6;subst hv6;have hk6:Jb (Value.slice o5 (acc2).length c5).ownBlock.toList w5 w6:=((Jb.refl _ w5).alloc _).grown hg6 (fun i e=>.inl (by simp [e]));have HK6:Hid (Jb [] W w6):=Ja ((HK5.out.up.trans hk6).mono (fun i hi hlt=>by have:=(ho5.lt i (by simpa using hi)).1;omega));rw [←Jce] at ho6;have hll6:(acc2).length+1=(acc2++[x]).length:=by simp
       rw [hll6] at ho6
       try rw [hll6]
       have sz6:W.heap.size≤w6.heap.size:=HK6.out.size;have x06:=Jc HK6.out b0;have x16:=Jc HK6.out b1;clear hk6 hg6 hw6 hll6;have HO:=Ja ho6;clear ho6 ho5;go_wp2_with fail;go_roundw
       case rel=>exact ⟨k+1,true,acc2++[x],by omega,by go_num,rfl,HO.out,HK6.out,by simp;omega,(fun h=>by cases h),HS,hN2⟩
       case measure=>simp [intOf];omega
     ·simp at hst;have HS:Hid (acc++[x]++goM id (rd.drop (k+1)) true=R):=Ja (by simpa using hst);have hrow3:=HROW.out;clear hst;go_wp2_with (at_builtin;refine Jl _ rfl _ _ 62 rfl W.heap.size 9 i0 _ 1 16 Tryz.underlying62 hi hz0 hz1 hz2 (by kernel_rfl) (by decide) (.slice vo (acc).length vc) (acc).length (Jq (acc)) rfl (hrow3.alloc _) ⟨wr.heap.size,0,none⟩ 1 1 [.string ⟨x.toArray⟩] rfl rfl ?c1 ?c2 ?c3 ?c4 ?c5 ?_)
      try (case c1=>exact JcO wr x)
      case c2=>first | rfl | (intro u hu;simp at hu;subst hu;rfl)
      case c3=>(try simp only [List.length_append,List.length_singleton]);(try unfold maxLen);omega
      case c4=>(try simp only [List.length_append,List.length_singleton]);omega
      case c5=>first | exact Nat.le_trans szr (by simp) | omega
      intro v5 w5 ho5 hg5 hw5;obtain ⟨o5,c5,hv5⟩:=Jg ho5;subst hv5;have hk5:Jb (Value.slice vo (acc).length vc).ownBlock.toList wr w5:=((Jb.refl _ wr).alloc _).grown hg5 (fun i e=>.inl (by simp [e]));have HK5:Hid (Jb [] W w5):=Ja ((HKR.out.up.trans hk5).mono (fun i hi hlt=>by have:=(hrow3.lt i (by simpa using hi)).1;omega));rw [←Jce] at ho5;have hll5:(acc).length+1=(acc++[x]).length:=by simp
      rw [hll5] at ho5
      try rw [hll5]
      have sz5:W.heap.size≤w5.heap.size:=HK5.out.size;have x05:=Jc HK5.out b0;have x15:=Jc HK5.out b1;clear hk5 hg5 hw5 hll5;have HO:=Ja ho5;clear ho5;go_wp2_with fail;go_roundw
      case rel=>exact ⟨k+1,true,acc++[x],by omega,by go_num,rfl,HO.out,HK5.out,by simp;omega,(fun h=>by cases h),HS,hN2⟩
      case measure=>simp [intOf];omega
   ·have hke:rd.take k=rd:=List.take_of_length_le (by omega);have hkd:rd.drop k=[]:=List.drop_eq_nil_of_le (by omega);have hst:=hG.out;rw [hkd] at hst;have hn:=hN.out;rw [hke] at hn;have hmk:=Jrm hn;rw [HRR.out] at hmk;have hC:=HC.out;rw [←hmk] at hC;have HMK:=Ja hmk;unfold goM at hst;clear hke hkd hn hN hG htl hrow;cases bb
    ·have hac3:=hac2 rfl;simp at hst;have hrow3:=HROW.out;go_wp2_with (at_builtin;refine Jl _ rfl _ _ 62 rfl W.heap.size 9 i0 _ 1 16 Tryz.underlying62 hi hz0 hz1 hz2 (by kernel_rfl) (by decide) (.slice vo (acc).length vc) (acc).length (Jq (acc)) rfl (hrow3.alloc _) ⟨wr.heap.size,0,none⟩ 1 1 [.string ⟨id.toArray⟩] rfl rfl ?c1 ?c2 ?c3 ?c4 ?c5 ?_)
     try (case c1=>exact JcO wr id)
     case c2=>first | rfl | (intro u hu;simp at hu;subst hu;rfl)
     case c3=>(try simp only [List.length_append,List.length_singleton]);(try unfold maxLen);omega
     case c4=>(try simp only [List.length_append,List.length_singleton]);omega
     case c5=>first | exact Nat.le_trans szr (by simp) | omega
     intro v5 w5 ho5 hg5 hw5;obtain ⟨o5,c5,hv5⟩:=Jg ho5;subst hv5;have hk5:Jb (Value.slice vo (acc).length vc).ownBlock.toList wr w5:=((Jb.refl _ wr).alloc _).grown hg5 (fun i e=>.inl (by simp [e]));have HK5:Hid (Jb [] W w5):=Ja ((HKR.out.up.trans hk5).mono (fun i hi hlt=>by have:=(hrow3.lt i (by simpa using hi)).1;omega));rw [←Jce] at ho5;have hll5:(acc).length+1=(acc++[id]).length:=by simp
     rw [hll5] at ho5
     try rw [hll5]
     have sz5:W.heap.size≤w5.heap.size:=HK5.out.size;have x05:=Jc HK5.out b0;have x15:=Jc HK5.out b1;clear hk5 hg5 hw5 hll5;rw [hst] at ho5
     try rw [hst]
     have hRl:R.length≤41:=by rw [←hst];(try simp);omega
     have hb5:=(HK5.out.block _ (lt_of_block HB1.out) List.not_mem_nil).trans HB1.out;have z0:=Jd hb5 0;have z1:=Jd hb5 1;have f0:=Jn hb5 0;have f1:=Jn hb5 1;simp at z0 z1;have HB5:=Ja hb5;have HO:=Ja ho5;clear hb5 ho5 hst hmk;by_cases h40':40<R.length
     ·have hd40:decide ((40:Int)<(R.length:Int))=true:=by simp;omega
      rw [if_pos h40'] at hC;have HC9:=Ja hC;clear hC;have hks:=Ja (Qx w5 (w.heap.size+1) (.slice none 0 0) (.slice none 0 0));clear h40';go_wp2_with fail;exact ⟨rfl,_,Q9 (P:=Tryz.prog) rfl _ _ (w.heap.size+1) 64 _ (0,0) _ rfl (QV _ _ HB5.out) Tryz.underlying64 rfl (by kernel_rfl),.slice none 0 0,.slice none 0 0,Eq.trans (b:=Ending.returned (.tuple #[.agg #[.slice none 0 0,.slice none 0 0],.int .i64 2])) rfl (congrArg (fun c=>Ending.returned (.tuple #[.agg #[.slice none 0 0,.slice none 0 0],.int .i64 c])) HC9.out),(fun h=>absurd (HC9.out.trans h) (by decide)),(by first | exact ⟨_,_,_,_,_,_,rfl,rfl⟩ | exact ⟨⟨_,_,_,rfl⟩,⟨_,_,_,rfl⟩⟩),JF (HKW.out.trans HK5.out) hks.out (fun g hg hlt=>by simp at hg;omega)⟩
     ·have hd40:decide ((40:Int)<(R.length:Int))=false:=by simp;omega
      rw [if_neg h40'] at hC;have HC9:=Ja hC;clear hC;have hks:=Ja (Qx w5 (w.heap.size+1) (.slice eo es.length ec) (.slice o5 R.length c5));clear h40';go_wp2_with fail;have hkk:=JF (HKW.out.trans HK5.out) hks.out (fun g hg hlt=>by simp at hg;omega);exact ⟨rfl,_,Q9 (P:=Tryz.prog) rfl _ _ (w.heap.size+1) 64 _ (0,0) _ rfl (QV _ _ HB5.out) Tryz.underlying64 rfl (by kernel_rfl),.slice eo es.length ec,.slice o5 R.length c5,Eq.trans (b:=Ending.returned (.tuple #[.agg #[.slice eo es.length ec,.slice o5 R.length c5],.int .i64 0])) rfl (congrArg (fun c=>Ending.returned (.tuple #[.agg #[.slice eo es.length ec,.slice o5 R.length c5],.int .i64 c])) HC9.out),(fun _=>⟨HE0.out.keeps hkk,by rw [←HMK.out];exact Jh.of_row (hks.out.owns HO.out (fun g hg hm=>by have:=(HO.out.lt g hg).1;simp at hm;omega))⟩),(by first | exact ⟨_,_,_,_,_,_,rfl,rfl⟩ | exact ⟨⟨_,_,_,rfl⟩,⟨_,_,_,rfl⟩⟩),hkk⟩
    ·simp at hst;have ho5:=HROW.out;rw [hst] at ho5
     try rw [hst]
     have hRl:R.length≤41:=by rw [←hst];(try simp);omega
     have hb5:=(HKR.out.block _ (lt_of_block HB1.out) List.not_mem_nil).trans HB1.out;have z0:=Jd hb5 0;have z1:=Jd hb5 1;have f0:=Jn hb5 0;have f1:=Jn hb5 1;simp at z0 z1;have HB5:=Ja hb5;have HO:=Ja ho5;clear hb5 ho5 hst hmk;by_cases h40':40<R.length
     ·have hd40:decide ((40:Int)<(R.length:Int))=true:=by simp;omega
      rw [if_pos h40'] at hC;have HC9:=Ja hC;clear hC;have hks:=Ja (Qx wr (w.heap.size+1) (.slice none 0 0) (.slice none 0 0));clear h40';go_wp2_with fail;exact ⟨rfl,_,Q9 (P:=Tryz.prog) rfl _ _ (w.heap.size+1) 64 _ (0,0) _ rfl (QV _ _ HB5.out) Tryz.underlying64 rfl (by kernel_rfl),.slice none 0 0,.slice none 0 0,Eq.trans (b:=Ending.returned (.tuple #[.agg #[.slice none 0 0,.slice none 0 0],.int .i64 2])) rfl (congrArg (fun c=>Ending.returned (.tuple #[.agg #[.slice none 0 0,.slice none 0 0],.int .i64 c])) HC9.out),(fun h=>absurd (HC9.out.trans h) (by decide)),(by first | exact ⟨_,_,_,_,_,_,rfl,rfl⟩ | exact ⟨⟨_,_,_,rfl⟩,⟨_,_,_,rfl⟩⟩),JF (HKW.out.trans HKR.out) hks.out (fun g hg hlt=>by simp at hg;omega)⟩
     ·have hd40:decide ((40:Int)<(R.length:Int))=false:=by simp;omega
      rw [if_neg h40'] at hC;have HC9:=Ja hC;clear hC;have hks:=Ja (Qx wr (w.heap.size+1) (.slice eo es.length ec) (.slice vo R.length vc));clear h40';go_wp2_with fail;have hkk:=JF (HKW.out.trans HKR.out) hks.out (fun g hg hlt=>by simp at hg;omega);exact ⟨rfl,_,Q9 (P:=Tryz.prog) rfl _ _ (w.heap.size+1) 64 _ (0,0) _ rfl (QV _ _ HB5.out) Tryz.underlying64 rfl (by kernel_rfl),.slice eo es.length ec,.slice vo R.length vc,Eq.trans (b:=Ending.returned (.tuple #[.agg #[.slice eo es.length ec,.slice vo R.length vc],.int .i64 0])) rfl (congrArg (fun c=>Ending.returned (.tuple #[.agg #[.slice eo es.length ec,.slice vo R.length vc],.int .i64 c])) HC9.out),(fun _=>⟨HE0.out.keeps hkk,by rw [←HMK.out];exact Jh.of_row (hks.out.owns HO.out (fun g hg hm=>by have:=(HO.out.lt g hg).1;simp at hm;omega))⟩),(by first | exact ⟨_,_,_,_,_,_,rfl,rfl⟩ | exact ⟨⟨_,_,_,rfl⟩,⟨_,_,_,rfl⟩⟩),hkk⟩
@[reducible] def SQ (W:World) (gb:Nat) (ev:Value) (g o1 o2:Nat) (y x:En) (w':World):Prop:=
  Jb [] W w'∧w'.cell? ⟨gb,0,none⟩=some ev∧
  (w'.cell? ⟨g,o1,none⟩=some (.string ⟨y.id.toArray⟩)∧w'.cell? ⟨g,o1+1,none⟩=some (.string ⟨y.title.toArray⟩)∧w'.cell? ⟨g,o1+2,none⟩=some (.string ⟨y.link.toArray⟩)∧w'.cell? ⟨g,o1+3,none⟩=some (.int .i64 y.tm)∧w'.cell? ⟨g,o1+4,none⟩=some (.string ⟨y.html.toArray⟩))∧
  (w'.cell? ⟨g,o2,none⟩=some (.string ⟨x.id.toArray⟩)∧w'.cell? ⟨g,o2+1,none⟩=some (.string ⟨x.title.toArray⟩)∧w'.cell? ⟨g,o2+2,none⟩=some (.string ⟨x.link.toArray⟩)∧w'.cell? ⟨g,o2+3,none⟩=some (.int .i64 x.tm)∧w'.cell? ⟨g,o2+4,none⟩=some (.string ⟨x.html.toArray⟩))
theorem SQ.keeps {W w':World} {gb g o1 o2:Nat} {ev:Value} {y x:En} (h:SQ W gb ev g o1 o2 y x W) (hk:Jb [] W w'):SQ W gb ev g o1 o2 y x w':=by
 obtain ⟨_,h0,⟨a0,a1,a2,a3,a4⟩,k0,k1,k2,k3,k4⟩:=h;exact ⟨hk,Jc hk h0,⟨Jc hk a0,Jc hk a1,Jc hk a2,Jc hk a3,Jc hk a4⟩,Jc hk k0,Jc hk k1,Jc hk k2,Jc hk k3,Jc hk k4⟩
theorem JrP {es:List En} {k:Nat} (hk:k<es.length) {C:Int} (h:Yk (Y0 es k) ((es.take k).map (·.id)) (es.drop k)=C):
  (Xc es[k]≠0→C=Xc es[k])∧(Xc es[k]=0→0≤YO es[k].id (es.take k)→C=6)∧(Xc es[k]=0→YO es[k].id (es.take k)<0→
    (∀ (h0:0<k),JQ es[k - 1] es[k]=false→C=4)∧((∀ (h0:0<k),JQ es[k - 1] es[k]=true)→Yk (Y0 es (k+1)) ((es.take (k+1)).map (·.id)) (es.drop (k+1))=C)):=by
 rw [Jg7 _ _ _ _ hk] at h;have hm:es[k].id∈(es.take k).map (·.id)↔0≤YO es[k].id (es.take k):=by
  rcases YX es[k].id (es.take k) with ⟨h1,h2⟩ | ⟨i,hi,h1,h2⟩
  ·constructor
   ·intro hh;obtain ⟨y,hy,he⟩:=List.mem_map.1 hh;exact absurd he (h2 y hy)
   ·intro hh;omega
  ·constructor
   ·intro _;omega
   ·intro _;exact List.mem_map.2 ⟨_,List.getElem_mem hi,h2⟩
 refine ⟨fun h1=>?_,fun h1 h2=>?_,fun h1 h2=>?_⟩
 ·rw [if_pos h1] at h;exact h.symm
 ·rw [if_neg (by simpa using h1),if_pos (hm.2 h2)] at h;exact h.symm
 ·have hnm: ¬ es[k].id∈(es.take k).map (·.id):=fun hh=>by have:=hm.1 hh;omega
  rw [if_neg (by simpa using h1),if_neg hnm] at h;have e1:Y0 es (k+1)=some es[k]:=by unfold Y0;simp [hk]
  have e2:(es.take (k+1)).map (·.id)=(es.take k).map (·.id)++[es[k].id]:=by rw [List.take_succ_eq_append_getElem hk,List.map_append];rfl
  rw [e1,e2];rcases Nat.eq_zero_or_pos k with h0 | h0
  ·subst h0;refine ⟨fun h9=>absurd h9 (by omega),fun _=>?_⟩;rw [if_neg (by simp [Y0,Jaj])] at h;exact h
  ·have e3:Y0 es k=some es[k - 1]:=by unfold Y0;rw [if_neg (by omega)];exact List.getElem?_eq_getElem (by omega)
   rw [e3] at h;have hne:es[k - 1].id≠es[k].id:=fun he=>hnm (List.mem_map.2 ⟨es[k - 1],by
    rw [List.mem_take_iff_getElem];exact ⟨k - 1,by omega,rfl⟩,he⟩)
   refine ⟨fun _ h9=>?_,fun h9=>?_⟩
   ·have:Jaj (some es[k - 1]) es[k]=true:=by
     unfold Jaj;rw [decide_eq_true_eq,JgM];rcases Jbe es[k - 1] es[k] with ⟨_,e⟩ | e | e
     ·exact absurd e hne
     ·rw [h9] at e;cases e
     ·exact e
    rw [if_pos this] at h;exact h.symm
   ·have: ¬ Jaj (some es[k - 1]) es[k]=true:=by
     intro hb;unfold Jaj at hb;rw [decide_eq_true_eq,JgM] at hb;have:=Jbf hb (h9 h0);rw [JeD] at this;cases this
    rw [if_neg this] at h;exact h
theorem Jqi {rd:List (List UInt8)} {k:Nat} (hk:k<rd.length) {C:Int} (h:Xe (Y1 rd k) (rd.drop k)=C):
  (rd[k]=[]→C=1)∧(rd[k]≠[]→60<rd[k].length→C=2)∧(rd[k]≠[]→¬ 60<rd[k].length→(∀ (h0:0<k),JH rd[k - 1] rd[k]=false→C=4)∧((∀ (h0:0<k),JH rd[k - 1] rd[k]=true)→Xe (Y1 rd (k+1)) (rd.drop (k+1))=C)):=by
 rw [Je6 _ _ _ hk] at h;have e1:Y1 rd (k+1)=some rd[k]:=by unfold Y1;simp [hk]
 refine ⟨fun h1=>?_,fun h1 h2=>?_,fun h1 h2=>?_⟩
 ·rw [if_pos h1] at h;exact h.symm
 ·rw [if_neg h1,if_pos h2] at h;exact h.symm
 ·rw [if_neg h1,if_neg h2] at h;rw [e1];rcases Nat.eq_zero_or_pos k with h0 | h0
  ·subst h0;refine ⟨fun h9=>absurd h9 (by omega),fun _=>?_⟩;rw [if_neg (by simp [Y1,Jb7])] at h;exact h
  ·have e3:Y1 rd k=some rd[k - 1]:=by unfold Y1;rw [if_neg (by omega)];exact List.getElem?_eq_getElem (by omega)
   rw [e3] at h;refine ⟨fun _ h9=>?_,fun h9=>?_⟩
   ·rw [if_pos (by simp [Jb7,h9])] at h;exact h.symm
   ·rw [if_neg (by simp [Jb7,h9 h0])] at h;exact h
set_option maxRecDepth 8000 in
theorem JkG (w:World) (ev rv:Value) (s:Sh) (he:Jh w ev s.es.length 5 (Je s.es)) (hr:Jh w rv s.rd.length 1 (Jq s.rd)) (hf: ∀ x∈s.es,Xh x) (hrl: ∀ x∈s.rd,x.length≤maxLen)
  (hst: ∀ x∈s.es, ∀ w1,Jb [] w w1→x.html.length≤3000→Calls Tryz.prog 130 #[.string ⟨x.html.toArray⟩] w1 fun e w'=>e=.returned (.bool (Yo x.html))∧Jb [] w1 w'):
  Calls Tryz.prog 45 #[.agg #[ev,rv]] w fun e w'=>e=.returned (.int .i64 (J7 s))∧Jb [] w w':=by
 obtain ⟨es,rd⟩:=s;simp only at he hr hf hst hrl;have hrl:=Ja (fun k (hk:k<rd.length)=>hrl _ (List.getElem_mem hk));obtain ⟨eo,ec,rfl,g1,g2⟩:=he.form;obtain ⟨ro,rc,rfl,g3,g4⟩:=hr.form;unfold maxLen at g2 g4;obtain ⟨C,hC⟩: ∃ C,J7 ⟨es,rd⟩=C:=⟨_,rfl⟩;rw [hC];unfold J7 at hC;simp only at hC;obtain ⟨C1,hC1⟩: ∃ C1,Yk none [] es=C1:=⟨_,rfl⟩;obtain ⟨C2,hC2⟩: ∃ C2,Xe none rd=C2:=⟨_,rfl⟩;rw [hC1,hC2] at hC;obtain ⟨W,hW⟩: ∃ W,w.alloc (.cells #[.slice eo es.length ec,.slice ro rd.length rc] 64)=W:=⟨_,rfl⟩;have hkW:Jb [] w W:=by rw [←hW];exact (Jb.refl [] w).alloc _
 have hb:=(Qb rfl hW).1;have b0:W.cell? ⟨w.heap.size,0,none⟩=some (.slice eo es.length ec):=Jd hb 0;have b1:W.cell? ⟨w.heap.size,1,none⟩=some (.slice ro rd.length rc):=Jd hb 1;have HE:=Ja (he.keeps hkW);have HR:=Ja (hr.keeps hkW);have HKW:=Ja hkW;have HW:=Ja hW;have hce:=Ja (fun k (hk:k<es.length) w1 (hk1:Jb [] W w1)=>JfB es[k] w1 (hf _ (List.getElem_mem hk)) (fun w2 hk2 h3=>hst _ (List.getElem_mem hk) w2 ((hkW.trans hk1).trans hk2) h3));have hFF:=Ja (fun k (hk:k<es.length)=>hf _ (List.getElem_mem hk));have HC:=Ja hC;have HC1:=Ja hC1;have HC2:=Ja hC2;clear he hr hf hst hkW hW hb hC hC1 hC2;by_cases hbig:20<es.length∨40<rd.length
 ·have hC:=HC.out;rw [if_pos hbig] at hC;subst hC;by_cases h20:20<es.length
  ·have hd:decide ((20:Int)<(es.length:Int))=true:=by simp;omega
   clear hbig h20;go_enter Tryz.func45,Tryz.ntmps45;go_upto_region 1 with fail;rw [HW.out];go_wp2_with fail;go_ret;exact ⟨rfl,HKW.out⟩
  ·have hd:decide ((20:Int)<(es.length:Int))=false:=by simp;omega
   have hd4:decide ((40:Int)<(rd.length:Int))=true:=by simp;omega
   clear hbig h20;go_enter Tryz.func45,Tryz.ntmps45;go_upto_region 1 with fail;rw [HW.out];go_wp2_with fail;go_ret;exact ⟨rfl,HKW.out⟩
 ·have hC:=HC.out;rw [if_neg hbig] at hC;have HC:=Ja hC;have hd:decide ((20:Int)<(es.length:Int))=false:=by simp;omega
  have hd4:decide ((40:Int)<(rd.length:Int))=false:=by simp;omega
  clear hbig hC;go_enter Tryz.func45,Tryz.ntmps45;go_upto_region 1 with fail;rw [HW.out];go_wp2_with fail;clear hd hd4;go_loopw [3] (fun i wr=> ∃ k:Nat,i=.int .i64 k∧k≤es.length∧Jb [] W wr∧Hid (Yk (Y0 es k) ((es.take k).map (·.id)) (es.drop k)=C1)) (fun i _=>es.length - (intOf i).toNat)
  case atStart=>exact ⟨0,rfl,Nat.zero_le _,Jb.refl _ _,Ja (by simpa [Y0] using HC1.out)⟩
  case round=>
   obtain ⟨k,rfl,hk,hkr,hH⟩:=hrel;have x0:=Jc hkr b0;have x1:=Jc hkr b1;by_cases hlt:k<es.length
   ·obtain ⟨g,o0,rfl,hc⟩:=HE.out.addr (by omega);obtain ⟨p1,p2,p3⟩:=JrP hlt hH.out;have hcc:=Qs hc k hlt;obtain ⟨a0,a1,a2,a3,a4⟩:=Qs (w:=W) hc k hlt;have a0:=Jc hkr a0;have a1:=Jc hkr a1;have a2:=Jc hkr a2;have a3:=Jc hkr a3;have a4:=Jc hkr a4;have b3:(0:Int)≤(k:Int):=by omega
    have b4:(k:Int)<(es.length:Int):=by omega
    have hfr:=Jh.front k hlt (show ec≤maxLen from g2) g1 hc;have hea:=Ja (fun w1 (hk1:Jb [] W w1)=>JaC es[k].id w1 _ (es.take k) (hfr.keeps hk1));have hce1:=Ja (hce.out k hlt wr hkr);have hprev:=Ja (fun (h0:0<k)=>Qs hc (k - 1) (by omega));have HP1:=Ja p1;have HP2:=Ja p2;have HP3:=Ja p3;have hF1:=hFF.out k hlt;have hF0:=Ja (fun (h0:0<k)=>hFF.out (k - 1) (by omega));have HKR:=Ja hkr;have HCC:=Ja hcc;clear hc hcc p1 p2 p3 hfr hkr;unfold Jo at hce1;generalize hx:es[k]=x at *;clear hx;obtain ⟨ix,hix⟩: ∃ ix,YO x.id (es.take k)=ix:=⟨_,rfl⟩;rw [hix] at HP2 HP3;simp only [hix] at hea;clear hix;obtain ⟨CE,hCE⟩: ∃ CE,Xc x=CE:=⟨_,rfl⟩;rw [hCE] at HP1 HP2 HP3 hce1;clear hCE;by_cases hE:CE=0
    ·have hp2:=HP2.out hE;have hp3:=HP3.out hE;subst hE;have HQ2:=Ja hp2;have HQ3:=Ja hp3;clear hp2 hp3 HP1 HP2 HP3;go_wp2_with fail;refine hce1.out.mono ?_;rintro e w2 ⟨rfl,hk2⟩;have y0:=Jc hk2 x0;have y1:=Jc hk2 x1;have q0:=Jc hk2 a0;have q1:=Jc hk2 a1;have q2:=Jc hk2 a2;have q3:=Jc hk2 a3;have q4:=Jc hk2 a4;have hea2:=Ja (fun n=>hea.out (w2.drewN n) ((HKR.out.trans hk2).drewN n));have HK2:=Ja (HKR.out.trans hk2);have b5:(k:Int)≤(es.length:Int):=by omega
     have b6:(k:Int)≤(ec:Int):=by omega
     clear hk2 x0 x1 a0 a1 a2 a3 a4;by_cases hi:ix<0
     ·have hd:decide (0≤ix)=false:=decide_eq_false (by omega);have h3:=Ja (HQ3.out hi);clear hi;go_wp2_with fail
      go_quiet ((go_at_call 54;exact Calls.quiet_of_same (hea2.out _)))
      obtain ⟨w3,hw3⟩: ∃ w3,w2.drewN nq=w3:=⟨_,rfl⟩;have hk3:Jb [] w2 w3:=by rw [←hw3];exact (Jb.refl [] w2).drewN _
      rw [hw3];have HK3:=Ja (HK2.out.trans hk3);have z0:=Jc hk3 y0;have z1:=Jc hk3 y1;clear hw3 y0 y1 q0 q1 q2 q3 q4 hd hea2 hea hce1;rcases Nat.eq_zero_or_pos k with h0 | h0
      ·have hd0:decide ((0:Int)<(k:Int))=false:=decide_eq_false (by omega);have hd1:decide (0<k)=false:=decide_eq_false (by omega);have hnx:=Ja (h3.out.2 (fun h9=>by omega));clear h3 HQ2 HQ3 hprev hF0 hF1 HCC h0 hk3;go_wp2_with fail
       go_quiet (fail)
       go_wp2_with fail;go_roundw
       case rel=>exact ⟨k+1,by go_num,by omega,HK3.out.drewN _,hnx.out⟩
       case measure=>simp [intOf];omega
      ·obtain ⟨j,rfl⟩: ∃ j,k=j+1:=⟨k - 1,by omega⟩;have hpc:=hprev.out h0;have hFy:=hF0.out h0;have h41:=h3.out.1 h0;have h42:=h3.out.2;have h43:=fun (hh:JQ (es[j+1 - 1]'(by omega)) x=true)=>h42 (fun _=>hh);clear h42;simp only [Nat.add_sub_cancel] at hpc hFy h41 h43;have hkW3:=HK3.out;have hS0:SQ w3 w.heap.size (.slice (some ⟨g,o0,none⟩) es.length ec) g (o0+j * 5) (o0+(j+1) * 5) (es[j]'(by omega)) x w3:=
        ⟨Jb.refl _ _,z0,⟨Jc hkW3 hpc.1,Jc hkW3 hpc.2.1,Jc hkW3 hpc.2.2.1,Jc hkW3 hpc.2.2.2.1,Jc hkW3 hpc.2.2.2.2⟩,Jc hkW3 HCC.out.1,Jc hkW3 HCC.out.2.1,Jc hkW3 HCC.out.2.2.1,Jc hkW3 HCC.out.2.2.2.1,Jc hkW3 HCC.out.2.2.2.2⟩
       have c3:(0:Int)≤(j:Int):=by omega
       have c4:(j:Int)<(es.length:Int):=by omega
       have c5:(j:Int)+1<(es.length:Int):=by omega
       have c6:(0:Int)<(j:Int)+1:=by omega
       have c7:(0:Int)≤(j:Int)+1:=by omega
       have c8:IntKind.i64.wrap (j:Int)=(j:Int):=by rw [IntKind.wrap_i64];omega
       have c9:IntKind.i64.wrap ((j:Int)+1 - 1)=(j:Int):=by rw [IntKind.wrap_i64];omega
       have c10:IntKind.i64.wrap (((j+1:Nat):Int) - 1)=(j:Int):=by rw [IntKind.wrap_i64];omega
       have c11:((j:Int)+1 - 1)=(j:Int):=by omega
       have H41:=Ja h41;have H43:=Ja h43;clear h3 HQ2 HQ3 hprev hF0 HCC hk3 hpc h41 h43 hkW3 z1;generalize es[j]'(by omega)=y at *;have HIA:=Ja (fun w=>JaE y x hFy hF1 w);clear hFy hF1;unfold Jo at HIA;have hS1:=hS0;obtain ⟨_,k0,⟨m0,m1,m2,m3,m4⟩,n0,n1,n2,n3,n4⟩:=hS1;cases hAH:JQ y x
       ·have hC4:=H41.out hAH;have hC:=HC.out;rw [hC4,if_pos (by decide)] at hC;have HC9:=Ja hC;rw [hAH] at HIA;clear hC hC4 hAH H41 H43;go_wp2_with fail
        go_region_held3 (SQ w3 w.heap.size (.slice (some ⟨g,o0,none⟩) es.length ec) g (o0+j * 5) (o0+(j+1) * 5) y x) ((first | assumption | (refine SQ.keeps hS0 ?_;first | exact (Jb.refl [] w3) | exact (Jb.refl [] w3).drew | exact (‹SQ w3 w.heap.size (.slice (some ⟨g,o0,none⟩) es.length ec) g (o0+j * 5) (o0+(j+1) * 5) y x _›).1.trans hkx | exact (‹SQ w3 w.heap.size (.slice (some ⟨g,o0,none⟩) es.length ec) g (o0+j * 5) (o0+(j+1) * 5) y x _›).1.alloc _ | exact (‹SQ w3 w.heap.size (.slice (some ⟨g,o0,none⟩) es.length ec) g (o0+j * 5) (o0+(j+1) * 5) y x _›).1.drewN _)))
         (first
           | (go_at_call 125;refine (HIA.out _).mono ?_;rintro e w7 ⟨rfl,hkx⟩))
        all_goals go_wp2_with fail
        all_goals go_ret
        all_goals exact ⟨by rw [←HC9.out];rfl,(HKW.out.trans HK3.out).trans (‹SQ w3 w.heap.size (.slice (some ⟨g,o0,none⟩) es.length ec) g (o0+j * 5) (o0+(j+1) * 5) y x _›).1⟩
       ·have hnx:=Ja (H43.out hAH);rw [hAH] at HIA;clear hAH H41 H43;go_wp2_with fail
        go_region_held3 (SQ w3 w.heap.size (.slice (some ⟨g,o0,none⟩) es.length ec) g (o0+j * 5) (o0+(j+1) * 5) y x) ((first | assumption | (refine SQ.keeps hS0 ?_;first | exact (Jb.refl [] w3) | exact (Jb.refl [] w3).drew | exact (‹SQ w3 w.heap.size (.slice (some ⟨g,o0,none⟩) es.length ec) g (o0+j * 5) (o0+(j+1) * 5) y x _›).1.trans hkx | exact (‹SQ w3 w.heap.size (.slice (some ⟨g,o0,none⟩) es.length ec) g (o0+j * 5) (o0+(j+1) * 5) y x _›).1.alloc _ | exact (‹SQ w3 w.heap.size (.slice (some ⟨g,o0,none⟩) es.length ec) g (o0+j * 5) (o0+(j+1) * 5) y x _›).1.drewN _)))
         (first
           | (go_at_call 125;refine (HIA.out _).mono ?_;rintro e w7 ⟨rfl,hkx⟩))
        all_goals go_wp2_with fail
        all_goals go_roundw
        case rel=>exact ⟨j+1+1,by go_num,by omega,HK3.out.trans (‹SQ w3 w.heap.size (.slice (some ⟨g,o0,none⟩) es.length ec) g (o0+j * 5) (o0+(j+1) * 5) y x _›).1,hnx.out⟩
        case measure=>simp [intOf];omega
     ·have hd:decide (0≤ix)=true:=decide_eq_true (by omega);have h6:=HQ2.out (by omega);have hC:=HC.out;rw [h6,if_pos (by decide)] at hC;have HC9:=Ja hC;clear hi h6 hC;go_wp2_with fail
      go_quiet ((go_at_call 54;exact Calls.quiet_of_same (hea2.out _)))
      go_wp2_with fail;go_ret;exact ⟨by rw [←HC9.out];rfl,(HKW.out.trans HK2.out).drewN _⟩
    ·have h1:=HP1.out hE;have hC:=HC.out;rw [h1,if_pos hE] at hC;have HC9:=Ja hC;have hne:(CE != 0)=true:=by simpa using hE
     clear h1 hC hE;go_wp2_with fail;refine hce1.out.mono ?_;rintro e w2 ⟨rfl,hk2⟩;go_wp2_with fail;go_ret;exact ⟨by rw [←HC9.out];rfl,HKW.out.trans (HKR.out.trans hk2)⟩
   ·have hkd:es.drop k=[]:=List.drop_eq_nil_of_le (by omega);have h0:=hH.out;rw [hkd] at h0;unfold Yk at h0;have hC:=HC.out;rw [←h0,if_neg (by simp)] at hC;have HCC2:=Ja hC;have HK1:=Ja hkr;clear hkd h0 hC hkr hce hFF HE hH;go_wp2_with fail;go_loopw [5] (fun i w2=> ∃ k:Nat,i=.int .i64 k∧k≤rd.length∧Jb [] wr w2∧Hid (Xe (Y1 rd k) (rd.drop k)=C2)) (fun i _=>rd.length - (intOf i).toNat)
    case atStart=>exact ⟨0,rfl,Nat.zero_le _,Jb.refl _ _,Ja (by simpa [Y1] using HC2.out)⟩
    case round=>
     obtain ⟨k,rfl,hk,hkr,hH⟩:=hrel;have y1:=Jc hkr x1;by_cases hlt:k<rd.length
     ·obtain ⟨g,o0,rfl,hc⟩:=HR.out.addr (by omega);obtain ⟨p1,p2,p3⟩:=Jqi hlt hH.out;have hcv:=HK1.out.trans hkr;have q0:=Jc hcv (hc _ _ (ZO rd k hlt));have hcp:=Ja (fun (j:Nat) (hj:j<rd.length)=>Jc hcv (hc _ _ (ZO rd j hj)));have b3:(0:Int)≤(k:Int):=by omega
      have b4:(k:Int)<(rd.length:Int):=by omega
      have HP1:=Ja p1;have HP2:=Ja p2;have HP3:=Ja p3;have HKR:=Ja hkr;have HCV:=Ja hcv;have hei:=Jfc rd[k];clear hc p1 p2 p3 hcv hkr;by_cases he:rd[k]=[]
      ·have h1:=HP1.out he;have hC:=HCC2.out;rw [h1] at hC;have HC9:=Ja hC;rw [decide_eq_true he] at hei;have hie:rd[k].isEmpty=true:=by simpa using he
       clear h1 hC he HP1 HP2 HP3;generalize rd[k]=x at *;go_wp2_with fail;go_ret;exact ⟨by rw [←HC9.out];rfl,HKW.out.trans HCV.out⟩
      ·rw [decide_eq_false he] at hei;have hie:rd[k].isEmpty=false:=by simpa using he
       by_cases h60:60<rd[k].length
       ·have h1:=HP2.out he h60;have hC:=HCC2.out;rw [h1] at hC;have HC9:=Ja hC;have d60:decide ((60:Int)<(rd[k].length:Int))=true:=by simp;omega
        clear h1 hC he HP1 HP2 HP3 h60;generalize rd[k]=x at *;go_wp2_with fail;go_ret;exact ⟨by rw [←HC9.out];rfl,HKW.out.trans HCV.out⟩
       ·have d60:decide ((60:Int)<(rd[k].length:Int))=false:=by simp;omega
        have h3:=Ja (HP3.out he h60);clear he HP1 HP2 HP3;rcases Nat.eq_zero_or_pos k with h0 | h0
        ·have hd0:decide ((0:Int)<(k:Int))=false:=decide_eq_false (by omega);have hd1:decide (0<k)=false:=decide_eq_false (by omega);have hnx:=Ja (h3.out.2 (fun h9=>by omega));clear h3 h0 hcp h60;generalize rd[k]=x at *;go_wp2_with fail
         go_quiet (fail)
         go_wp2_with fail;go_roundw
         case rel=>exact ⟨k+1,by go_num,by omega,HKR.out.drewN _,hnx.out⟩
         case measure=>simp [intOf];omega
        ·obtain ⟨j,rfl⟩: ∃ j,k=j+1:=⟨k - 1,by omega⟩;have h41:=h3.out.1 h0;have h43:=fun (hh:JH (rd[j+1 - 1]'(by omega)) rd[j+1]=true)=>h3.out.2 (fun _=>hh);simp only [Nat.add_sub_cancel] at h41 h43;have r0:=hcp.out j (by omega);have c3:(0:Int)≤(j:Int):=by omega
         have c4:(j:Int)<(rd.length:Int):=by omega
         have c5:(j:Int)+1<(rd.length:Int):=by omega
         have c6:(0:Int)<(j:Int)+1:=by omega
         have c7:(0:Int)≤(j:Int)+1:=by omega
         have c8:IntKind.i64.wrap (j:Int)=(j:Int):=by rw [IntKind.wrap_i64];omega
         have c9:IntKind.i64.wrap ((j:Int)+1 - 1)=(j:Int):=by rw [IntKind.wrap_i64];omega
         have c11:((j:Int)+1 - 1)=(j:Int):=by omega
         have hyl:=hrl.out j (by omega);have htl:=Ja (fun w=>JeB (rd[j]'(by omega)) rd[j+1] hyl (by unfold maxLen;omega) w);have H41:=Ja h41;have H43:=Ja h43;clear h3 hcp h41 h43 hyl h60;generalize rd[j+1]=x at *;generalize rd[j]'(by omega)=y at *;cases hAH:JH y x
         ·have hC4:=H41.out hAH;have hC:=HCC2.out;rw [hC4] at hC;have HC9:=Ja hC;rw [hAH] at htl;clear hC hC4 hAH H41 H43;go_wp2_with fail
          go_quiet ((go_at_call 126;exact Calls.quiet_of (htl.out _)))
          go_wp2_with fail;go_ret;exact ⟨by rw [←HC9.out];rfl,(HKW.out.trans HCV.out).drewN _⟩
         ·have hnx:=Ja (H43.out hAH);rw [hAH] at htl;clear hAH H41 H43;go_wp2_with fail
          go_quiet ((go_at_call 126;exact Calls.quiet_of (htl.out _)))
          go_wp2_with fail;go_roundw
          case rel=>exact ⟨j+1+1,by go_num,by omega,HKR.out.drewN _,hnx.out⟩
          case measure=>simp [intOf];omega
     ·have hkd:rd.drop k=[]:=List.drop_eq_nil_of_le (by omega);have h0:=hH.out;rw [hkd] at h0;unfold Xe at h0;have hC:=HCC2.out;rw [←h0] at hC;have HC9:=Ja hC;clear hkd h0 hC;go_wp2_with fail;go_ret;exact ⟨by rw [←HC9.out];rfl,HKW.out.trans (HK1.out.trans hkr)⟩
def goE (x:En):List En→Bool→List En
 | [],b=>if b=true then [] else [x]
 | y::r,b=>if y.id=x.id then goE x r b else if b=false∧JQ x y=true then x::y::goE x r true else y::goE x r b
theorem JgH (x:En): ∀ l:List En,goE x l true=l.filter (fun z=> !(z.id==x.id))
 | []=>rfl
 | y::r=>by
   unfold goE;by_cases h:y.id=x.id
   ·simp [h,JgH x r]
   ·simp [h,JgH x r]
theorem Jfh (x:En): ∀ l:List En,goE x l false=Zr (l.filter (fun z=> !(z.id==x.id))) x
 | []=>rfl
 | y::r=>by
   unfold goE;by_cases h:y.id=x.id
   ·rw [if_pos h,Jfh x r];simp [h]
   ·rw [if_neg h];have hf:(y::r).filter (fun z=> !(z.id==x.id))=y::r.filter (fun z=> !(z.id==x.id)):=by simp [h]
    rw [hf];by_cases hl:JQ x y=true
    ·rw [if_pos ⟨rfl,hl⟩,JgH];have:JQ y x=false:=by
      rw [Bool.eq_false_iff];intro h9;have:=Jbf hl h9;rw [JeD] at this;cases this
     simp [Zr,this]
    ·rw [if_neg (fun hh=>hl hh.2),Jfh x r];have:JQ y x=true:=by
      rcases Jbe x y with ⟨_,h9⟩ | h9 | h9
      ·exact absurd h9.symm h
      ·exact absurd h9 hl
      ·exact h9
     simp [Zr,this]
theorem Jp8 {l:List En} (ho:Yb l) (x:En):
  (∀ i (hi:i<l.length),YO x.id l=(i:Int)→x.tm<l[i].tm→Zy l x=l)∧
  ((∀ i (hi:i<l.length),YO x.id l=(i:Int)→¬ x.tm<l[i].tm)→Zy l x=goE x l false):=by
 rcases Jfz l x with ⟨y,hy,h1,h2,h3⟩ | ⟨h1,h2⟩
 ·refine ⟨fun _ _ _ _=>h3,fun h=>?_⟩;rcases YX x.id l with ⟨_,h9⟩ | ⟨i,hi,h8,h9⟩
  ·exact absurd h1 (h9 y hy)
  ·have:=JdM ho hy (List.getElem_mem hi) (h1.trans h9.symm);exact absurd (this ▸ h2) (h i hi h8)
 ·refine ⟨fun i hi h8 h9=>?_,fun _=>by rw [h1,Jfh]⟩;rcases YX x.id l with ⟨h7,_⟩ | ⟨j,hj,h7,h6⟩
  ·omega
  ·have e:i=j:=by omega
   subst e;have:=h2 ho _ (List.getElem_mem hi) h6;omega
theorem Jqd (es l:List En) (k:Nat) (hk:k<l.length):XF es (l.take (k+1))=Zy (XF es (l.take k)) l[k]:=by
 unfold XF;rw [List.take_succ_eq_append_getElem hk,List.foldl_append];rfl
theorem Jl7 {es:List En} (ho:Yb es) (z:En):ZQ es z=true↔ ∃ i, ∃ hi:i<es.length,YO z.id es=(i:Int)∧es[i]=z:=by
 rw [Jrn];constructor
 ·intro hz;rcases YX z.id es with ⟨_,h9⟩ | ⟨i,hi,h8,h9⟩
  ·exact absurd rfl (h9 z hz)
  ·exact ⟨i,hi,h8,JdM ho (List.getElem_mem hi) hz h9⟩
 ·rintro ⟨i,hi,_,rfl⟩;exact List.getElem_mem hi
end Go.Proofs.YtlcljanibjdejaaGreat
