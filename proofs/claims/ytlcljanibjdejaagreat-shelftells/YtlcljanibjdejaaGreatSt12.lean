/- ShelfTells holds: the law returns true for every input, and each argument reads behind the call as it read before; no condition. A part of its proof. -/
import Derived.Test.YtlcljanibjdejaaGreatSt11
set_option maxHeartbeats 64000000
namespace Go.Proofs.YtlcljanibjdejaaGreat
open Go.RowKit Go.Maps
def eqE (x y:En):Bool:=decide (x.id=y.id)&&(decide (x.title=y.title)&&(decide (x.link=y.link)&&(decide (x.tm=y.tm)&&decide (x.html=y.html))))
theorem Ja5 (x y:En):eqE x y=true↔x=y:=by
 obtain ⟨a,b,c,d,e⟩:=x;obtain ⟨a',b',c',d',e'⟩:=y;simp [eqE]
theorem Jrg (x:En):eqE x x=true:=(Ja5 x x).2 rfl
theorem JtS (x y:En) (w:World):(binOp .eql 75 (.agg #[.string ⟨x.id.toArray⟩,.string ⟨x.title.toArray⟩,.string ⟨x.link.toArray⟩,.int .i64 x.tm,.string ⟨x.html.toArray⟩]) (.agg #[.string ⟨y.id.toArray⟩,.string ⟨y.title.toArray⟩,.string ⟨y.link.toArray⟩,.int .i64 y.tm,.string ⟨y.html.toArray⟩])).run Tryz.prog w=.ok (.bool (eqE x y)) w:=by
 have u9:=Tryz.underlying9;have u3:=Tryz.underlying3;have hS:Tryz.prog.underlying 75=some (.struct (Tryz.prog.fieldsOf 75)):=by kernel_rfl
 have hp:Tryz.prog.stoodInHeld 75=false:=by kernel_rfl
 rw [run_eql_struct,show (10000:Nat)=9999+1 from rfl,run_equalIn_agg w 9999 75 _ _ hS hp];simp only [Program.fieldsOf,Tryz.underlying75]
 go_simp
 unfold eqE;by_cases h1:x.id=y.id<;>by_cases h2:x.title=y.title<;>by_cases h3:x.link=y.link<;>by_cases h4:x.tm=y.tm<;>by_cases h5:x.html=y.html<;>simp [h1,h2,h3,h4,h5]
theorem Jni (x y:En) (w:World):(binOp .neq 75 (.agg #[.string ⟨x.id.toArray⟩,.string ⟨x.title.toArray⟩,.string ⟨x.link.toArray⟩,.int .i64 x.tm,.string ⟨x.html.toArray⟩]) (.agg #[.string ⟨y.id.toArray⟩,.string ⟨y.title.toArray⟩,.string ⟨y.link.toArray⟩,.int .i64 y.tm,.string ⟨y.html.toArray⟩])).run Tryz.prog w=.ok (.bool (!eqE x y)) w:=by
 have u9:=Tryz.underlying9;have u3:=Tryz.underlying3;have hS:Tryz.prog.underlying 75=some (.struct (Tryz.prog.fieldsOf 75)):=by kernel_rfl
 have hp:Tryz.prog.stoodInHeld 75=false:=by kernel_rfl
 rw [run_neq_struct,show (10000:Nat)=9999+1 from rfl,run_equalIn_agg w 9999 75 _ _ hS hp];simp only [Program.fieldsOf,Tryz.underlying75]
 go_simp
 unfold eqE;by_cases h1:x.id=y.id<;>by_cases h2:x.title=y.title<;>by_cases h3:x.link=y.link<;>by_cases h4:x.tm=y.tm<;>by_cases h5:x.html=y.html<;>simp [h1,h2,h3,h4,h5]
def ZQ (l:List En) (x:En):Bool:=l.any (eqE x)
theorem Jrn (l:List En) (x:En):ZQ l x=true↔x∈l:=by
 unfold ZQ;rw [List.any_eq_true];constructor
 ·rintro ⟨y,hy,h⟩;rw [(Ja5 x y).1 h];exact hy
 ·intro h;exact ⟨x,h,Jrg x⟩
def Jc3 (x:En):List En→Nat→Int
 | [],_=> -1
 | y::r,k=>if eqE x y=true then (k:Int) else Jc3 x r (k+1)
theorem Jpo (x:En) (l:List En) (k:Nat) (hk:k<l.length):Jc3 x (l.drop k) k=if eqE x l[k]=true then (k:Int) else Jc3 x (l.drop (k+1)) (k+1):=by
 rw [List.drop_eq_getElem_cons hk];rfl
theorem Jkf (x:En): ∀ (l:List En) (k:Nat),decide ((0:Int)≤Jc3 x l k)=ZQ l x
 | [],k=>by simp [Jc3,ZQ]
 | y::r,k=>by
   have ih:=Jkf x r (k+1);unfold Jc3;unfold ZQ at ih ⊢;rw [List.any_cons];by_cases h:eqE x y=true
   ·simp [h]
   ·rw [if_neg h,ih];simp [h]
set_option maxRecDepth 8000 in
theorem Jkg (x:En) (w:World) (v:Value) (l:List En) (hv:Jh w v l.length 5 (Je l)):
  Calls Tryz.prog 270 #[v,.agg (Jo x).toArray] w fun e w'=>e=.returned (.int .i64 (Jc3 x l 0))∧Jb [] w w':=by
 obtain ⟨o,c,rfl,h1,h2⟩:=hv.form;unfold maxLen at h2;obtain ⟨R,hR⟩: ∃ R,Jc3 x l 0=R:=⟨_,rfl⟩;rw [hR];obtain ⟨W,hW⟩: ∃ W,w.alloc (.cells (Jo x).toArray 75)=W:=⟨_,rfl⟩;have hkW:Jb [] w W:=by rw [←hW];exact (Jb.refl [] w).alloc _
 have hb:=(Qb rfl hW).1;have b0:W.cell? ⟨w.heap.size,0,none⟩=some (.string ⟨x.id.toArray⟩):=Jd hb 0;have b1:W.cell? ⟨w.heap.size,1,none⟩=some (.string ⟨x.title.toArray⟩):=Jd hb 1;have b2:W.cell? ⟨w.heap.size,2,none⟩=some (.string ⟨x.link.toArray⟩):=Jd hb 2;have b3:W.cell? ⟨w.heap.size,3,none⟩=some (.int .i64 x.tm):=Jd hb 3;have b4:W.cell? ⟨w.heap.size,4,none⟩=some (.string ⟨x.html.toArray⟩):=Jd hb 4;have hvW:=hv.keeps hkW;have HR:=Ja hR;have HKW:=Ja hkW;have HW:=Ja hW;clear hR hv hkW hb hW;go_enter Tryz.func270,Tryz.ntmps270;go_upto_region 1 with fail;rw [HW.out];go_wp2_with fail;go_loopw [8] (fun i wr=> ∃ k m:Nat,k≤l.length∧i=.int .i64 k∧wr=W.drewN m∧Hid (Jc3 x (l.drop k) k=R)) (fun i _=>l.length - (intOf i).toNat)
 case atStart=>exact ⟨0,0,Nat.zero_le _,rfl,rfl,HR⟩
 case round=>
  obtain ⟨k,m,hk,rfl,rfl,hC⟩:=hrel;clear HR;by_cases hlt:k<l.length
  ·have hC1:=hC.out;rw [Jpo x l k hlt] at hC1;obtain ⟨g,o0,rfl,hc⟩:=hvW.addr (by omega);obtain ⟨a0,a1,a2,a3,a4⟩:=Qs hc k hlt;have heq:=fun w=>JtS x l[k] w;have hgd:Tryz.prog.eqGuardType Tryz.prog.depth 75=false:=by kernel_rfl
   have HC1:=Ja hC1;clear hC hC1 hc;generalize l[k]=y at *;obtain ⟨Q,hQ⟩: ∃ Q,eqE x y=Q:=⟨_,rfl⟩;rw [hQ] at HC1;simp only [hQ] at heq;clear hQ;cases Q
   ·have HC2:Hid (Jc3 x (l.drop (k+1)) (k+1)=R):=Ja (by have:=HC1.out;simpa using this);clear HC1;go_wp2_with fail
    go_quiet (fail)
    go_wp2_with fail;go_roundw
    case rel=>exact ⟨k+1,_,by omega,by go_num,rfl,HC2⟩
    case measure=>simp [intOf];omega
   ·have hRk:R=(k:Int):=by rw [←HC1.out];simp
    subst hRk;clear HC1;go_wp2_with fail
    go_quiet (fail)
    go_wp2_with fail;go_ret;exact ⟨rfl,(HKW.out.drewN _).drewN _⟩
  ·have hRR:R= -1:=by
    rw [←hC.out,List.drop_eq_nil_of_le (by omega)];rfl
   subst hRR;go_wp2_with fail;go_ret;exact ⟨rfl,HKW.out.drewN _⟩
set_option maxRecDepth 4000 in
theorem Jhc (x:En) (w:World) (v:Value) (l:List En) (hv:Jh w v l.length 5 (Je l)):
  Calls Tryz.prog 194 #[v,.agg (Jo x).toArray] w fun e w'=>e=.returned (.bool (ZQ l x))∧Jb [] w w':=by
 obtain ⟨o,c,rfl,h1,h2⟩:=hv.form;obtain ⟨W,hW⟩: ∃ W,w.alloc (.cells (Jo x).toArray 75)=W:=⟨_,rfl⟩;have hkW:Jb [] w W:=by rw [←hW];exact (Jb.refl [] w).alloc _
 have hb:=(Qb rfl hW).1;have b0:W.cell? ⟨w.heap.size,0,none⟩=some (.string ⟨x.id.toArray⟩):=Jd hb 0;have b1:W.cell? ⟨w.heap.size,1,none⟩=some (.string ⟨x.title.toArray⟩):=Jd hb 1;have b2:W.cell? ⟨w.heap.size,2,none⟩=some (.string ⟨x.link.toArray⟩):=Jd hb 2;have b3:W.cell? ⟨w.heap.size,3,none⟩=some (.int .i64 x.tm):=Jd hb 3;have b4:W.cell? ⟨w.heap.size,4,none⟩=some (.string ⟨x.html.toArray⟩):=Jd hb 4;have hix:=Ja (Jkg x W _ l (hv.keeps hkW));have hd:=Jkf x l 0;unfold Jo at hix;have HKW:=Ja hkW;have HW:=Ja hW;generalize Jc3 x l 0=R at *;generalize ZQ l x=Q at *;clear hv hkW hb hW;go_enter Tryz.func194,Tryz.ntmps194;go_upto_region 1 with fail;rw [HW.out];go_wp2_with fail;refine hix.out.mono ?_;rintro e w1 ⟨rfl,hk1⟩;go_wp2_with fail;go_ret;exact ⟨rfl,HKW.out.trans hk1⟩
def Ql (es were:List En):Nat:=(es.filter fun x=> !ZQ were x).length
theorem Jc8 (es were:List En) (k:Nat) (hk:k<es.length):Ql (es.take (k+1)) were=Ql (es.take k) were+if ZQ were es[k]=true then 0 else 1:=by
 unfold Ql;rw [List.take_succ_eq_append_getElem hk,List.filter_append,List.length_append]
 congr 1
 by_cases h:ZQ were es[k]=true
 ·simp [h]
 ·simp [h]
theorem Jen (es were:List En):Ql es were≤es.length:=List.length_filter_le _ _
set_option maxRecDepth 8000 in
theorem JpU (w:World) (B k:Nat) (ev rv:Value) (es were:List En) (rd:List (List UInt8)) (v:Value) (h:XT w B k ev rv ⟨es,rd⟩) (hv:Jh w v were.length 5 (Je were)) (hl:es.length≤1000):
  Calls Tryz.prog 120 #[.pointer (some ⟨k,0,none⟩),v] w fun e w'=>e=.returned (.int .i64 (Ql es were))∧Jb [] w w':=by
 obtain ⟨o,c,rfl,h1,h2⟩:=hv.form;have hes:=h.es;simp only at hes;obtain ⟨eo,ec,rfl⟩:=Jg hes;have c0:=Jd h.blk 0;simp at c0;have hls:=Jh.of_row hes;obtain ⟨_,_,e9,g1,g2⟩:=hls.form;injection e9 with e91 e92 e93
 subst e91 e93;unfold maxLen at g2;have HLS:=Ja hls;have HV:=Ja hv;obtain ⟨RR,hRR⟩: ∃ R,Ql es were=R:=⟨_,rfl⟩;rw [hRR];have HRR:=Ja hRR;clear h hes hls hv e92 hRR;go_enter Tryz.func120,Tryz.ntmps120;go_wp2_with fail;go_loopw [5,14] (fun n i wr=> ∃ j:Nat,j≤es.length∧i=.int .i64 j∧n=.int .i64 (Ql (es.take j) were)∧Jb [] w wr) (fun _ i _=>es.length - (intOf i).toNat)
 case atStart=>exact ⟨0,Nat.zero_le _,rfl,rfl,Jb.refl _ _⟩
 case round=>
  obtain ⟨j,hj,rfl,rfl,hkw⟩:=hrel;by_cases hlt:j<es.length
  ·have hH:=Jc8 es were j hlt;have hHl:=Jen (es.take j) were;rw [List.length_take] at hHl;obtain ⟨g,o0,rfl,hc⟩:=(HLS.out.keeps hkw).addr (by omega);obtain ⟨a0,a1,a2,a3,a4⟩:=Qs hc j hlt;have HH:=Ja hH;clear hc hH;generalize Ql (es.take j) were=cnt at *;have hcall:=Ja (fun w1 (hk1:Jb [] w w1)=>Jhc es[j] w1 _ were (HV.out.keeps hk1));unfold Jo at hcall;generalize es[j]=x at *;obtain ⟨WE,hWE⟩: ∃ WE,wr.alloc (.cells #[.string ⟨x.id.toArray⟩,.string ⟨x.title.toArray⟩,.string ⟨x.link.toArray⟩,.int .i64 x.tm,.string ⟨x.html.toArray⟩] 75)=WE:=⟨_,rfl⟩;have hkN:Jb [] wr WE:=by rw [←hWE];exact (Jb.refl [] wr).alloc _
   have hbx:=(Qb rfl hWE).1;have HKR:=Ja (hkw.trans hkN);have HWE:=Ja hWE;have d0:WE.cell? ⟨wr.heap.size,0,none⟩=some (.string ⟨x.id.toArray⟩):=Jd hbx 0;have d1:WE.cell? ⟨wr.heap.size,1,none⟩=some (.string ⟨x.title.toArray⟩):=Jd hbx 1;have d2:WE.cell? ⟨wr.heap.size,2,none⟩=some (.string ⟨x.link.toArray⟩):=Jd hbx 2;have d3:WE.cell? ⟨wr.heap.size,3,none⟩=some (.int .i64 x.tm):=Jd hbx 3;have d4:WE.cell? ⟨wr.heap.size,4,none⟩=some (.string ⟨x.html.toArray⟩):=Jd hbx 4;clear hkN hWE hbx hkw;obtain ⟨Q,hQ⟩: ∃ Q,ZQ were x=Q:=⟨_,rfl⟩;rw [hQ] at HH;simp only [hQ] at hcall;clear hQ;cases Q
   ·have HH2:Hid (Ql (es.take (j+1)) were=cnt+1):=Ja (by have:=HH.out;simpa using this);clear HH;go_upto_region 5 with fail;rw [HWE.out];go_wp2_with fail;refine (hcall.out WE HKR.out).mono ?_;rintro e w3 ⟨rfl,hk3⟩;have HK3:=Ja (HKR.out.trans hk3);clear hk3 d0 d1 d2 d3 d4 a0 a1 a2 a3 a4 c0;go_wp2_with fail;go_roundw
    case rel=>exact ⟨j+1,by omega,by go_num,by rw [HH2.out];go_num,HK3.out⟩
    case measure=>simp [intOf];omega
   ·have HH2:Hid (Ql (es.take (j+1)) were=cnt):=Ja (by have:=HH.out;simpa using this);clear HH;go_upto_region 5 with fail;rw [HWE.out];go_wp2_with fail;refine (hcall.out WE HKR.out).mono ?_;rintro e w3 ⟨rfl,hk3⟩;have HK3:=Ja (HKR.out.trans hk3);clear hk3 d0 d1 d2 d3 d4 a0 a1 a2 a3 a4 c0;go_wp2_with fail;go_roundw
    case rel=>exact ⟨j+1,by omega,by go_num,by rw [HH2.out],HK3.out⟩
    case measure=>simp [intOf];omega
  ·have hke:es.take j=es:=List.take_of_length_le (by omega);rw [hke,HRR.out];go_wp2_with fail;go_ret;exact ⟨rfl,hkw⟩
theorem Jf7: ∀ (l:List En) (p:Option En) (met:List (List UInt8)),Yk p met l=0→(∀ y,p=some y→y.id∈met)→Yb l∧(∀ x∈l,x.id∉met)∧Xd (p.toList++l)
 | [],p,met,_,_=>by
   refine ⟨List.Pairwise.nil,by simp,?_⟩;cases p<;>simp [Xd]
 | x::r,p,met,h,hp=>by
   unfold Yk at h;split at h
   ·rename_i h1;exact absurd h h1
   ·split at h
    ·simp at h
    ·rename_i hm;split at h
     ·simp at h
     ·rename_i hb;obtain ⟨h1,h2,h3⟩:=Jf7 r (some x) (met++[x.id]) h (by intro y hy;cases hy;simp);refine ⟨List.pairwise_cons.2 ⟨fun z hz e=>h2 z hz (by simp [e]),h1⟩,?_,?_⟩
      ·intro z hz;rcases List.mem_cons.1 hz with rfl | hz
       ·exact hm
       ·exact fun hh=>h2 z hz (by simp [hh])
      ·cases p with
       | none=>simpa using h3
       | some y=>
         simp only [Option.toList_some,List.cons_append,List.nil_append] at h3 ⊢;have hyx:JQ y x=true:=by
          rcases Jbe y x with ⟨_,e⟩ | h | h
          ·exact absurd (e ▸ hp y rfl) hm
          ·exact h
          ·have:=(JgM y x).2 h;simp [Jaj,this] at hb
         refine List.pairwise_cons.2 ⟨fun z hz=>?_,h3⟩;rcases List.mem_cons.1 hz with rfl | hz
         ·exact hyx
         ·exact Jbf hyx ((List.pairwise_cons.1 h3).1 z hz)
theorem Jga {s:Sh} (h:J7 s=0):Xd s.es∧Yb s.es:=by
 obtain ⟨_,_,h3,_⟩:=Xv h;obtain ⟨h1,_,h2⟩:=Jf7 s.es none [] h3 (by simp);exact ⟨by simpa using h2,h1⟩
theorem JeF: ∀ (l:List (List UInt8)) (p:Option (List UInt8)),Xe p l=0→Yt (p.toList++l)
 | [],p,_=>by cases p<;>simp [Yt]
 | x::r,p,h=>by
   unfold Xe at h;split at h
   ·simp at h
   ·split at h
    ·simp at h
    ·split at h
     ·simp at h
     ·rename_i hb;have h3:=JeF r (some x) h;cases p with
      | none=>simpa using h3
      | some y=>
        simp only [Option.toList_some,List.cons_append,List.nil_append] at h3 ⊢;have hyx:JH y x=true:=by simpa [Jb7] using hb
        refine List.pairwise_cons.2 ⟨fun z hz=>?_,h3⟩;rcases List.mem_cons.1 hz with rfl | hz
        ·exact hyx
        ·exact JaH _ _ _ hyx ((List.pairwise_cons.1 h3).1 z hz)
theorem JdX {s:Sh} (h:J7 s=0):Yt s.rd:=by
 obtain ⟨_,_,_,h4⟩:=Xv h;simpa using JeF s.rd none h4
theorem JrJ (l:List En) (x:En):(Zy l x).length≤l.length+1:=by
 unfold Zy;split
 ·rw [Jeg];exact Nat.le_refl _
 ·split
  ·omega
  ·rw [Jeg];have:=List.length_filter_le (fun z:En=> !(z.id==x.id)) l;omega
theorem Jds (m:List En): ∀ (l:List En),(XF l m).length≤l.length+m.length:=by
 unfold XF
 induction m with
 | nil=>intro l;simp
 | cons x m ih=>
   intro l;have h1:=ih (Zy l x);have h2:=JrJ l x;simp only [List.foldl_cons,List.length_cons];omega
theorem JnC (l m:List En) (k:Nat) (hk:k<m.length):XF l (m.take (k+1))=Zy (XF l (m.take k)) m[k]:=by
 unfold XF;rw [List.take_succ_eq_append_getElem hk,List.foldl_append];rfl
theorem Yx {w:World} {B B':Nat} {e:TypeId} {z:Nat} {v:Value} {n:Nat} {xs:List Value} (h:w.ownsRow B e z v n xs) (hB:B'≤B):w.ownsRow B' e z v n xs:=by
 refine ⟨h.1,?_⟩;rcases h.2 with h1 | ⟨g,cap,cur,e1,h2,h3⟩
 ·exact .inl h1
 ·exact .inr ⟨g,cap,cur,e1,Nat.le_trans hB h2,h3⟩
theorem Q9 {P:Program} {fn:Func} {p u:Tmp} {ty:TypeId} (h:fn.results=#[.cell p ty,.tmp u]) (tmps:Array Value) (w:World) (g:Nat) (t:TypeId) (cs:Array Value) (fr:Nat × Nat) (d:TypeDesc)
  (hp:tmps.getD p undef=.pointer (some ⟨g,0,none⟩)) (hg:w.heap[g]?=some (.cells cs t fr))
  (hu:P.underlying ty=some d) (hd:(match d with | .struct _ | .array _ _=>true | _=>false)=true) (hi:(P.info? ty).map (·.size)=some cs.size):
  (results fn tmps).run P w=.ok (.tuple #[.agg cs,tmps.getD u undef]) w:=by
 have hp':tmps[p]?.getD undef=.pointer (some ⟨g,0,none⟩):=by simpa using hp
 simp [results,h,hp',asAddr,run_loadVar_row w g t ty cs fr d hg hu hd hi]
theorem Jad {P:Program} {fn:Func} {p u v:Tmp} {ty:TypeId} (h:fn.results=#[.cell p ty,.tmp u,.tmp v]) (tmps:Array Value) (w:World) (g:Nat) (t:TypeId) (cs:Array Value) (fr:Nat × Nat) (d:TypeDesc)
  (hp:tmps.getD p undef=.pointer (some ⟨g,0,none⟩)) (hg:w.heap[g]?=some (.cells cs t fr))
  (hu:P.underlying ty=some d) (hd:(match d with | .struct _ | .array _ _=>true | _=>false)=true) (hi:(P.info? ty).map (·.size)=some cs.size):
  (results fn tmps).run P w=.ok (.tuple #[.agg cs,tmps.getD u undef,tmps.getD v undef]) w:=by
 have hp':tmps[p]?.getD undef=.pointer (some ⟨g,0,none⟩):=by simpa using hp
 simp [results,h,hp',asAddr,run_loadVar_row w g t ty cs fr d hg hu hd hi]
theorem QV {W:World} {nb:Nat} {u0 u1:Value} {t:TypeId} (v0 v1:Value) (h:W.heap[nb]?=some (.cells #[u0,u1] t (0,0))):
  ((W.setCell ⟨nb,0,none⟩ v0).setCell ⟨nb,1,none⟩ v1).heap[nb]?=some (.cells #[v0,v1] t (0,0)):=by
 simp [World.setCell,Array.getElem?_modify,h]
theorem Qx (W:World) (nb:Nat) (v0 v1:Value):Jb [nb] W ((W.setCell ⟨nb,0,none⟩ v0).setCell ⟨nb,1,none⟩ v1):=
 ((Jb.refl [nb] W).setCell (.inl (by simp)) _).setCell (.inl (by simp)) _
def Ye (s:Sh) (l:List En):Int:=if J7 s≠0 then J7 s else if 12<l.length then 2 else X5 l
theorem Jf9 {s:Sh} {l:List En} (h:Ye s l=0):J7 s=0∧l.length≤12∧X5 l=0:=by
 unfold Ye at h;split at h
 ·rename_i h1;exact absurd h h1
 ·rename_i h1;split at h
  ·simp at h
  ·exact ⟨by simpa using h1,by omega,h⟩
theorem JoM:Jy 120:=JC Tryz.func120 (by kernel_rfl) (by kernel_rfl)
def Jcz (w:World) (B:Nat) (ev rv:Value) (s:Sh):Prop:=w.ownsRow B 75 5 ev s.es.length (Je s.es)∧w.ownsRow B 9 1 rv s.rd.length (Jq s.rd)
set_option maxRecDepth 8000 in
theorem JhM (w:World) (ev rv v:Value) (s:Sh) (l:List En) (he:Jh w ev s.es.length 5 (Je s.es)) (hr:Jh w rv s.rd.length 1 (Jq s.rd)) (hv:Jh w v l.length 5 (Je l)) (hf: ∀ x∈s.es,Xh x) (hfl: ∀ x∈l,Xh x) (hM:JW w) (h0:Ye s l=0):
  Calls Tryz.prog 41 #[.agg #[ev,rv],v] w fun e w'=> ∃ ev' rv',e=.returned (.tuple #[.agg #[ev',rv'],.int .i64 (Ql (Qy s.es l) s.es),.int .i64 0])∧Jcz w' w.heap.size ev' rv' ⟨Qy s.es l,s.rd⟩∧Jb [] w w':=by
 obtain ⟨hc1,hc2,hc3⟩:=Jf9 h0;obtain ⟨hso,hon⟩:=Jga hc1;obtain ⟨hp1,_,_,_⟩:=Xv hc1;obtain ⟨RN,hRN⟩: ∃ R,Ql (Qy s.es l) s.es=R:=⟨_,rfl⟩;rw [hRN];have HRN:=Ja hRN;obtain ⟨es,rd⟩:=s;simp only at he hr hf;obtain ⟨eo,ec,rfl,g1,g2⟩:=he.form;obtain ⟨ro,rc,rfl,g3,g4⟩:=hr.form;obtain ⟨lo,lc,rfl,g5,g6⟩:=hv.form;have nn: ∀ g,g∉([]:List Nat):=fun _=>List.not_mem_nil;obtain ⟨W,hW⟩: ∃ W,(w.alloc (.cells #[.slice eo es.length ec,.slice ro rd.length rc] 64)).alloc (.cells #[.slice none 0 0,.slice none 0 0] 64)=W:=⟨_,rfl⟩;have hkW:Jb [] w W:=by rw [←hW];exact ((Jb.refl [] w).alloc _).alloc _
 have hb0:W.heap[w.heap.size]?=some (.cells #[.slice eo es.length ec,.slice ro rd.length rc] 64 (0,0)):=by rw [←hW];exact Yi w _ _
 have hb1:W.heap[w.heap.size+1]?=some (.cells #[.slice none 0 0,.slice none 0 0] 64 (0,0)):=by rw [←hW];exact Yj w _ _
 have b0:W.cell? ⟨w.heap.size,0,none⟩=some (.slice eo es.length ec):=Jd hb0 0;have b1:W.cell? ⟨w.heap.size,1,none⟩=some (.slice ro rd.length rc):=Jd hb0 1;have HB0:=Ja hb0;have HB1:=Ja hb1;have HKW:=Ja hkW;have HW:=Ja hW;unfold maxLen at g2 g4 g6;have hkp:=Ja (Jch W _ _ ⟨es,rd⟩ (he.keeps hkW) (hr.keeps hkW) hf (hM.keeps hkW (nn _)) hc1);have hcm:=Ja (fun w1 (hk:Jb [] w w1)=>Jdj w1 _ l (hv.keeps hk) hfl (hM.keeps hk (nn _)));rw [if_neg (by omega),hc3] at hcm;have hother:=Ja (fun (w1:World) (hk:Jb [] w w1) (k:Nat) (ev1 rv1:Value) (h:XT w1 W.heap.size k ev1 rv1 ⟨Qy es l,rd⟩)=>JpU w1 W.heap.size k ev1 rv1 (Qy es l) es rd _ h (he.keeps hk) (Nat.le_trans (JjG (l:=es) (m:=l) hso hon).2.2 (by omega)));simp only at HRN hp1;rw [HRN.out] at hother;have HV:=Ja hv;have HSO:=Ja hso;have HON:=Ja hon;clear he hr hv hf hfl hM h0 hc1 hc3 hkW hb0 hb1 hW hso hon hRN;go_enter Tryz.func41,Tryz.ntmps41;go_upto_region 1 with fail;rw [HW.out];go_wp2_with fail;refine hkp.out.mono ?_;rintro e w1 ⟨k,ev1,rv1,rfl,hkp1,hk1⟩;have HK1:=Ja (HKW.out.trans hk1);have HKP1:=Ja hkp1;have HB01:=Ja ((hk1.block _ (lt_of_block HB0.out) List.not_mem_nil).trans HB0.out);have HB11:=Ja ((hk1.block _ (lt_of_block HB1.out) List.not_mem_nil).trans HB1.out);have hkW1:=hk1;have HKW1:=Ja hkW1;clear hkp1 hk1 hkW1 b0 b1 hkp;go_wp2_with fail;refine (hcm.out w1 HK1.out).mono ?_;rintro e w2 ⟨rfl,hk2⟩;have HK2:=Ja (HKW1.out.trans hk2);have HKP2:=Ja (HKP1.out.keepsNil hk2);clear hk2;go_wp2_with fail;go_loopw [26] (fun i wr=> ∃ (j:Nat) (ev':Value),j≤l.length∧i=.int .i64 j∧XT wr W.heap.size k ev' rv1 ⟨XF es (l.take j),rd⟩∧Jb [] W wr) (fun i _=>l.length - (intOf i).toNat)
 case atStart=>exact ⟨0,_,Nat.zero_le _,rfl,HKP2.out,HK2.out⟩
 case round=>
  obtain ⟨j,ev',hj,rfl,hkpr,hkw⟩:=hrel;by_cases hlt:j<l.length
  ·have hstep:=JnC es l j hlt;obtain ⟨hs1,ho1⟩:=JdD (l.take j) es HSO.out HON.out;have hln:=Jds (l.take j) es;rw [List.length_take] at hln;obtain ⟨g,o0,rfl,hc⟩:=(HV.out.keeps (HKW.out.trans hkw)).addr (by omega);obtain ⟨a0,a1,a2,a3,a4⟩:=Qs hc j hlt;have HST:=Ja hstep;clear hc hstep;generalize XF es (l.take j)=E1 at *;generalize l[j]=x at *;obtain ⟨WE,hWE⟩: ∃ WE,wr.alloc (.cells #[.string ⟨x.id.toArray⟩,.string ⟨x.title.toArray⟩,.string ⟨x.link.toArray⟩,.int .i64 x.tm,.string ⟨x.html.toArray⟩] 75)=WE:=⟨_,rfl⟩;have hkN:Jb [] wr WE:=by rw [←hWE];exact (Jb.refl [] wr).alloc _
   have hbx:=(Qb rfl hWE).1;have HKR:=Ja (hkw.trans hkN);have HWE:=Ja hWE;have d0:WE.cell? ⟨wr.heap.size,0,none⟩=some (.string ⟨x.id.toArray⟩):=Jd hbx 0;have d1:WE.cell? ⟨wr.heap.size,1,none⟩=some (.string ⟨x.title.toArray⟩):=Jd hbx 1;have d2:WE.cell? ⟨wr.heap.size,2,none⟩=some (.string ⟨x.link.toArray⟩):=Jd hbx 2;have d3:WE.cell? ⟨wr.heap.size,3,none⟩=some (.int .i64 x.tm):=Jd hbx 3;have d4:WE.cell? ⟨wr.heap.size,4,none⟩=some (.string ⟨x.html.toArray⟩):=Jd hbx 4;have hkpE:=hkpr.keepsNil hkN;have hge:=hkpE.ge;have hput:=Ja (Jty WE W.heap.size k ev' rv1 E1 rd x hkpE hs1 ho1 (by omega));unfold Jo at hput;have HGE:=Ja hge;clear hkN hWE hbx hkw hkpr hkpE hge hs1 ho1;go_upto_region 9 with fail;rw [HWE.out];go_wp2_with fail;refine hput.out.mono ?_;rintro e w3 ⟨rfl,ev3,hkp3,hst3⟩;have HK3:=Ja ((HKR.out.up.trans hst3.1).mono (T:=[]) (fun g hg hlt=>by have:=(HGE.out g hg).1;omega));have HKP3:=Ja hkp3;clear hst3 hkp3 d0 d1 d2 d3 d4 a0 a1 a2 a3 a4;go_wp2_with fail;go_roundw
   case rel=>exact ⟨j+1,ev3,by omega,by go_num,by rw [HST.out];exact HKP3.out,HK3.out⟩
   case measure=>simp [intOf];omega
  ·have hke:l.take j=l:=List.take_of_length_le (by omega);rw [hke] at hkpr;have hln:=Jds l es;have hcut:=Ja (Jtj wr W.heap.size k ev' rv1 (XF es l) rd hkpr (by omega));rw [show (XF es l).take 20=Qy es l from rfl] at hcut;have hge:=hkpr.ge;go_wp2_with fail;refine hcut.out.mono ?_;rintro e w3 ⟨rfl,ev3,hkp3,hst3⟩;have hk3:=((hkw.up.trans hst3.1).mono (T:=[]) (fun g hg hlt=>by have:=(hge g hg).1;omega));have hb03:=(hk3.block _ (lt_of_block HB0.out) List.not_mem_nil).trans HB0.out;have hb13:=(hk3.block _ (lt_of_block HB1.out) List.not_mem_nil).trans HB1.out;have hot:=Ja (fun w4 (hk4:Jb [] w3 w4)=>hother.out w4 (HKW.out.trans (hk3.trans hk4)) k ev3 rv1 (hkp3.keepsNil hk4));obtain ⟨o3,c3,hv3⟩:=Jg hkp3.es;obtain ⟨o4,c4,hv4⟩:=Jg hkp3.rd;subst hv3 hv4;have x0:=Jd hkp3.blk 0;have x1:=Jd hkp3.blk 1;simp at x0 x1;have y0:=Jd hb03 0;simp at y0;have HKP3:=Ja hkp3;have HK3:=Ja hk3;have HB13:=Ja hb13;have hkB:=hkp3.hb;have hBl:=lt_of_block HB1.out;clear hst3 hkp3 hkpr hcut hge hkw hk3 hb03 hb13 hother hke hln;go_upto_region 12 with fail
   go_region_law (refine Xg rfl 120 _ _ rfl JoM #[.pointer (some ⟨k,0,none⟩),.slice eo es.length ec] (by first | (simp [Act.eval];done) | (simp [Act.eval,Act.put];done)) (hot.out _ (by first | exact Jb.refl _ _ | exact (Jb.refl _ _).drew)) ?_;rintro e w7 ⟨rfl,hk7⟩;refine ⟨_,rfl,?_⟩;have hk37:Jb [] w3 w7:=(by first | exact hk7 | exact ((Jb.refl _ _).drew).trans hk7);have hb17:=(hk37.block _ (lt_of_block HB13.out) List.not_mem_nil).trans HB13.out;have z0:=Jd hb17 0;have z1:=Jd hb17 1;have q0:=Jn hb17 0;have q1:=Jn hb17 1;have x07:=Jc hk37 x0;have x17:=Jc hk37 x1;simp at z0 z1)
   all_goals go_wp2_with fail
   all_goals
    have hkp9:=HKP3.out.keepsNil hk37;have hks:=Qx w7 (w.heap.size+1) (.slice o3 (Qy es l).length c3) (.slice o4 rd.length c4);have hne: ∀ g,g∈tK k (Value.slice o3 (Qy es l).length c3) (Value.slice o4 rd.length c4)→g≠w.heap.size+1:=fun g hg=>by have:=(hkp9.ge g hg).1;omega
    have hown:Jcz ((w7.setCell ⟨w.heap.size+1,0,none⟩ (.slice o3 (Qy es l).length c3)).setCell ⟨w.heap.size+1,1,none⟩ (.slice o4 rd.length c4)) w.heap.size (.slice o3 (Qy es l).length c3) (.slice o4 rd.length c4) ⟨Qy es l,rd⟩:=
     ⟨Yx (hks.owns hkp9.es (fun g hg hm=>hne g (by simp [tK,hg]) (by simpa using hm))) (by have:=HKW.out.size;omega),Yx (hks.owns hkp9.rd (fun g hg hm=>hne g (by simp [tK,hg]) (by simpa using hm))) (by have:=HKW.out.size;omega)⟩
    exact ⟨rfl,_,Jad (P:=Tryz.prog) rfl _ _ (w.heap.size+1) 64 _ (0,0) _ rfl (QV _ _ hb17) Tryz.underlying64 rfl (by kernel_rfl),_,_,rfl,hown,JF (HKW.out.trans (HK3.out.trans hk37)) hks (fun g hg hlt=>by simp at hg;omega)⟩
set_option maxRecDepth 8000 in
theorem Jp6 (w:World) (ev rv v:Value) (s:Sh) (l:List En) (he:Jh w ev s.es.length 5 (Je s.es)) (hr:Jh w rv s.rd.length 1 (Jq s.rd)) (hv:Jh w v l.length 5 (Je l)) (hf: ∀ x∈s.es,Xh x) (hfl: ∀ x∈l,Xh x) (hM:JW w) (h0:Ye s l≠0):
  Calls Tryz.prog 41 #[.agg #[ev,rv],v] w fun e w'=>e=.returned (.tuple #[.agg #[.slice none 0 0,.slice none 0 0],.int .i64 0,.int .i64 (Ye s l)])∧Jb [] w w':=by
 obtain ⟨C,hC⟩: ∃ C,Ye s l=C:=⟨_,rfl⟩;rw [hC] at h0 ⊢;unfold Ye at hC;have hne:(C != 0)=true:=by simpa using h0
 have hne2:(C==0)=false:=by simpa using h0
 obtain ⟨es,rd⟩:=s;simp only at he hr hf;obtain ⟨eo,ec,rfl,g1,g2⟩:=he.form;obtain ⟨ro,rc,rfl,g3,g4⟩:=hr.form;obtain ⟨lo,lc,rfl,g5,g6⟩:=hv.form;have nn: ∀ g,g∉([]:List Nat):=fun _=>List.not_mem_nil;obtain ⟨W,hW⟩: ∃ W,(w.alloc (.cells #[.slice eo es.length ec,.slice ro rd.length rc] 64)).alloc (.cells #[.slice none 0 0,.slice none 0 0] 64)=W:=⟨_,rfl⟩;have hkW:Jb [] w W:=by rw [←hW];exact ((Jb.refl [] w).alloc _).alloc _
 have hb0:W.heap[w.heap.size]?=some (.cells #[.slice eo es.length ec,.slice ro rd.length rc] 64 (0,0)):=by rw [←hW];exact Yi w _ _
 have hb1:W.heap[w.heap.size+1]?=some (.cells #[.slice none 0 0,.slice none 0 0] 64 (0,0)):=by rw [←hW];exact Yj w _ _
 have b0:W.cell? ⟨w.heap.size,0,none⟩=some (.slice eo es.length ec):=Jd hb0 0;have b1:W.cell? ⟨w.heap.size,1,none⟩=some (.slice ro rd.length rc):=Jd hb0 1;have HB0:=Ja hb0;have HB1:=Ja hb1;have HKW:=Ja hkW;have HW:=Ja hW;unfold maxLen at g2 g4 g6;have hcm:=Ja (fun w1 (hk:Jb [] w w1)=>Jdj w1 _ l (hv.keeps hk) hfl (hM.keeps hk (nn _)));by_cases hc1:J7 ⟨es,rd⟩=0
 ·rw [if_neg (by simpa using hc1)] at hC;rw [hC] at hcm;have hkp:=Ja (Jch W _ _ ⟨es,rd⟩ (he.keeps hkW) (hr.keeps hkW) hf (hM.keeps hkW (nn _)) hc1);clear he hr hv hf hfl hM h0 hkW hb0 hb1 hW hc1 hC;go_enter Tryz.func41,Tryz.ntmps41;go_upto_region 1 with fail;rw [HW.out];go_wp2_with fail;refine hkp.out.mono ?_;rintro e w1 ⟨k,ev1,rv1,rfl,hkp1,hk1⟩;have HK1:=Ja (HKW.out.trans hk1);have HB11:=Ja ((hk1.block _ (lt_of_block HB1.out) List.not_mem_nil).trans HB1.out);clear hkp1 hk1 b0 b1 hkp;go_wp2_with fail;refine (hcm.out w1 HK1.out).mono ?_;rintro e w2 ⟨rfl,hk2⟩;have hb12:=(hk2.block _ (lt_of_block HB11.out) List.not_mem_nil).trans HB11.out;have z0:=Jd hb12 0;have z1:=Jd hb12 1;have q0:=Jn hb12 0;have q1:=Jn hb12 1;simp at z0 z1;have HB12:=Ja hb12;have HK2:=Ja (HK1.out.trans hk2);clear hk2 hb12;go_wp2_with fail;exact ⟨rfl,_,Jad (P:=Tryz.prog) rfl _ _ (w.heap.size+1) 64 _ (0,0) _ rfl (QV _ _ HB12.out) Tryz.underlying64 rfl (by kernel_rfl),rfl,JF HK2.out (Qx _ _ _ _) (fun g hg hlt=>by simp at hg;omega)⟩
 ·rw [if_pos hc1] at hC;have hkp:=Ja (JgK W _ _ ⟨es,rd⟩ (he.keeps hkW) (hr.keeps hkW) hf (hM.keeps hkW (nn _)) hc1);rw [hC] at hkp;clear he hr hv hf hfl hM h0 hkW hb0 hb1 hW hc1 hC hcm;go_enter Tryz.func41,Tryz.ntmps41;go_upto_region 1 with fail;rw [HW.out];go_wp2_with fail;refine hkp.out.mono ?_;rintro e w2 ⟨rfl,hk2⟩;have hb12:=(hk2.block _ (lt_of_block HB1.out) List.not_mem_nil).trans HB1.out;have z0:=Jd hb12 0;have z1:=Jd hb12 1;have q0:=Jn hb12 0;have q1:=Jn hb12 1;simp at z0 z1;have HB12:=Ja hb12;have HK2:=Ja (HKW.out.trans hk2);clear hk2 hb12;go_wp2_with fail;exact ⟨rfl,_,Jad (P:=Tryz.prog) rfl _ _ (w.heap.size+1) 64 _ (0,0) _ rfl (QV _ _ HB12.out) Tryz.underlying64 rfl (by kernel_rfl),rfl,JF HK2.out (Qx _ _ _ _) (fun g hg hlt=>by simp at hg;omega)⟩
theorem JmN (w:World) (B i j:Nat) (v:Value) (l:List (List UInt8)) (h:w.ownsRow B 9 1 v l.length (Jq l)) (hij:i≤j) (hj:j≤l.length) (h0:0<l.length):
  Calls Tryz.prog 199 #[v,.int .i64 i,.int .i64 j] w fun e w'=> ∃ v',e=.returned v'∧w'.ownsRow B 9 1 v' (l.take i++l.drop j).length (Jq (l.take i++l.drop j))∧Jb v.ownBlock.toList w w'∧v'.ownBlock=v.ownBlock:=by
 have hlen:(l.take i++l.drop j).length=l.length - (j - i):=by simp;omega
 rcases h.2 with ⟨rfl,h9⟩ | ⟨g,cap,cur,rfl,hBg,hg,hnc,hcap,hcs,htake⟩
 ·omega
 ·refine (Jju w g cap l.length i j cur l hg rfl hnc hcs htake hij hj).mono ?_;rintro e w' ⟨rfl,cur',hg',hcs',ht',hk⟩;exact ⟨_,rfl,⟨Z5 _,.inr ⟨g,cap,cur',by rw [hlen],hBg,hg',by omega,hcap,hcs',by rw [hlen];exact ht'⟩⟩,hk,rfl⟩
theorem Jl9 (l:List (List UInt8)) (x:List UInt8):Jfp l x=l.take (QM l x)++x::l.drop (QM l x):=by
 rw [Jk7,Jk6];rfl
theorem Jrq (l:List (List UInt8)) (x:List UInt8):(Jfp l x).length=l.length+1:=by
 rw [Jl9];have:=JeW l x;simp;omega
theorem Jlo {l:List (List UInt8)} (h:Yt l) {i:Nat} (hi:i<l.length) {id:List UInt8} (hid:l[i]=id):l.filter (fun z=> !(z==id))=l.take i++l.drop (i+1):=by
 have hne: ∀ (a b:Nat) (ha:a<l.length) (hb:b<l.length),a≠b→l[a]≠l[b]:=fun a b ha hb hab e=>by
  rcases Nat.lt_or_gt_of_ne hab with h1 | h1
  ·have:=List.pairwise_iff_getElem.1 h a b ha hb h1;rw [e,Xq] at this;cases this
  ·have:=List.pairwise_iff_getElem.1 h b a hb ha h1;rw [e,Xq] at this;cases this
 have e:l=l.take i++l[i]::l.drop (i+1):=by rw [←List.drop_eq_getElem_cons hi,List.take_append_drop]
 conv=>lhs;rw [e]
 rw [List.filter_append,List.filter_cons];have h1:(l.take i).filter (fun z=> !(z==id))=l.take i:=List.filter_eq_self.2 (fun y hy=>by
  obtain ⟨j,hj,rfl⟩:=List.getElem_of_mem hy;rw [List.length_take] at hj;have:=hne j i (by omega) hi (by omega);rw [List.getElem_take];rw [hid] at this;simpa using this)
 have h2:(l.drop (i+1)).filter (fun z=> !(z==id))=l.drop (i+1):=List.filter_eq_self.2 (fun y hy=>by
  obtain ⟨j,hj,rfl⟩:=List.getElem_of_mem hy;rw [List.length_drop] at hj;have:=hne (i+1+j) i (by omega) hi (by omega);rw [List.getElem_drop];rw [hid] at this;simpa using this)
 rw [h1,h2,hid];simp
theorem JpH {l:List (List UInt8)} {x:List UInt8} (h:x∉l):XE l x false=l:=by
 unfold XE;rw [if_neg (by simp)];exact List.filter_eq_self.2 (fun y hy=>by
  have:y≠x:=fun e=>h (e ▸ hy);simpa using this)
set_option maxRecDepth 8000 in
theorem Jme (w:World) (B k:Nat) (ev rv:Value) (es:List En) (rd:List (List UInt8)) (id:List UInt8) (read:Bool) (h:XT w B k ev rv ⟨es,rd⟩) (hs:Yt rd) (hl:rd.length≤900):
  Calls Tryz.prog 122 #[.pointer (some ⟨k,0,none⟩),.string ⟨id.toArray⟩,.bool read] w fun e w'=>e=.returned (.tuple #[])∧ ∃ rv',XT w' B k ev rv' ⟨es,XE rd id read⟩∧Stp w (tK k ev rv) w' (tK k ev rv'):=by
 have hrd:=h.rd;simp only at hrd;obtain ⟨ro,rc,rfl⟩:=Jg hrd;have c1:=Jd h.blk 1;simp at c1;have hsr:=Ja (JeO w _ rd id (Jh.of_row hrd) hs (by omega));have hm:=JeW rd id;have hmem:=Jg2 hs id;have HH:=Ja h;have hBl:B≤w.heap.size:=Nat.le_trans h.hb (Nat.le_of_lt h.lt);cases read
 ·by_cases hin:id∈rd
  ·obtain ⟨hk,he⟩:=hmem.1 hin;have hmk:XE rd id false=rd.take (QM rd id)++rd.drop (QM rd id+1):=by
    unfold XE;rw [if_neg (by simp)];exact Jlo hs hk he
   have hdl:=Ja (JmN w B (QM rd id) (QM rd id+1) _ rd hrd (by omega) (by omega) (by omega));rw [←hmk,show ((QM rd id+1:Nat):Int)=(QM rd id:Int)+1 from by omega] at hdl;rw [decide_eq_true hin] at hsr;have hwi:IntKind.i64.wrap ((QM rd id:Int)+1)=(QM rd id:Int)+1:=by rw [IntKind.wrap_i64];omega
   clear hmem he hmk hin h hs;obtain ⟨E2,hE2⟩: ∃ E2,XE rd id false=E2:=⟨_,rfl⟩;rw [hE2] at hdl ⊢;clear hE2;generalize QM rd id=m at *;clear hrd;go_enter Tryz.func122,Tryz.ntmps122;go_wp2_with fail;refine hsr.out.mono ?_;rintro e w2 ⟨rfl,h9⟩;subst h9;go_wp2_with fail;refine hdl.out.mono ?_;rintro e w7 ⟨v7,rfl,ho7,hk7,hw7⟩;obtain ⟨o7,c7,rfl⟩:=Jg ho7;have hb7:=(hk7.block k HH.out.lt (fun hm9=>Jt HH.out.rd HH.out.blk (by decide) (by simpa using hm9))).trans HH.out.blk;have x7:=Jd hb7 1;have y7:=Jn hb7 1;simp at x7;go_wp2_with fail
   go_end0
   have hfin:=Jma (rd':=E2) HH.out hk7 ho7 (.inl hw7);exact ⟨rfl,_,hfin.1,hfin.2⟩
  ·rw [JpH hin];rw [decide_eq_false hin] at hsr;clear hmem hin h hs hrd;go_enter Tryz.func122,Tryz.ntmps122;go_wp2_with fail;refine hsr.out.mono ?_;rintro e w2 ⟨rfl,h9⟩;subst h9;go_wp2_with fail
   go_end0
   exact ⟨rfl,_,HH.out,Stp.refl _ _⟩
 ·by_cases hin:id∈rd
  ·have hmk:XE rd id true=rd:=by unfold XE;rw [if_pos rfl,if_pos hin]
   rw [hmk];rw [decide_eq_true hin] at hsr;clear hmem hin h hs hrd hmk;go_enter Tryz.func122,Tryz.ntmps122;go_wp2_with fail;refine hsr.out.mono ?_;rintro e w2 ⟨rfl,h9⟩;subst h9;go_wp2_with fail
   go_end0
   exact ⟨rfl,_,HH.out,Stp.refl _ _⟩
  ·have hmk:XE rd id true=Jfp rd id:=by unfold XE;rw [if_pos rfl,if_neg hin]
   rw [hmk];rw [decide_eq_false hin] at hsr;obtain ⟨W,hW⟩: ∃ W,w.alloc (.cells #[.string ⟨id.toArray⟩] 9)=W:=⟨_,rfl⟩;have hkW:Jb [] w W:=by rw [←hW];exact (Jb.refl [] w).alloc _
   have hbW:W.heap[w.heap.size]?=some (.cells (Jq [id]).toArray 9 (0,0)):=(Qb rfl hW).1;have hins:=Ja (Jjx W B (QM rd id) _ rd id w.heap.size (hkW.owns hrd (fun _ _=>List.not_mem_nil)) hm (by omega) hbW (fun e=>by have:=(hrd.lt _ e).2;omega) (Nat.le_trans hBl hkW.size));rw [←Jl9] at hins;have HKW:=Ja hkW;have HW:=Ja hW;have hIl:=Jrq rd id;clear hmem hin h hs hmk hkW hbW hW hrd;obtain ⟨E2,hE2⟩: ∃ E2,Jfp rd id=E2:=⟨_,rfl⟩;rw [hE2] at hins hIl ⊢;clear hE2;generalize QM rd id=m at *;go_enter Tryz.func122,Tryz.ntmps122;go_wp2_with fail;refine hsr.out.mono ?_;rintro e w2 ⟨rfl,h9⟩;subst h9;go_wp2_with fail;rw [HW.out];refine hins.out.mono ?_;rintro e w7 ⟨v7,rfl,ho7,hk7,hw7⟩;obtain ⟨o7,c7,rfl⟩:=Jg ho7;have hkpW:=HH.out.keepsNil HKW.out;have hb7:=(hk7.block k hkpW.lt (fun hm9=>Jt hkpW.rd hkpW.blk (by decide) (by simpa using hm9))).trans hkpW.blk;have x7:=Jd hb7 1;have y7:=Jn hb7 1;simp at x7;go_wp2_with fail
   go_end0
   have hfin:=Jma (rd':=E2) hkpW hk7 (by rw [hIl];exact ho7) (hw7.imp (fun e=>e) (fun e=>⟨_,e,Nat.le_refl _⟩));exact ⟨rfl,_,hfin.1,(Stp.nil HKW.out _).trans hfin.2⟩
def XM (s:Sh) (id:List UInt8) (read:Bool):Int:=if J7 s≠0 then J7 s else if YO id s.es<0 then 5 else if 40<(XE s.rd id read).length then 2 else 0
set_option maxRecDepth 8000 in
theorem Jgo (w:World) (ev rv:Value) (s:Sh) (id:List UInt8) (read:Bool) (he:Jh w ev s.es.length 5 (Je s.es)) (hr:Jh w rv s.rd.length 1 (Jq s.rd)) (hf: ∀ x∈s.es,Xh x) (hM:JW w) (h0:XM s id read=0):
  Calls Tryz.prog 42 #[.agg #[ev,rv],.string ⟨id.toArray⟩,.bool read] w fun e w'=> ∃ ev' rv',e=.returned (.tuple #[.agg #[ev',rv'],.int .i64 0])∧Jcz w' w.heap.size ev' rv' ⟨s.es,XE s.rd id read⟩∧Jb [] w w':=by
 have hc1:J7 s=0:=by
  unfold XM at h0;split at h0
  ·rename_i h1;exact absurd h0 h1
  ·rename_i h1;simpa using h1
 have hrd:=JdX hc1;obtain ⟨_,hp2,_,_⟩:=Xv hc1;unfold XM at h0;rw [if_neg (by simpa using hc1)] at h0;obtain ⟨es,rd⟩:=s;simp only at he hr hf;obtain ⟨eo,ec,rfl,g1,g2⟩:=he.form;obtain ⟨ro,rc,rfl,g3,g4⟩:=hr.form;have nn: ∀ g,g∉([]:List Nat):=fun _=>List.not_mem_nil;obtain ⟨W,hW⟩: ∃ W,(w.alloc (.cells #[.slice eo es.length ec,.slice ro rd.length rc] 64)).alloc (.cells #[.slice none 0 0,.slice none 0 0] 64)=W:=⟨_,rfl⟩;have hkW:Jb [] w W:=by rw [←hW];exact ((Jb.refl [] w).alloc _).alloc _
 have hb0:W.heap[w.heap.size]?=some (.cells #[.slice eo es.length ec,.slice ro rd.length rc] 64 (0,0)):=by rw [←hW];exact Yi w _ _
 have hb1:W.heap[w.heap.size+1]?=some (.cells #[.slice none 0 0,.slice none 0 0] 64 (0,0)):=by rw [←hW];exact Yj w _ _
 have b0:W.cell? ⟨w.heap.size,0,none⟩=some (.slice eo es.length ec):=Jd hb0 0;have b1:W.cell? ⟨w.heap.size,1,none⟩=some (.slice ro rd.length rc):=Jd hb0 1;have HB0:=Ja hb0;have HB1:=Ja hb1;have HKW:=Ja hkW;have HW:=Ja hW;unfold maxLen at g2 g4;simp only at h0 hp2 hrd;by_cases hix:YO id es<0
 ·rw [if_pos hix] at h0;simp at h0
 rw [if_neg hix] at h0;by_cases h40:40<(XE rd id read).length
 ·rw [if_pos h40] at h0;simp at h0
 have hkp:=Ja (Jch W _ _ ⟨es,rd⟩ (he.keeps hkW) (hr.keeps hkW) hf (hM.keeps hkW (nn _)) hc1);have hdx:decide (YO id es<0)=false:=decide_eq_false hix;have hdl:decide ((40:Int)<((XE rd id read).length:Int))=false:=decide_eq_false (by omega);have hpl:=Ja (fun w1 k ev1 rv1 (h:XT w1 W.heap.size k ev1 rv1 ⟨es,rd⟩)=>Jfx w1 W.heap.size k ev1 rv1 ⟨es,rd⟩ id h);have hmk:=Ja (fun w1 k ev1 rv1 (h:XT w1 W.heap.size k ev1 rv1 ⟨es,rd⟩)=>Jme w1 W.heap.size k ev1 rv1 es rd id read h hrd (by omega));simp only at hpl;generalize YO id es=ix at *;generalize XE rd id read=MK at *;clear he hr hf hM h0 hc1 hkW hb0 hb1 hW hix hrd;go_enter Tryz.func42,Tryz.ntmps42;go_upto_region 1 with fail;rw [HW.out];go_wp2_with fail;refine hkp.out.mono ?_;rintro e w1 ⟨k,ev1,rv1,rfl,hkp1,hk1⟩;have HK1:=Ja hk1;have HKP1:=Ja hkp1;clear hkp1 hk1 b0 b1 hkp;go_wp2_with fail;refine (hpl.out w1 k ev1 rv1 HKP1.out).mono ?_;rintro e w2 ⟨rfl,hk2⟩;have HK2:=Ja (HK1.out.trans hk2);have HKP2:=Ja (HKP1.out.keepsNil hk2);clear hk2;go_wp2_with fail;refine (hmk.out w2 k ev1 rv1 HKP2.out).mono ?_;rintro e w3 ⟨rfl,rv3,hkp3,hst3⟩;have hge:=HKP2.out.ge;have hk3:=((HK2.out.up.trans hst3.1).mono (T:=[]) (fun g hg hlt=>by have:=(hge g hg).1;omega));have hb13:=(hk3.block _ (lt_of_block HB1.out) List.not_mem_nil).trans HB1.out;obtain ⟨o3,c3,hv3⟩:=Jg hkp3.es;obtain ⟨o4,c4,hv4⟩:=Jg hkp3.rd;subst hv3 hv4;simp only at hkp3;have x0:=Jd hkp3.blk 0;have x1:=Jd hkp3.blk 1;simp at x0 x1;have z0:=Jd hb13 0;have z1:=Jd hb13 1;have q0:=Jn hb13 0;have q1:=Jn hb13 1;simp at z0 z1;have HKP3:=Ja hkp3;have HK3:=Ja hk3;have HB13:=Ja hb13;have hkB:=hkp3.hb;have hBl:=lt_of_block HB1.out;have hks:=Ja (Qx w3 (w.heap.size+1) (.slice o3 es.length c3) (.slice o4 MK.length c4));have hne:=Ja (fun g (hg:g∈tK k (Value.slice o3 es.length c3) (Value.slice o4 MK.length c4))=>show g≠w.heap.size+1 from by have:=(hkp3.ge g hg).1;omega);clear hst3 hkp3 hge hk3 hb13;go_wp2_with fail
 exact ⟨rfl,_,Q9 (P:=Tryz.prog) rfl _ _ (w.heap.size+1) 64 _ (0,0) _ rfl (QV _ _ HB13.out) Tryz.underlying64 rfl (by kernel_rfl),_,_,rfl,
  ⟨Yx (hks.out.owns HKP3.out.es (fun g hg hm=>hne.out g (by simp [tK,hg]) (by simpa using hm))) (by have:=HKW.out.size;omega),Yx (hks.out.owns HKP3.out.rd (fun g hg hm=>hne.out g (by simp [tK,hg]) (by simpa using hm))) (by have:=HKW.out.size;omega)⟩,
  JF (HKW.out.trans HK3.out) hks.out (fun g hg hlt=>by simp at hg;omega)⟩
set_option maxRecDepth 8000 in
theorem Jnc (w:World) (ev rv:Value) (s:Sh) (id:List UInt8) (read:Bool) (he:Jh w ev s.es.length 5 (Je s.es)) (hr:Jh w rv s.rd.length 1 (Jq s.rd)) (hf: ∀ x∈s.es,Xh x) (hM:JW w) (h0:XM s id read≠0):
  Calls Tryz.prog 42 #[.agg #[ev,rv],.string ⟨id.toArray⟩,.bool read] w fun e w'=>e=.returned (.tuple #[.agg #[.slice none 0 0,.slice none 0 0],.int .i64 (XM s id read)])∧Jb [] w w':=by
 obtain ⟨C,hC⟩: ∃ C,XM s id read=C:=⟨_,rfl⟩;rw [hC] at h0 ⊢;unfold XM at hC;have hne:(C != 0)=true:=by simpa using h0
 obtain ⟨es,rd⟩:=s;simp only at he hr hf;obtain ⟨eo,ec,rfl,g1,g2⟩:=he.form;obtain ⟨ro,rc,rfl,g3,g4⟩:=hr.form;have nn: ∀ g,g∉([]:List Nat):=fun _=>List.not_mem_nil;obtain ⟨W,hW⟩: ∃ W,(w.alloc (.cells #[.slice eo es.length ec,.slice ro rd.length rc] 64)).alloc (.cells #[.slice none 0 0,.slice none 0 0] 64)=W:=⟨_,rfl⟩;have hkW:Jb [] w W:=by rw [←hW];exact ((Jb.refl [] w).alloc _).alloc _
 have hb0:W.heap[w.heap.size]?=some (.cells #[.slice eo es.length ec,.slice ro rd.length rc] 64 (0,0)):=by rw [←hW];exact Yi w _ _
 have hb1:W.heap[w.heap.size+1]?=some (.cells #[.slice none 0 0,.slice none 0 0] 64 (0,0)):=by rw [←hW];exact Yj w _ _
 have b0:W.cell? ⟨w.heap.size,0,none⟩=some (.slice eo es.length ec):=Jd hb0 0;have b1:W.cell? ⟨w.heap.size,1,none⟩=some (.slice ro rd.length rc):=Jd hb0 1;have HB0:=Ja hb0;have HB1:=Ja hb1;have HKW:=Ja hkW;have HW:=Ja hW;unfold maxLen at g2 g4;by_cases hc1:J7 ⟨es,rd⟩=0
 ·rw [if_neg (by simpa using hc1)] at hC;have hrd:=JdX hc1;obtain ⟨_,hp2,_,_⟩:=Xv hc1;simp only at hC hrd hp2;have hkp:=Ja (Jch W _ _ ⟨es,rd⟩ (he.keeps hkW) (hr.keeps hkW) hf (hM.keeps hkW (nn _)) hc1);have hpl:=Ja (fun w1 k ev1 rv1 (h:XT w1 W.heap.size k ev1 rv1 ⟨es,rd⟩)=>Jfx w1 W.heap.size k ev1 rv1 ⟨es,rd⟩ id h);have hmk:=Ja (fun w1 k ev1 rv1 (h:XT w1 W.heap.size k ev1 rv1 ⟨es,rd⟩)=>Jme w1 W.heap.size k ev1 rv1 es rd id read h hrd (by omega));simp only at hpl;generalize YO id es=ix at *;generalize XE rd id read=MK at *;by_cases hix:ix<0
  ·rw [if_pos hix] at hC;have hdx:decide (ix<0)=true:=decide_eq_true hix;subst hC;clear he hr hf hM h0 hkW hb0 hb1 hW hix hrd hc1 hmk;go_enter Tryz.func42,Tryz.ntmps42;go_upto_region 1 with fail;rw [HW.out];go_wp2_with fail;refine hkp.out.mono ?_;rintro e w1 ⟨k,ev1,rv1,rfl,hkp1,hk1⟩;have HK1:=Ja hk1;have HKP1:=Ja hkp1;clear hkp1 hk1 b0 b1 hkp;go_wp2_with fail;refine (hpl.out w1 k ev1 rv1 HKP1.out).mono ?_;rintro e w2 ⟨rfl,hk2⟩;have hk2:=HK1.out.trans hk2;have hb12:=(hk2.block _ (lt_of_block HB1.out) List.not_mem_nil).trans HB1.out;have z0:=Jd hb12 0;have z1:=Jd hb12 1;have q0:=Jn hb12 0;have q1:=Jn hb12 1;simp at z0 z1;have HB12:=Ja hb12;have HK2:=Ja (HKW.out.trans hk2);clear hk2 hb12;go_wp2_with fail;exact ⟨rfl,_,Q9 (P:=Tryz.prog) rfl _ _ (w.heap.size+1) 64 _ (0,0) _ rfl (QV _ _ HB12.out) Tryz.underlying64 rfl (by kernel_rfl),rfl,JF HK2.out (Qx _ _ _ _) (fun g hg hlt=>by simp at hg;omega)⟩
  ·rw [if_neg hix] at hC;have hdx:decide (ix<0)=false:=decide_eq_false hix;by_cases h40:40<MK.length
   ·rw [if_pos h40] at hC;have hdl:decide ((40:Int)<(MK.length:Int))=true:=decide_eq_true (by omega);subst hC;clear he hr hf hM h0 hkW hb0 hb1 hW hix hrd hc1 h40;go_enter Tryz.func42,Tryz.ntmps42;go_upto_region 1 with fail;rw [HW.out];go_wp2_with fail;refine hkp.out.mono ?_;rintro e w1 ⟨k,ev1,rv1,rfl,hkp1,hk1⟩;have HK1:=Ja hk1;have HKP1:=Ja hkp1;clear hkp1 hk1 b0 b1 hkp;go_wp2_with fail;refine (hpl.out w1 k ev1 rv1 HKP1.out).mono ?_;rintro e w2 ⟨rfl,hk2⟩;have HK2:=Ja (HK1.out.trans hk2);have HKP2:=Ja (HKP1.out.keepsNil hk2);clear hk2;go_wp2_with fail;refine (hmk.out w2 k ev1 rv1 HKP2.out).mono ?_;rintro e w3 ⟨rfl,rv3,hkp3,hst3⟩;have hge:=HKP2.out.ge;have hk2:=((HK2.out.up.trans hst3.1).mono (T:=[]) (fun g hg hlt=>by have:=(hge g hg).1;omega));obtain ⟨o4,c4,hv4⟩:=Jg hkp3.rd;subst hv4;simp only at hkp3;have x1:=Jd hkp3.blk 1;simp at x1;clear hst3 hkp3 hge;have hb12:=(hk2.block _ (lt_of_block HB1.out) List.not_mem_nil).trans HB1.out;have z0:=Jd hb12 0;have z1:=Jd hb12 1;have q0:=Jn hb12 0;have q1:=Jn hb12 1;simp at z0 z1;have HB12:=Ja hb12;have HK2:=Ja (HKW.out.trans hk2);clear hk2 hb12;go_wp2_with fail;exact ⟨rfl,_,Q9 (P:=Tryz.prog) rfl _ _ (w.heap.size+1) 64 _ (0,0) _ rfl (QV _ _ HB12.out) Tryz.underlying64 rfl (by kernel_rfl),rfl,JF HK2.out (Qx _ _ _ _) (fun g hg hlt=>by simp at hg;omega)⟩
   ·rw [if_neg h40] at hC;exact absurd hC.symm h0
 ·rw [if_pos hc1] at hC;have hkp:=Ja (JgK W _ _ ⟨es,rd⟩ (he.keeps hkW) (hr.keeps hkW) hf (hM.keeps hkW (nn _)) hc1);rw [hC] at hkp;clear he hr hf hM h0 hkW hb0 hb1 hW hc1 hC;go_enter Tryz.func42,Tryz.ntmps42;go_upto_region 1 with fail;rw [HW.out];go_wp2_with fail;refine hkp.out.mono ?_;rintro e w2 ⟨rfl,hk2⟩;have hb12:=(hk2.block _ (lt_of_block HB1.out) List.not_mem_nil).trans HB1.out;have z0:=Jd hb12 0;have z1:=Jd hb12 1;have q0:=Jn hb12 0;have q1:=Jn hb12 1;simp at z0 z1;have HB12:=Ja hb12;have HK2:=Ja (HKW.out.trans hk2);clear hk2 hb12;go_wp2_with fail;exact ⟨rfl,_,Q9 (P:=Tryz.prog) rfl _ _ (w.heap.size+1) 64 _ (0,0) _ rfl (QV _ _ HB12.out) Tryz.underlying64 rfl (by kernel_rfl),rfl,JF HK2.out (Qx _ _ _ _) (fun g hg hlt=>by simp at hg;omega)⟩
theorem JoX:Jy 197:=JC Tryz.func197 (by kernel_rfl) (by kernel_rfl)
theorem JiH:Jy 124:=JC Tryz.func124 (by kernel_rfl) (by kernel_rfl)
structure JcU (w:World) (k:Nat) (rv:Value) (rd:List (List UInt8)):Prop where
 cell:w.cell? ⟨k,1,none⟩=some rv
 ids:Jh w rv rd.length 1 (Jq rd)
theorem JcU.keeps {w w':World} {k:Nat} {rv:Value} {rd:List (List UInt8)} (h:JcU w k rv rd) (hk:Jb [] w w'):JcU w' k rv rd:=⟨Jc hk h.cell,h.ids.keeps hk⟩
set_option maxRecDepth 8000 in
theorem Jgv (x:En) (w:World) (k:Nat) (rv:Value) (rd:List (List UInt8)) (h:JcU w k rv rd) (hs:Yt rd) (hl:rd.length≤900):
  Calls Tryz.prog 124 #[.pointer (some ⟨k,0,none⟩),.agg (Jo x).toArray] w fun e w'=>e=.returned (.bool (decide (x.id∈rd)))∧Jb [] w w':=by
 obtain ⟨W,hW⟩: ∃ W,w.alloc (.cells (Jo x).toArray 75)=W:=⟨_,rfl⟩;have hkW:Jb [] w W:=by rw [←hW];exact (Jb.refl [] w).alloc _
 have hb:=(Qb rfl hW).1;have b0:W.cell? ⟨w.heap.size,0,none⟩=some (.string ⟨x.id.toArray⟩):=Jd hb 0;obtain ⟨ro,rc,rfl,g1,g2⟩:=h.ids.form;have c1:=(h.keeps hkW).cell;have hsr:=Ja (fun w1 (hk1:Jb [] W w1)=>JeO w1 _ rd x.id ((h.ids.keeps hkW).keeps hk1) hs (by omega));have HKW:=Ja hkW;have HW:=Ja hW;generalize decide (x.id∈rd)=R at *;clear hkW hb hW h hs;go_enter Tryz.func124,Tryz.ntmps124;go_upto_region 1 with fail;rw [HW.out]
 go_region_law (refine Xg rfl 197 _ _ rfl JoX #[.slice ro rd.length rc,.string ⟨x.id.toArray⟩] (by first | (simp [Act.eval];done) | (simp [Act.eval,Act.put];done)) (hsr.out _ (by first | exact Jb.refl _ _ | exact (Jb.refl _ _).drew)) ?_;rintro e w7 ⟨rfl,h7⟩;refine ⟨_,rfl,?_⟩;subst h7)
 all_goals go_wp2_with fail
 all_goals go_ret
 all_goals exact ⟨rfl,by first | exact HKW.out.drew | exact HKW.out⟩
def Jc4 (rd:List (List UInt8)):List En→Nat→Int
 | [],_=> -1
 | x::r,k=>if x.id∈rd then (k:Int) else Jc4 rd r (k+1)
theorem Jpp (rd:List (List UInt8)) (l:List En) (k:Nat) (hk:k<l.length):Jc4 rd (l.drop k) k=if l[k].id∈rd then (k:Int) else Jc4 rd (l.drop (k+1)) (k+1):=by
 rw [List.drop_eq_getElem_cons hk];rfl
theorem Jhs (rd:List (List UInt8)): ∀ (l:List En) (k:Nat),(Jc4 rd l k= -1∧ ∀ y∈l,y.id∉rd)∨ ∃ i, ∃ hi:i<l.length,Jc4 rd l k=((k+i:Nat):Int)∧l[i].id∈rd∧ ∀ y∈l.take i,y.id∉rd
 | [],_=>.inl ⟨rfl,by simp⟩
 | x::r,k=>by
   unfold Jc4;by_cases h:x.id∈rd
   ·rw [if_pos h];exact .inr ⟨0,by simp,by simp,h,by simp⟩
   ·rw [if_neg h];rcases Jhs rd r (k+1) with ⟨h1,h2⟩ | ⟨i,hi,h1,h2,h3⟩
    ·exact .inl ⟨h1,fun y hy=>by rcases List.mem_cons.1 hy with rfl | hy;exact h;exact h2 y hy⟩
    ·exact .inr ⟨i+1,by simp;omega,by rw [h1];congr 1;omega,by simpa using h2,fun y hy=>by
      rw [List.take_succ_cons] at hy;rcases List.mem_cons.1 hy with rfl | hy
      ·exact h
      ·exact h3 y hy⟩
set_option maxRecDepth 8000 in
theorem Jgi (k:Nat) (w:World) (v:Value) (l:List En) (rv:Value) (rd:List (List UInt8)) (hv:Jh w v l.length 5 (Je l)) (hr:JcU w k rv rd) (hs:Yt rd) (hl:rd.length≤900):
  Calls Tryz.prog 195 #[v,.func (.func 124) #[.pointer (some ⟨k,0,none⟩)] #[]] w fun e w'=>e=.returned (.int .i64 (Jc4 rd l 0))∧Jb [] w w':=by
 have hE:=JiH;unfold Jy at hE;obtain ⟨o,c,rfl,h1,h2⟩:=hv.form;unfold maxLen at h2;obtain ⟨R,hR⟩: ∃ R,Jc4 rd l 0=R:=⟨_,rfl⟩;rw [hR];have HR:=Ja hR;have HV:=Ja hv;have HP:=Ja hr;have HS:=Ja hs;clear hR hv hr hs;go_enter Tryz.func195,Tryz.ntmps195;go_wp2_with fail;go_loopw [8] (fun i wr=> ∃ k:Nat,k≤l.length∧i=.int .i64 k∧Jb [] w wr∧Hid (Jc4 rd (l.drop k) k=R)) (fun i _=>l.length - (intOf i).toNat)
 case atStart=>exact ⟨0,Nat.zero_le _,rfl,Jb.refl _ _,HR⟩
 case round=>
  obtain ⟨j,hj,rfl,hkw,hC⟩:=hrel;clear HR;by_cases hlt:j<l.length
  ·have hC1:=hC.out;rw [Jpp rd l j hlt] at hC1;obtain ⟨g,o0,rfl,hc⟩:=(HV.out.keeps hkw).addr (by omega);obtain ⟨a0,a1,a2,a3,a4⟩:=Qs hc j hlt;have HC1:=Ja hC1;have hcall:=Ja (Jgv l[j] wr k rv rd (HP.out.keeps hkw) HS.out hl);unfold Jo at hcall;clear hC hC1 hc;generalize l[j]=x at *;by_cases hx:x.id∈rd
   ·have hRk:R=(j:Int):=by rw [←HC1.out];simp [hx]
    rw [decide_eq_true hx] at hcall;subst hRk;clear HC1 hx;go_wp2_with fail;refine hcall.out.mono ?_;rintro e w3 ⟨rfl,hk3⟩;go_wp2_with fail;go_ret;exact ⟨rfl,hkw.trans hk3⟩
   ·have HC2:Hid (Jc4 rd (l.drop (j+1)) (j+1)=R):=Ja (by have:=HC1.out;simpa [hx] using this);rw [decide_eq_false hx] at hcall;clear HC1 hx;go_wp2_with fail;refine hcall.out.mono ?_;rintro e w3 ⟨rfl,hk3⟩;have HK3:=Ja (hkw.trans hk3);clear hk3 a0 a1 a2 a3 a4;go_wp2_with fail;go_roundw
    case rel=>exact ⟨j+1,by omega,by go_num,HK3.out,HC2⟩
    case measure=>simp [intOf];omega
  ·have hRR:R= -1:=by
    rw [←hC.out,List.drop_eq_nil_of_le (by omega)];rfl
   subst hRR;go_wp2_with fail;go_ret;exact ⟨rfl,hkw⟩
theorem Jqr {l:List Value} {o:Nat} {v0 v1 v2 v3 v4:Value} (h:o+5≤l.length):((((l.set o v0).set (o+1) v1).set (o+2) v2).set (o+3) v3).set (o+4) v4=l.take o++[v0,v1,v2,v3,v4]++l.drop (o+5):=by
 obtain ⟨A,x0,x1,x2,x3,x4,C,rfl,hA⟩: ∃ A x0 x1 x2 x3 x4 C,l=A++x0::x1::x2::x3::x4::C∧A.length=o:=by
  refine ⟨l.take o,l[o],l[o+1],l[o+2],l[o+3],l[o+4],l.drop (o+5),?_,by simp;omega⟩;rw [←List.drop_eq_getElem_cons (by omega), ←List.drop_eq_getElem_cons (by omega), ←List.drop_eq_getElem_cons (by omega), ←List.drop_eq_getElem_cons (by omega), ←List.drop_eq_getElem_cons (by omega),List.take_append_drop]
 subst hA;rw [List.take_left,List.drop_append,List.drop_eq_nil_of_le (by omega)];simp
theorem JrX {W:World} {g o:Nat} {cur:Array Value} {t:TypeId} (v0 v1 v2 v3 v4:Value) (hb:W.heap[g]?=some (.cells cur t (0,0))) (h:o+5≤cur.size):
  (((((W.setCell ⟨g,o,none⟩ v0).setCell ⟨g,o+1,none⟩ v1).setCell ⟨g,o+2,none⟩ v2).setCell ⟨g,o+3,none⟩ v3).setCell ⟨g,o+4,none⟩ v4).heap[g]?=some (.cells (QC cur o [v0,v1,v2,v3,v4]) t (0,0)):=by
 have e:((((cur.setIfInBounds o v0).setIfInBounds (o+1) v1).setIfInBounds (o+2) v2).setIfInBounds (o+3) v3).setIfInBounds (o+4) v4=QC cur o [v0,v1,v2,v3,v4]:=by
  apply Array.ext';simp only [Array.toList_setIfInBounds,QC];exact Jqr (by simpa using h)
 rw [←e];simp [World.setCell,Array.getElem?_modify,hb]
theorem JnI (W:World) (g o:Nat) (v0 v1 v2 v3 v4:Value):Jb [g] W (((((W.setCell ⟨g,o,none⟩ v0).setCell ⟨g,o+1,none⟩ v1).setCell ⟨g,o+2,none⟩ v2).setCell ⟨g,o+3,none⟩ v3).setCell ⟨g,o+4,none⟩ v4):=
 (((((Jb.refl [g] W).setCell (.inl (by simp)) _).setCell (.inl (by simp)) _).setCell (.inl (by simp)) _).setCell (.inl (by simp)) _).setCell (.inl (by simp)) _
theorem Jgu (rd:List (List UInt8)) (l:List En) (k:Nat) (hk:k<l.length):JS (l.take (k+1)) rd=JS (l.take k) rd++if l[k].id∈rd then [] else [l[k]]:=by
 unfold JS;rw [List.take_succ_eq_append_getElem hk,List.filter_append]
 congr 1
 by_cases h:l[k].id∈rd
 ·simp [h]
 ·simp [h]
theorem Jh4 {rd:List (List UInt8)} {l:List En} (h: ∀ y∈l,y.id∉rd):JS l rd=l:=by
 unfold JS;exact List.filter_eq_self.2 (fun y hy=>by simpa using h y hy)
theorem JpC {cur:Array Value} {off t:Nat} {cs:List Value} (h:off+cs.length≤cur.size) (ht:off+cs.length≤t):(QC cur off cs).toList[t]?=cur.toList[t]?:=by
 simp only [QC];rw [List.getElem?_append_right (by simp;omega),List.getElem?_drop]
 congr 1
 simp;omega
set_option maxRecDepth 8000 in
theorem Jj4 (w:World) (g cap n k:Nat) (cur:Array Value) (l:List En) (rv:Value) (rd:List (List UInt8)) (hg:w.heap[g]?=some (.cells cur 75 (0,0))) (hn:l.length=n) (hnc:n≤cap) (hcap:cap≤maxLen) (hcs:cur.size=cap * 5) (htake:cur.toList.take (n * 5)=Je l)
  (hr: ∀ W,Jb [g] w W→JcU W k rv rd) (hs:Yt rd) (hl:rd.length≤900):
  Calls Tryz.prog 123 #[.slice (some ⟨g,0,none⟩) n cap,.func (.func 124) #[.pointer (some ⟨k,0,none⟩)] #[]] w fun e w'=>e=.returned (.slice (some ⟨g,0,none⟩) (JS l rd).length cap)∧ ∃ cur',w'.heap[g]?=some (.cells cur' 75 (0,0))∧cur'.size=cap * 5∧cur'.toList.take ((JS l rd).length * 5)=Je (JS l rd)∧Jb [g] w w':=by
 have hE:=JiH;unfold Jy at hE;obtain ⟨i0,hi,hz0,hz1,hz2⟩:=info_parts Jcf;have hv: ∀ w,(zeroValue 75).run Tryz.prog w=.ok (.agg #[.string ⟨#[]⟩,.string ⟨#[]⟩,.string ⟨#[]⟩,.int .i64 0,.string ⟨#[]⟩]) w:=fun w=>by simp [zeroValue,typeInfo,hi,hz0]
 have hcell0: ∀ t u,(Je l)[t]?=some u→cur.toList[t]?=some u:=fun t u hu=>by
  rw [←htake,List.getElem?_take] at hu;split at hu
  ·exact hu
  ·cases hu
 have hlies:Jh w (.slice (some ⟨g,0,none⟩) n cap) l.length 5 (Je l):=⟨Qu l,.inr (.inl ⟨g,0,cap,by rw [hn],by omega,hcap,fun t u hu=>by
  rw [Nat.zero_add,cell_of_row w g t cur 75 (0,0) hg];simpa using hcell0 t u hu⟩)⟩
 have hix:=Ja (Jgi k w _ l rv rd hlies (hr w (Jb.refl _ _)) hs hl);unfold maxLen at hcap;rcases Jhs rd l 0 with ⟨hidx,hno⟩ | ⟨j0,hj0,hidx,hin,hpre⟩
 ·rw [hidx] at hix;have hall:=Jh4 hno;rw [hall,hn];have HFIN:=Ja (And.intro hg (And.intro hcs htake));clear hr hs hg htake hcs hlies hcell0 hv hno hidx hall;go_enter Tryz.func123,Tryz.ntmps123;go_wp2_with fail;refine hix.out.mono ?_;rintro e w1 ⟨rfl,hk1⟩;go_wp2_with fail;go_ret;exact ⟨rfl,cur,(hk1.block _ (lt_of_block HFIN.out.1) List.not_mem_nil).trans HFIN.out.1,HFIN.out.2.1,HFIN.out.2.2,hk1.to (by simp)⟩
 ·rw [hidx,Nat.zero_add] at hix;have hpr0:JS (l.take j0) rd=l.take j0:=Jh4 hpre;have hpr1:JS (l.take (j0+1)) rd=l.take j0:=by rw [Jgu rd l j0 hj0,if_pos hin,hpr0,List.append_nil]
  have hstart:cur.toList.take (j0 * 5)=Je (l.take j0):=by rw [←ZH l j0, ←htake,List.take_take,Nat.min_eq_left (by omega)]
  have hw0:IntKind.i64.wrap ((j0:Int)+1)=(j0:Int)+1:=by rw [IntKind.wrap_i64];omega
  have hne1:((j0:Int)== -1)=false:=beq_eq_false_iff_ne.2 (by omega);have HG:=Ja hg;have HR:=Ja hr;have HS:=Ja hs;have HC0:=Ja hcell0;have HST:=Ja hstart;have HP1:=Ja hpr1;have HV:=Ja hv;have HCS:=Ja hcs;obtain ⟨UL,hUL⟩: ∃ UL,JS l rd=UL:=⟨_,rfl⟩;rw [hUL];have HUL:=Ja hUL;clear hr hs hg htake hcs hlies hcell0 hv hidx hpre hpr0 hpr1 hstart hUL;go_enter Tryz.func123,Tryz.ntmps123;go_wp2_with fail;refine hix.out.mono ?_;rintro e w1 ⟨rfl,hk1⟩;have HK1:=Ja hk1;clear hk1 hix;go_wp2_with fail;go_loopw [5,6] (fun a b wr=> ∃ (i j:Nat) (cr:Array Value),a=.int .i64 i∧b=.int .i64 j∧j≤n∧i<j∧wr.heap[g]?=some (.cells cr 75 (0,0))∧cr.size=cap * 5∧Hid (i=(JS (l.take j) rd).length∧cr.toList.take (i * 5)=Je (JS (l.take j) rd))∧Hid (∀ t u,j * 5≤t→(Je l)[t]?=some u→cr.toList[t]?=some u)∧Jb [g] w wr) (fun _ b _=>n - (intOf b).toNat)
  case atStart=>exact ⟨j0,j0+1,cur,rfl,by go_num,by omega,by omega,(HK1.out.block _ (lt_of_block HG.out) List.not_mem_nil).trans HG.out,HCS.out,Ja ⟨by rw [HP1.out,List.length_take];omega,by rw [HP1.out];exact HST.out⟩,Ja (fun t u _ hu=>HC0.out t u hu),HK1.out.to (by simp)⟩
  case round=>
   obtain ⟨i,j,cr,rfl,rfl,hj,hij,hgr,hcr,hH,hF,hkw⟩:=hrel;by_cases hlt:j<n
   ·have hjl:j<l.length:=by omega
    have hU:=Jgu rd l j hjl;have hcj: ∀ c u,c<5→(Jo l[j])[c]?=some u→wr.cell? ⟨g,j * 5+c,none⟩=some u:=fun c u hc hu=>by
     rw [cell_of_row wr g _ cr 75 (0,0) hgr];have:=hF.out (j * 5+c) u (by omega) (by rw [Jd3 l j c hjl hc];exact hu);simpa using this
    have a0:=hcj 0 _ (by omega) rfl;have a1:=hcj 1 _ (by omega) rfl;have a2:=hcj 2 _ (by omega) rfl;have a3:=hcj 3 _ (by omega) rfl;have a4:=hcj 4 _ (by omega) rfl;rw [Nat.add_zero] at a0;have hin0:(0:Int)≤(j:Int):=by omega
    have hin1:(j:Int)<(n:Int):=by omega
    have hii0:(0:Int)≤(i:Int):=by omega
    have hii1:(i:Int)<(n:Int):=by omega
    have HU:=Ja hU;clear hU hcj;have hpred:=Ja (fun W (hk:Jb [] wr W)=>Jgv l[j] W k rv rd (HR.out W (hkw.trans (hk.to (by simp)))) HS.out hl);unfold Jo at hpred;generalize l[j]=x at *;obtain ⟨WE,hWE⟩: ∃ WE,wr.alloc (.cells #[.string ⟨x.id.toArray⟩,.string ⟨x.title.toArray⟩,.string ⟨x.link.toArray⟩,.int .i64 x.tm,.string ⟨x.html.toArray⟩] 75)=WE:=⟨_,rfl⟩;have hkN:Jb [] wr WE:=by rw [←hWE];exact (Jb.refl [] wr).alloc _
    have hbx:=(Qb rfl hWE).1;have HKN:=Ja hkN;have HBX:=Ja hbx;have HWE:=Ja hWE;have HGR:=Ja hgr;have HKW:=Ja hkw;have d0:WE.cell? ⟨wr.heap.size,0,none⟩=some (.string ⟨x.id.toArray⟩):=Jd hbx 0;have d1:WE.cell? ⟨wr.heap.size,1,none⟩=some (.string ⟨x.title.toArray⟩):=Jd hbx 1;have d2:WE.cell? ⟨wr.heap.size,2,none⟩=some (.string ⟨x.link.toArray⟩):=Jd hbx 2;have d3:WE.cell? ⟨wr.heap.size,3,none⟩=some (.int .i64 x.tm):=Jd hbx 3;have d4:WE.cell? ⟨wr.heap.size,4,none⟩=some (.string ⟨x.html.toArray⟩):=Jd hbx 4;clear hkN hWE hbx hgr hkw;by_cases hx:x.id∈rd
    ·have HU2:Hid (JS (l.take (j+1)) rd=JS (l.take j) rd):=Ja (by have:=HU.out;rwa [if_pos hx,List.append_nil] at this);rw [decide_eq_true hx] at hpred;clear HU hx;go_upto_region 8 with fail;rw [HWE.out];go_wp2_with fail;refine (hpred.out WE HKN.out).mono ?_;rintro e w3 ⟨rfl,hk3⟩;have HK3:=Ja (HKN.out.trans hk3);clear hk3 d0 d1 d2 d3 d4 a0 a1 a2 a3 a4;go_wp2_with fail;go_roundw
     case rel=>exact ⟨i,j+1,cr,rfl,by go_num,by omega,by omega,(HK3.out.block _ (lt_of_block HGR.out) List.not_mem_nil).trans HGR.out,hcr,by rw [HU2.out];exact hH,Ja (fun t u ht hu=>hF.out t u (by omega) hu),HKW.out.trans (HK3.out.to (by simp))⟩
     case measure=>simp [intOf];omega
    ·have HU2:Hid (JS (l.take (j+1)) rd=JS (l.take j) rd++[x]):=Ja (by have:=HU.out;rwa [if_neg hx] at this);rw [decide_eq_false hx] at hpred;clear HU hx;have hcx: ∀ c,c<5→ ∃ u,cr[i * 5+c]?=some u:=fun c hc=>⟨_,Array.getElem?_eq_getElem (by omega)⟩;obtain ⟨u0,hu0⟩:=hcx 0 (by omega);obtain ⟨u1,hu1⟩:=hcx 1 (by omega);obtain ⟨u2,hu2⟩:=hcx 2 (by omega);obtain ⟨u3,hu3⟩:=hcx 3 (by omega);obtain ⟨u4,hu4⟩:=hcx 4 (by omega);go_upto_region 8 with fail;rw [HWE.out];go_wp2_with fail;refine (hpred.out WE HKN.out).mono ?_;rintro e w3 ⟨rfl,hk3⟩;have HK3:=Ja (HKN.out.trans hk3);have hg3:=(HK3.out.block _ (lt_of_block HGR.out) List.not_mem_nil).trans HGR.out;have e0:w3.cell? ⟨wr.heap.size,0,none⟩=some (.string ⟨x.id.toArray⟩):=Jz hk3 HBX.out 0;have e1:w3.cell? ⟨wr.heap.size,1,none⟩=some (.string ⟨x.title.toArray⟩):=Jz hk3 HBX.out 1;have e2:w3.cell? ⟨wr.heap.size,2,none⟩=some (.string ⟨x.link.toArray⟩):=Jz hk3 HBX.out 2;have e3:w3.cell? ⟨wr.heap.size,3,none⟩=some (.int .i64 x.tm):=Jz hk3 HBX.out 3;have e4:w3.cell? ⟨wr.heap.size,4,none⟩=some (.string ⟨x.html.toArray⟩):=Jz hk3 HBX.out 4;have s0:w3.cell? ⟨g,i * 5,none⟩=some u0:=by rw [cell_of_row w3 g _ cr 75 (0,0) hg3];exact hu0
     have s1:w3.cell? ⟨g,i * 5+1,none⟩=some u1:=by rw [cell_of_row w3 g _ cr 75 (0,0) hg3];exact hu1
     have s2:w3.cell? ⟨g,i * 5+2,none⟩=some u2:=by rw [cell_of_row w3 g _ cr 75 (0,0) hg3];exact hu2
     have s3:w3.cell? ⟨g,i * 5+3,none⟩=some u3:=by rw [cell_of_row w3 g _ cr 75 (0,0) hg3];exact hu3
     have s4:w3.cell? ⟨g,i * 5+4,none⟩=some u4:=by rw [cell_of_row w3 g _ cr 75 (0,0) hg3];exact hu4
     have f0:=Jn hg3 (i * 5);have f1:=Jn hg3 (i * 5+1);have f2:=Jn hg3 (i * 5+2);have f3:=Jn hg3 (i * 5+3);have f4:=Jn hg3 (i * 5+4);have HG3:=Ja hg3;clear hk3 d0 d1 d2 d3 d4 a0 a1 a2 a3 a4 hg3 hu0 hu1 hu2 hu3 hu4 hcx;go_wp2_with fail;go_roundw
     case rel=>
      have hfit:i * 5+[Value.string ⟨x.id.toArray⟩,.string ⟨x.title.toArray⟩,.string ⟨x.link.toArray⟩,.int .i64 x.tm,.string ⟨x.html.toArray⟩].length≤cr.size:=by simp;omega
      refine ⟨i+1,j+1,_,by go_num,by go_num,by omega,by omega,JrX _ _ _ _ _ HG3.out (by omega),by rw [Xk hfit];exact hcr,Ja ⟨by rw [HU2.out,List.length_append, ←hH.out.1];rfl,?_⟩,Ja (fun t u ht hu=>?_),(HKW.out.trans (HK3.out.to (by simp))).trans (JnI _ _ _ _ _ _ _ _)⟩
      ·rw [HU2.out,XH, ←hH.out.2];exact Zt hfit (by simp;omega)
      ·rw [JpC hfit (by simp;omega)];exact hF.out t u (by omega) hu
     case measure=>simp [intOf];omega
   ·have hjn:j=n:=by omega
    subst hjn;have hke:l.take j=l:=List.take_of_length_le (by omega);have hHH:=hH.out;rw [hke,HUL.out] at hHH;obtain ⟨hi1,hi2⟩:=hHH;subst hi1;have hcl: ∀ ty,(Builtin.clear_ #[61] ty #[.slice (some ⟨g,UL.length * 5,none⟩) (j - UL.length) (cap - UL.length)]).run Tryz.prog wr=.ok (.tuple #[]) (wr.setRow g (QC cr (UL.length * 5) (Builtin.zeroCells (.agg #[.string ⟨#[]⟩,.string ⟨#[]⟩,.string ⟨#[]⟩,.int .i64 0,.string ⟨#[]⟩]:Value).cells (j - UL.length)).toList)):=
     fun ty=>Jcu wr 61 75 ty _ Tryz.underlying61 HV.out (by intro u hu;simp [Value.cells] at hu;rcases hu with rfl | rfl | rfl | rfl | rfl<;>rfl) g (UL.length * 5) _ _ cr 75 hgr (by omega) (by rw [hcr];show _+_ * 5≤_;omega)
    have hf2:UL.length * 5+(Builtin.zeroCells (.agg #[.string ⟨#[]⟩,.string ⟨#[]⟩,.string ⟨#[]⟩,.int .i64 0,.string ⟨#[]⟩]:Value).cells (j - UL.length)).toList.length≤cr.size:=by rw [X9,hcr];show _+_ * 5≤_;omega
    obtain ⟨cur2,hcur2⟩: ∃ cur2,QC cr (UL.length * 5) (Builtin.zeroCells (.agg #[.string ⟨#[]⟩,.string ⟨#[]⟩,.string ⟨#[]⟩,.int .i64 0,.string ⟨#[]⟩]:Value).cells (j - UL.length)).toList=cur2:=⟨_,rfl⟩;rw [hcur2] at hcl;have HF2:=Ja (show cur2.size=cap * 5∧cur2.toList.take (UL.length * 5)=Je UL from ⟨by rw [←hcur2,Xk hf2,hcr],by rw [←hcur2,JcG hf2 (Nat.le_refl _)];exact hi2⟩);have HG2:=Ja (Q6 hgr cur2);have hc3: ¬ cap=UL.length:=by omega
    have hul:UL.length≤cap:=by omega
    have hul2:UL.length≤j:=by omega
    have HKW:=Ja hkw;clear hcur2 hf2 hi2 hgr hkw hH hF hke;go_wp2_with fail;go_ret;exact ⟨rfl,cur2,HG2.out,HF2.out.1,HF2.out.2,HKW.out.trans (QW _ _ _)⟩
theorem Jlk (w:World) (k:Nat) (rv:Value) (rd:List (List UInt8)) (hr:JcU w k rv rd) (hs:Yt rd) (hl:rd.length≤900):
  Calls Tryz.prog 123 #[.slice none 0 0,.func (.func 124) #[.pointer (some ⟨k,0,none⟩)] #[]] w fun e w'=>e=.returned (.slice none 0 0)∧Jb [] w w':=by
 have hix:=Ja (Jgi k w (.slice none 0 0) [] rv rd ⟨rfl,.inl ⟨rfl,rfl⟩⟩ hr hs hl);rw [show Jc4 rd [] 0= -1 from rfl] at hix;clear hr hs;go_enter Tryz.func123,Tryz.ntmps123;go_wp2_with fail;refine hix.out.mono ?_;rintro e w1 ⟨rfl,hk1⟩;go_wp2_with fail;go_ret;exact ⟨rfl,hk1⟩
theorem Jll (w:World) (B k:Nat) (v rv:Value) (l:List En) (rd:List (List UInt8)) (h:w.ownsRow B 75 5 v l.length (Je l)) (hr: ∀ W,Jb v.ownBlock.toList w W→JcU W k rv rd) (hs:Yt rd) (hl:rd.length≤900):
  Calls Tryz.prog 123 #[v,.func (.func 124) #[.pointer (some ⟨k,0,none⟩)] #[]] w fun e w'=> ∃ v',e=.returned v'∧w'.ownsRow B 75 5 v' (JS l rd).length (Je (JS l rd))∧Jb v.ownBlock.toList w w'∧v'.ownBlock=v.ownBlock:=by
 rcases h.2 with ⟨rfl,h0⟩ | ⟨g,cap,cur,rfl,hBg,hg,hnc,hcap,hcs,htake⟩
 ·have hl0:l=[]:=List.eq_nil_of_length_eq_zero h0;subst hl0;refine (Jlk w k rv rd (hr w (Jb.refl _ _)) hs hl).mono ?_;rintro e w' ⟨rfl,hk⟩;exact ⟨_,rfl,World.ownsRow_nil _ _ _ _,hk.to (by simp),rfl⟩
 ·refine (Jj4 w g cap l.length k cur l rv rd hg rfl hnc hcap hcs htake hr hs hl).mono ?_;rintro e w' ⟨rfl,cur',hg',hcs',ht',hk⟩;have hle:(JS l rd).length≤l.length:=List.length_filter_le _ _;exact ⟨_,rfl,⟨Qu _,.inr ⟨g,cap,cur',rfl,hBg,hg',by omega,hcap,hcs',ht'⟩⟩,hk,rfl⟩
theorem JcU.of {w w':World} {B k:Nat} {ev rv:Value} {s:Sh} (h:XT w B k ev rv s) (hk:Jb ev.ownBlock.toList w w'):JcU w' k rv s.rd:=
 ⟨Jd ((hk.block k h.lt (fun hm=>Jt h.es h.blk (by decide) (by simpa using hm))).trans h.blk) 1,Jh.of_row (hk.owns h.rd (fun g hg hm=>Qk h.rd h.es (by decide) hg (by simpa using hm)))⟩
set_option maxRecDepth 8000 in
theorem Jdy (w:World) (ev rv:Value) (s:Sh) (he:Jh w ev s.es.length 5 (Je s.es)) (hr:Jh w rv s.rd.length 1 (Jq s.rd)) (hf: ∀ x∈s.es,Xh x) (hM:JW w) (h0:J7 s=0):
  Calls Tryz.prog 43 #[.agg #[ev,rv]] w fun e w'=> ∃ ev' rv',e=.returned (.tuple #[.agg #[ev',rv'],.int .i64 ((s.es.length:Int) - ((JS s.es s.rd).length:Int)),.int .i64 0])∧Jcz w' w.heap.size ev' rv' ⟨JS s.es s.rd,s.rd⟩∧Jb [] w w':=by
 have hc1:=h0;have hrd:=JdX hc1;obtain ⟨hp1,hp2,_,_⟩:=Xv hc1;obtain ⟨es,rd⟩:=s;simp only at he hr hf;obtain ⟨eo,ec,rfl,g1,g2⟩:=he.form;obtain ⟨ro,rc,rfl,g3,g4⟩:=hr.form;have nn: ∀ g,g∉([]:List Nat):=fun _=>List.not_mem_nil;obtain ⟨W,hW⟩: ∃ W,(w.alloc (.cells #[.slice eo es.length ec,.slice ro rd.length rc] 64)).alloc (.cells #[.slice none 0 0,.slice none 0 0] 64)=W:=⟨_,rfl⟩;have hkW:Jb [] w W:=by rw [←hW];exact ((Jb.refl [] w).alloc _).alloc _
 have hb0:W.heap[w.heap.size]?=some (.cells #[.slice eo es.length ec,.slice ro rd.length rc] 64 (0,0)):=by rw [←hW];exact Yi w _ _
 have hb1:W.heap[w.heap.size+1]?=some (.cells #[.slice none 0 0,.slice none 0 0] 64 (0,0)):=by rw [←hW];exact Yj w _ _
 have b0:W.cell? ⟨w.heap.size,0,none⟩=some (.slice eo es.length ec):=Jd hb0 0;have b1:W.cell? ⟨w.heap.size,1,none⟩=some (.slice ro rd.length rc):=Jd hb0 1;have HB0:=Ja hb0;have HB1:=Ja hb1;have HKW:=Ja hkW;have HW:=Ja hW;unfold maxLen at g2 g4;simp only at hp1 hp2 hrd;have hkp:=Ja (Jch W _ _ ⟨es,rd⟩ (he.keeps hkW) (hr.keeps hkW) hf (hM.keeps hkW (nn _)) hc1);have hdf:=Ja (fun w1 k ev1 rv1 (h:XT w1 W.heap.size k ev1 rv1 ⟨es,rd⟩)=>Jll w1 W.heap.size k ev1 rv1 es rd h.es (fun W9 hk9=>JcU.of h hk9) hrd (by omega));have hul:(JS es rd).length≤es.length:=List.length_filter_le _ _;obtain ⟨UL,hUL⟩: ∃ UL,JS es rd=UL:=⟨_,rfl⟩;rw [hUL] at hdf hul ⊢;have hwi:IntKind.i64.wrap ((es.length:Int) - (UL.length:Int))=(es.length:Int) - (UL.length:Int):=by rw [IntKind.wrap_i64];omega
 have hmf: ∀ (fn:Fn) (first cap:Array Value) (w:World),(Instr.makeFunc fn first cap).run Tryz.prog w=.ok (.func fn first cap) w:=fun _ _ _ _=>rfl;clear he hr hf hM h0 hc1 hkW hb0 hb1 hW hrd hUL;go_enter Tryz.func43,Tryz.ntmps43;go_upto_region 1 with fail;rw [HW.out];go_wp2_with fail;refine hkp.out.mono ?_;rintro e w1 ⟨k,ev1,rv1,rfl,hkp1,hk1⟩;have hes1:=hkp1.es;simp only at hes1;obtain ⟨o1,c1,hv1⟩:=Jg hes1;subst hv1;have x0:=Jd hkp1.blk 0;simp at x0;have HK1:=Ja hk1;have HKP1:=Ja hkp1;clear hkp1 hk1 hkp hes1 b1;go_wp2_with fail;refine (hdf.out w1 k _ rv1 HKP1.out).mono ?_;rintro e w2 ⟨v2,rfl,ho2,hk2,hw2⟩;obtain ⟨o2,c2,rfl⟩:=Jg ho2;have hb2:=(hk2.block k HKP1.out.lt (fun hm9=>Jt HKP1.out.es HKP1.out.blk (by decide) (by simpa using hm9))).trans HKP1.out.blk;have y0:=Jd hb2 0;have f0:=Jn hb2 0;simp at y0;have hfin:=JdL (es':=UL) HKP1.out hk2 ho2 (.inl hw2);obtain ⟨W3,hW3⟩: ∃ W3,w2.setCell ⟨k,0,none⟩ (.slice o2 UL.length c2)=W3:=⟨_,rfl⟩;rw [hW3] at hfin;obtain ⟨hkp3,hst3⟩:=hfin;have hge:=HKP1.out.ge;have hk3:=((HK1.out.up.trans hst3.1).mono (T:=[]) (fun g hg hlt=>by have:=(hge g hg).1;omega));have hb03:=(hk3.block _ (lt_of_block HB0.out) List.not_mem_nil).trans HB0.out;have hb13:=(hk3.block _ (lt_of_block HB1.out) List.not_mem_nil).trans HB1.out;obtain ⟨o4,c4,hv4⟩:=Jg hkp3.rd;subst hv4;simp only at hkp3;have m0:=Jd hkp3.blk 0;have m1:=Jd hkp3.blk 1;have n0:=Jd hb03 0;have n1:=Jd hb03 1;have z0:=Jd hb13 0;have z1:=Jd hb13 1;have q0:=Jn hb13 0;have q1:=Jn hb13 1;simp at m0 m1 n0 n1 z0 z1;have HKP3:=Ja hkp3;have HK3:=Ja hk3;have HB13:=Ja hb13;have HW3:=Ja hW3;have hkB:=hkp3.hb;have hBl:=lt_of_block HB1.out;clear hst3 hkp3 hge hk3 hb03 hb13 hW3 hb2 ho2 hk2 x0 b0;go_upto_region 5 with fail;rw [HW3.out];clear y0 f0
 go_region_law (fail)
 all_goals go_wp2_with fail
 all_goals
  have hks:=Qx W3.drew (w.heap.size+1) (.slice o2 UL.length c2) (.slice o4 rd.length c4);have hkpd:=HKP3.out.keepsNil ((Jb.refl [] W3).drew);have hne: ∀ g,g∈tK k (Value.slice o2 UL.length c2) (Value.slice o4 rd.length c4)→g≠w.heap.size+1:=fun g hg=>by have:=(hkpd.ge g hg).1;omega
  exact ⟨rfl,_,Jad (P:=Tryz.prog) rfl _ _ (w.heap.size+1) 64 _ (0,0) _ rfl (QV _ _ (show W3.drew.heap[w.heap.size+1]?=_ from HB13.out)) Tryz.underlying64 rfl (by kernel_rfl),_,_,rfl,
   ⟨Yx (hks.owns hkpd.es (fun g hg hm=>hne g (by simp [tK,hg]) (by simpa using hm))) (by have:=HKW.out.size;omega),Yx (hks.owns hkpd.rd (fun g hg hm=>hne g (by simp [tK,hg]) (by simpa using hm))) (by have:=HKW.out.size;omega)⟩,
   JF ((HKW.out.trans HK3.out).drew) hks (fun g hg hlt=>by simp at hg;omega)⟩
set_option maxRecDepth 8000 in
theorem Jhm (w:World) (ev rv:Value) (s:Sh) (he:Jh w ev s.es.length 5 (Je s.es)) (hr:Jh w rv s.rd.length 1 (Jq s.rd)) (hf: ∀ x∈s.es,Xh x) (hM:JW w) (h0:J7 s≠0):
  Calls Tryz.prog 43 #[.agg #[ev,rv]] w fun e w'=>e=.returned (.tuple #[.agg #[.slice none 0 0,.slice none 0 0],.int .i64 0,.int .i64 (J7 s)])∧Jb [] w w':=by
 have hc1:=h0;have hne:(J7 s != 0)=true:=by simpa using h0
 obtain ⟨C,hC⟩: ∃ C,J7 s=C:=⟨_,rfl⟩;rw [hC] at hne ⊢;obtain ⟨es,rd⟩:=s;simp only at he hr hf;obtain ⟨eo,ec,rfl,g1,g2⟩:=he.form;obtain ⟨ro,rc,rfl,g3,g4⟩:=hr.form;have nn: ∀ g,g∉([]:List Nat):=fun _=>List.not_mem_nil;obtain ⟨W,hW⟩: ∃ W,(w.alloc (.cells #[.slice eo es.length ec,.slice ro rd.length rc] 64)).alloc (.cells #[.slice none 0 0,.slice none 0 0] 64)=W:=⟨_,rfl⟩;have hkW:Jb [] w W:=by rw [←hW];exact ((Jb.refl [] w).alloc _).alloc _
 have hb0:W.heap[w.heap.size]?=some (.cells #[.slice eo es.length ec,.slice ro rd.length rc] 64 (0,0)):=by rw [←hW];exact Yi w _ _
 have hb1:W.heap[w.heap.size+1]?=some (.cells #[.slice none 0 0,.slice none 0 0] 64 (0,0)):=by rw [←hW];exact Yj w _ _
 have b0:W.cell? ⟨w.heap.size,0,none⟩=some (.slice eo es.length ec):=Jd hb0 0;have b1:W.cell? ⟨w.heap.size,1,none⟩=some (.slice ro rd.length rc):=Jd hb0 1;have HB0:=Ja hb0;have HB1:=Ja hb1;have HKW:=Ja hkW;have HW:=Ja hW;unfold maxLen at g2 g4;have hkp:=Ja (JgK W _ _ ⟨es,rd⟩ (he.keeps hkW) (hr.keeps hkW) hf (hM.keeps hkW (nn _)) hc1);rw [hC] at hkp;clear he hr hf hM h0 hkW hb0 hb1 hW hc1 hC;go_enter Tryz.func43,Tryz.ntmps43;go_upto_region 1 with fail;rw [HW.out];go_wp2_with fail;refine hkp.out.mono ?_;rintro e w2 ⟨rfl,hk2⟩;have hb12:=(hk2.block _ (lt_of_block HB1.out) List.not_mem_nil).trans HB1.out;have z0:=Jd hb12 0;have z1:=Jd hb12 1;have q0:=Jn hb12 0;have q1:=Jn hb12 1;simp at z0 z1;have HB12:=Ja hb12;have HK2:=Ja (HKW.out.trans hk2);clear hk2 hb12;go_wp2_with fail;exact ⟨rfl,_,Jad (P:=Tryz.prog) rfl _ _ (w.heap.size+1) 64 _ (0,0) _ rfl (QV _ _ HB12.out) Tryz.underlying64 rfl (by kernel_rfl),rfl,JF HK2.out (Qx _ _ _ _) (fun g hg hlt=>by simp at hg;omega)⟩
theorem Jcz.lies {w:World} {B:Nat} {ev rv:Value} {s:Sh} (h:Jcz w B ev rv s):Jh w ev s.es.length 5 (Je s.es)∧Jh w rv s.rd.length 1 (Jq s.rd):=⟨Jh.of_row h.1,Jh.of_row h.2⟩
set_option maxRecDepth 8000 in
theorem JeS (w:World) (ev rv:Value) (s:Sh) (he:Jh w ev s.es.length 5 (Je s.es)) (hr:Jh w rv s.rd.length 1 (Jq s.rd)) (hf: ∀ x∈s.es,Xh x) (hM:JW w) (h0:J7 s=0):
  Calls Tryz.prog 44 #[.agg #[ev,rv]] w fun e w'=> ∃ v,e=.returned (.tuple #[v,.int .i64 0])∧w'.ownsRow w.heap.size 9 1 v ((JS s.es s.rd).map (·.id)).length (Jq ((JS s.es s.rd).map (·.id)))∧Jb [] w w':=by
 obtain ⟨hp1,hp2,_,_⟩:=Xv h0;have hul:(JS s.es s.rd).length≤s.es.length:=List.length_filter_le _ _;obtain ⟨i0,hi,hz0,hz1,hz2⟩:=info_parts Jcg;have nn: ∀ g,g∉([]:List Nat):=fun _=>List.not_mem_nil;obtain ⟨eo,ec,rfl,g1,g2⟩:=he.form;obtain ⟨ro,rc,rfl,g3,g4⟩:=hr.form;obtain ⟨W,hW⟩: ∃ W,w.alloc (.cells #[.slice eo s.es.length ec,.slice ro s.rd.length rc] 64)=W:=⟨_,rfl⟩;have hkW:Jb [] w W:=by rw [←hW];exact (Jb.refl [] w).alloc _
 have hb:=(Qb rfl hW).1;have b0:W.cell? ⟨w.heap.size,0,none⟩=some (.slice eo s.es.length ec):=Jd hb 0;have b1:W.cell? ⟨w.heap.size,1,none⟩=some (.slice ro s.rd.length rc):=Jd hb 1;have hdr:=Ja (Jdy W _ _ s (he.keeps hkW) (hr.keeps hkW) hf (hM.keeps hkW (nn _)) h0);have HKW:=Ja hkW;have HW:=Ja hW;obtain ⟨l,hl⟩: ∃ l,JS s.es s.rd=l:=⟨_,rfl⟩;rw [hl] at hdr hul ⊢;clear he hr hM h0 hf hb hkW hW hl;unfold Jcz at hdr;simp only at hdr;go_enter Tryz.func44,Tryz.ntmps44;go_upto_region 1 with fail;rw [HW.out];go_wp2_with fail;refine hdr.out.mono ?_;rintro e w1 ⟨ev1,rv1,rfl,⟨hes1,hrd1⟩,hk1⟩;obtain ⟨o1,c1,rfl⟩:=Jg hes1;obtain ⟨o2,c2,rfl⟩:=Jg hrd1;obtain ⟨W2,hW2⟩: ∃ W2,w1.alloc (.cells #[.slice o1 l.length c1,.slice o2 s.rd.length c2] 64)=W2:=⟨_,rfl⟩;have hk2:Jb [] w1 W2:=by rw [←hW2];exact (Jb.refl [] w1).alloc _
 have hb2:=(Qb rfl hW2).1;have d0:W2.cell? ⟨w1.heap.size,0,none⟩=some (.slice o1 l.length c1):=Jd hb2 0;have d1:W2.cell? ⟨w1.heap.size,1,none⟩=some (.slice o2 s.rd.length c2):=Jd hb2 1;have HV:=Ja ((Jh.of_row hes1).keeps hk2);obtain ⟨_,_,e9,g5,g6⟩:=(Jh.of_row hes1).form;injection e9 with e91 e92 e93
 subst e91 e93;unfold maxLen at g6;have HK1:=Ja ((HKW.out.trans hk1).trans hk2);have HW2:=Ja hW2;clear hes1 hrd1 hk1 hk2 hb2 hW2 b0 b1 e92 hdr;go_wp2_with fail;rw [HW2.out];go_loopw [7,22] (fun v i wr=> ∃ k:Nat,k≤l.length∧i=.int .i64 k∧wr.ownsRow W2.heap.size 9 1 v ((l.take k).map (·.id)).length (Jq ((l.take k).map (·.id)))∧Jb [] W2 wr) (fun _ i _=>l.length - (intOf i).toNat)
 case atStart=>exact ⟨0,Nat.zero_le _,rfl,World.ownsRow_nil _ _ _ _,Jb.refl _ _⟩
 case round=>
  obtain ⟨k,hk,rfl,hrow,hkw2⟩:=hrel;obtain ⟨vo,vc,rfl⟩:=Jg hrow;by_cases hlt:k<l.length
  ·have hH:(l.take (k+1)).map (·.id)=(l.take k).map (·.id)++[l[k].id]:=by rw [List.take_succ_eq_append_getElem hlt,List.map_append];rfl
   have hHl:((l.take k).map (·.id)).length≤20:=by simp;omega
   obtain ⟨g,o0,rfl,hc⟩:=(HV.out.keeps hkw2).addr (by omega);obtain ⟨a0,a1,a2,a3,a4⟩:=Qs hc k hlt;have HH:=Ja hH;clear hc hH;generalize (l.take k).map (·.id)=got at *;generalize l[k]=x at *;obtain ⟨WE,hWE⟩: ∃ WE,wr.alloc (.cells #[.string ⟨x.id.toArray⟩,.string ⟨x.title.toArray⟩,.string ⟨x.link.toArray⟩,.int .i64 x.tm,.string ⟨x.html.toArray⟩] 75)=WE:=⟨_,rfl⟩;have hkN:Jb [] wr WE:=by rw [←hWE];exact (Jb.refl [] wr).alloc _
   have hbx:=(Qb rfl hWE).1;have HKR2:=Ja (hkw2.trans hkN);have hrow3:=hkN.owns hrow (fun _ _=>List.not_mem_nil);have HWE:=Ja hWE;have e0:WE.cell? ⟨wr.heap.size,0,none⟩=some (.string ⟨x.id.toArray⟩):=Jd hbx 0;have hsz3:W2.heap.size≤WE.heap.size:=HKR2.out.size;clear hkN hWE hbx hrow hkw2;go_upto_region 8 with fail;rw [HWE.out];clear a0 a1 a2 a3 a4 d0 d1;go_wp2_with (at_builtin;refine Jl _ rfl _ _ 62 rfl W2.heap.size 9 i0 _ 1 16 Tryz.underlying62 hi hz0 hz1 hz2 (by kernel_rfl) (by decide) (.slice vo got.length vc) got.length (Jq got) rfl (hrow3.alloc _) ⟨WE.heap.size,0,none⟩ 1 1 [.string ⟨x.id.toArray⟩] rfl rfl ?c1 ?c2 ?c3 ?c4 ?c5 ?_)
   case c1=>exact JcO WE x.id
   case c2=>intro u hu;simp at hu;subst hu;rfl
   case c3=>unfold maxLen;omega
   case c4=>omega
   case c5=>exact Nat.le_trans hsz3 (by simp)
   intro v4 w4 ho4 hg4 hw4;obtain ⟨o4,c4,hv4⟩:=Jg ho4;subst hv4;have hk4:Jb (Value.slice vo got.length vc).ownBlock.toList WE w4:=((Jb.refl _ WE).alloc _).grown hg4 (fun i e=>.inl (by simp [e]));have HK4:Hid (Jb [] W2 w4):=Ja ((HKR2.out.up.trans hk4).mono (fun i hi hlt=>by have:=(hrow3.lt i (by simpa using hi)).1;omega));have HO4:=Ja ho4;clear hk4 hg4 hw4 ho4;go_wp2_with fail;go_roundw
   case rel=>exact ⟨k+1,by omega,by go_num,by rw [HH.out,JaX,List.length_append];exact HO4.out,HK4.out⟩
   case measure=>simp [intOf];omega
  ·have hke:l.take k=l:=List.take_of_length_le (by omega);rw [hke] at hrow ⊢;have HR:=Ja hrow;obtain ⟨got,hgot⟩: ∃ got,l.map (·.id)=got:=⟨_,rfl⟩;have HG:=Ja hgot;rw [hgot] at HR ⊢;clear hgot hrow;go_wp2_with fail
   go_ret2
   refine ⟨_,rfl,?_,HK1.out.trans hkw2⟩;show wr.ownsRow _ 9 1 _ (l.map (·.id)).length (Jq (l.map (·.id)));rw [HG.out];exact Yx HR.out HK1.out.size
theorem Jk1 (w:World) (ev rv:Value) (s:Sh) (he:Jh w ev s.es.length 5 (Je s.es)) (hr:Jh w rv s.rd.length 1 (Jq s.rd)) (hf: ∀ x∈s.es,Xh x) (hM:JW w) (h0:J7 s≠0):
  Calls Tryz.prog 44 #[.agg #[ev,rv]] w fun e w'=>e=.returned (.tuple #[.slice none 0 0,.int .i64 (J7 s)])∧Jb [] w w':=by
 have nn: ∀ g,g∉([]:List Nat):=fun _=>List.not_mem_nil;have hne:(J7 s != 0)=true:=by simpa using h0
 obtain ⟨eo,ec,rfl,g1,g2⟩:=he.form;obtain ⟨ro,rc,rfl,g3,g4⟩:=hr.form;obtain ⟨W,hW⟩: ∃ W,w.alloc (.cells #[.slice eo s.es.length ec,.slice ro s.rd.length rc] 64)=W:=⟨_,rfl⟩;have hkW:Jb [] w W:=by rw [←hW];exact (Jb.refl [] w).alloc _
 have hb:=(Qb rfl hW).1;have b0:W.cell? ⟨w.heap.size,0,none⟩=some (.slice eo s.es.length ec):=Jd hb 0;have b1:W.cell? ⟨w.heap.size,1,none⟩=some (.slice ro s.rd.length rc):=Jd hb 1;have hdr:=Ja (Jhm W _ _ s (he.keeps hkW) (hr.keeps hkW) hf (hM.keeps hkW (nn _)) h0);have HKW:=Ja hkW;have HW:=Ja hW;generalize J7 s=C at *;clear he hr hM h0 hf hb hkW hW;go_enter Tryz.func44,Tryz.ntmps44;go_upto_region 1 with fail;rw [HW.out];go_wp2_with fail;refine hdr.out.mono ?_;rintro e w1 ⟨rfl,hk1⟩;go_wp2_with fail
 go_ret2
 exact ⟨rfl,(HKW.out.trans hk1).alloc _⟩
set_option maxRecDepth 4000 in
theorem Jcv (w:World) (va vb:Value) (la lb:List (List UInt8)) (ha:Jh w va la.length 1 (Jq la)) (hb:Jh w vb lb.length 1 (Jq lb)):
  Calls Tryz.prog 53 #[va,vb] w fun e w'=>e=.returned (.bool (decide (la=lb)))∧Jb [] w w':=by
 obtain ⟨oa,ca,rfl,ha1,ha2⟩:=ha.form;obtain ⟨ob,cb,rfl,hb1,hb2⟩:=hb.form;unfold maxLen at ha2 hb2;obtain ⟨R,hR⟩: ∃ R,decide (la=lb)=R:=⟨_,rfl⟩;rw [hR];by_cases hlen:la.length=lb.length
 ·have HR:=Ja hR;clear hR;have HL:=Ja hlen;have hn:(((la.length:Int) != (lb.length:Int)))=false:=by simp;omega
  clear hlen;go_enter Tryz.func53,Tryz.ntmps53;go_wp2_with fail;go_loopw [5] (fun i wr=> ∃ k m:Nat,k≤la.length∧i=.int .i64 k∧wr=w.drewN m∧Hid (∀ j (h1:j<la.length) (h2:j<lb.length),j<k→la[j]=lb[j])) (fun i _=>la.length - (intOf i).toNat)
  case atStart=>exact ⟨0,0,Nat.zero_le _,rfl,rfl,fun j _ _ h=>absurd h (Nat.not_lt_zero _)⟩
  case round=>
   obtain ⟨k,m,hk,rfl,rfl,hH⟩:=hrel;by_cases hlt:k<la.length
   ·obtain ⟨ga,xa,rfl,hca⟩:=ha.addr (by omega);obtain ⟨gb,xb,rfl,hcb⟩:=hb.addr (by rw [←HL.out];omega);have hltb:k<lb.length:=by rw [←HL.out];exact hlt
    have a0:=hca _ _ (ZO la k hlt);have b0:=hcb _ _ (ZO lb k hltb);clear hca hcb;by_cases hkk:la[k]=lb[k]
    ·have hcx:(la[k]==lb[k])=true:=by simpa using hkk
     have HKK:=Ja hkk;clear hkk;go_wp2_with fail
     go_quiet (fail)
     go_wp2_with fail;go_roundw
     case rel=>exact ⟨k+1,_,by omega,by go_num,rfl,fun j h1 h2 hj=>by
      rcases Nat.lt_succ_iff_lt_or_eq.1 hj with hj | rfl
      ·exact hH.out j h1 h2 hj
      ·exact HKK.out⟩
     case measure=>simp [intOf];omega
    ·have hcx:(la[k]==lb[k])=false:=by simpa using hkk
     have hRf:R=false:=by
      rw [←HR.out];have:la≠lb:=fun e=>hkk (by subst e;rfl);simpa using this
     subst hRf;clear hkk;go_wp2_with fail
     go_quiet (fail)
     go_wp2_with fail;go_ret;exact ⟨rfl,((Jb.refl [] w).drewN _).drewN _⟩
   ·have hRt:R=true:=by
     rw [←HR.out];have:la=lb:=List.ext_getElem HL.out (fun j h1 h2=>hH.out j h1 h2 (by omega));simpa using this
    subst hRt;go_wp2_with fail;go_ret;exact ⟨rfl,(Jb.refl [] w).drewN _⟩
 ·have hn:(((la.length:Int) != (lb.length:Int)))=true:=by simp;omega
  have hRf:R=false:=by
   rw [←hR];have:la≠lb:=fun e=>hlen (by rw [e]);simpa using this
  subst hRf;clear hlen hR;go_enter Tryz.func53,Tryz.ntmps53;go_wp2_with fail;go_ret;exact ⟨rfl,Jb.refl _ _⟩
def XR:Sh:=⟨[⟨[98],[78,101,119],[],9,[60,98,62,120,60,47,98,62,121]⟩,⟨[97],[],[],5,[]⟩],[[97]]⟩
theorem Jej {w W:World} {cs:Array Value} {t:TypeId} {n z:Nat} (hn:cs.toList.length=n * z) (hm:n≤maxLen) (hW:w.alloc (.cells cs t)=W):Jh W (.slice (some ⟨w.heap.size,0,none⟩) n n) n z cs.toList:=by
 refine ⟨hn,.inr (.inl ⟨w.heap.size,0,n,rfl,Nat.le_refl _,hm,fun j u hj=>?_⟩)⟩;subst hW;have:=J9 w cs t j u hj;rw [Nat.zero_add]
 rwa [ZY] at this
set_option maxRecDepth 4000 in
theorem JrN (w:World):Calls Tryz.prog 132 #[] w fun e w'=> ∃ g h,e=.returned (.agg #[.slice (some ⟨g,0,none⟩) 2 2,.slice (some ⟨h,0,none⟩) 1 1])∧Jh w' (.slice (some ⟨g,0,none⟩) 2 2) 2 5 (Je XR.es)∧Jh w' (.slice (some ⟨h,0,none⟩) 1 1) 1 1 (Jq XR.rd)∧Jb [] w w':=by
 obtain ⟨W0,hW0⟩: ∃ W,w.alloc (.cells #[.slice none 0 0,.slice none 0 0] 64)=W:=⟨_,rfl⟩;obtain ⟨W1,hW1⟩: ∃ W,W0.alloc (.cells #[.string ⟨#[98]⟩,.string ⟨#[78,101,119]⟩,.string ⟨#[]⟩,.int .i64 9,.string ⟨#[60,98,62,120,60,47,98,62,121]⟩,.string ⟨#[97]⟩,.string ⟨#[]⟩,.string ⟨#[]⟩,.int .i64 5,.string ⟨#[]⟩] 75)=W:=⟨_,rfl⟩;obtain ⟨W2,hW2⟩: ∃ W,W1.alloc (.cells #[.string ⟨#[97]⟩] 9)=W:=⟨_,rfl⟩;have k0:Jb [] w W0:=by rw [←hW0];exact (Jb.refl [] w).alloc _
 have k1:Jb [] W0 W1:=by rw [←hW1];exact (Jb.refl [] W0).alloc _
 have k2:Jb [] W1 W2:=by rw [←hW2];exact (Jb.refl [] W1).alloc _
 have hz0:=(Jd7 rfl hW0).2;have hz1:=(Jd7 rfl hW1).2;have l1:Jh W1 (.slice (some ⟨W0.heap.size,0,none⟩) 2 2) 2 5 (Je XR.es):=Jej (z:=5) rfl (by unfold maxLen;omega) hW1;have l2:Jh W2 (.slice (some ⟨W1.heap.size,0,none⟩) 1 1) 1 1 (Jq XR.rd):=Jej (z:=1) rfl (by unfold maxLen;omega) hW2;have hb0:=((k1.trans k2).block _ (lt_of_block (Jd7 rfl hW0).1) List.not_mem_nil).trans (Jd7 rfl hW0).1;have c0:W2.cell? ⟨w.heap.size,0,none⟩=some (.slice none 0 0):=Jd hb0 0;have c1:W2.cell? ⟨w.heap.size,1,none⟩=some (.slice none 0 0):=Jd hb0 1;have f0:W2.frozen? ⟨w.heap.size,0,none⟩=false:=Jn hb0 0;have f1:W2.frozen? ⟨w.heap.size,1,none⟩=false:=Jn hb0 1;obtain ⟨W3,hW3⟩: ∃ W3,(W2.setCell ⟨w.heap.size,0,none⟩ (.slice (some ⟨W0.heap.size,0,none⟩) 2 2)).setCell ⟨w.heap.size,1,none⟩ (.slice (some ⟨W1.heap.size,0,none⟩) 1 1)=W3:=⟨_,rfl⟩;have hb3:W3.heap[w.heap.size]?=some (.cells #[.slice (some ⟨W0.heap.size,0,none⟩) 2 2,.slice (some ⟨W1.heap.size,0,none⟩) 1 1] 64 (0,0)):=by rw [←hW3];simp [World.setCell,Array.getElem?_modify,hb0]
 have k3:Jb [w.heap.size] W2 W3:=by rw [←hW3];exact ((Jb.refl [w.heap.size] W2).setCell (.inl (by simp)) _).setCell (.inl (by simp)) _
 have KK:=Ja (JF ((k0.trans k1).trans k2) k3 (fun g hg hlt=>by simp at hg;omega));have L1:Hid (Jh W3 (.slice (some ⟨W0.heap.size,0,none⟩) 2 2) 2 5 (Je XR.es)):=Ja ⟨l1.1,.inr (.inl ⟨_,0,2,rfl,Nat.le_refl _,by unfold maxLen;omega,fun j u hj=>by
  obtain ⟨g,o,e,hc⟩:=(l1.keeps k2).addr (by omega);injection e with e
  injection e with e1 e2 e3
  subst e1 e2;exact JE k3 (by simp;omega) (hc j u hj)⟩)⟩
 have L2:Hid (Jh W3 (.slice (some ⟨W1.heap.size,0,none⟩) 1 1) 1 1 (Jq XR.rd)):=Ja ⟨l2.1,.inr (.inl ⟨_,0,1,rfl,Nat.le_refl _,by unfold maxLen;omega,fun j u hj=>by
  obtain ⟨g,o,e,hc⟩:=l2.addr (by omega);injection e with e
  injection e with e1 e2 e3
  subst e1 e2;exact JE k3 (by simp;omega) (hc j u hj)⟩)⟩
 have d0:W3.cell? ⟨w.heap.size,0,none⟩=some (.slice (some ⟨W0.heap.size,0,none⟩) 2 2):=Jd hb3 0;have d1:W3.cell? ⟨w.heap.size,1,none⟩=some (.slice (some ⟨W1.heap.size,0,none⟩) 1 1):=Jd hb3 1;have H0:=Ja hW0;have H3:=Ja hW3;have HB3:=Ja hb3;have h12:=hW2;rw [←hW1] at h12;rw [←h12] at c0 c1 f0 f1;have H12:=Ja h12;rw [hz1] at H3 L2 d1 HB3;clear hW0 hW1 hW2 hW3 k0 k1 k2 k3 l1 l2 hb0 hb3 hz0 hz1 h12;go_enter Tryz.func132,Tryz.ntmps132;go_upto_region 1 with fail;rw [H0.out];go_wp2_with fail;rw [H12.out,H3.out];exact ⟨rfl,_,results_cell_row (P:=Tryz.prog) rfl _ W3 w.heap.size 64 _ (0,0) _ rfl HB3.out Tryz.underlying64 rfl (by kernel_rfl),_,_,rfl,L1.out,L2.out,KK.out⟩
set_option maxRecDepth 8000 in
theorem JaC (id:List UInt8) (w:World) (v:Value) (l:List En) (hv:Jh w v l.length 5 (Je l)):
  Calls Tryz.prog 54 #[v,.string ⟨id.toArray⟩] w fun e w'=>e=.returned (.int .i64 (YO id l))∧w'=w:=by
 obtain ⟨o,c,rfl,h1,h2⟩:=hv.form;unfold maxLen at h2;obtain ⟨R,hR⟩: ∃ R,YO id l=R:=⟨_,rfl⟩;rw [hR];have HR:=Ja hR;have HV:=Ja hv;clear hR hv;go_enter Tryz.func54,Tryz.ntmps54;go_wp2_with fail;go_loopw [5] (fun i wr=> ∃ k:Nat,k≤l.length∧i=.int .i64 k∧wr=w∧Hid (Jbr id (l.drop k) k=R)) (fun i _=>l.length - (intOf i).toNat)
 case atStart=>exact ⟨0,Nat.zero_le _,rfl,rfl,HR⟩
 case round=>
  obtain ⟨k,hk,rfl,rfl,hC⟩:=hrel;clear HR;by_cases hlt:k<l.length
  ·have hC1:=hC.out;rw [Jhr id l k hlt] at hC1;obtain ⟨g,o0,rfl,hc⟩:=HV.out.addr (by omega);obtain ⟨a0,a1,a2,a3,a4⟩:=Qs hc k hlt;have hk0:(0:Int)≤(k:Int):=by omega
   have hk1:(k:Int)<(l.length:Int):=by omega
   have HC1:=Ja hC1;clear hC hC1 hc;generalize l[k]=x at *;by_cases hx:x.id=id
   ·have hRk:R=(k:Int):=by rw [←HC1.out];simp [hx]
    have heq:(x.id==id)=true:=by simpa using hx
    subst hRk;clear HC1 hx;go_wp2_with fail;go_ret;exact ⟨rfl,rfl⟩
   ·have HC2:Hid (Jbr id (l.drop (k+1)) (k+1)=R):=Ja (by have:=HC1.out;simpa [hx] using this);have heq:(x.id==id)=false:=by simpa using hx
    clear HC1 hx;go_wp2_with fail;go_roundw
    case rel=>exact ⟨k+1,by omega,by go_num,trivial,HC2⟩
    case measure=>simp [intOf];omega
  ·have hRR:R= -1:=by
    rw [←hC.out,List.drop_eq_nil_of_le (by omega)];rfl
   subst hRR;go_wp2_with fail;go_ret;exact ⟨rfl,rfl⟩
theorem JmT {la lb:List En}:(∀ j (h1:j<la.length) (h2:j<lb.length),la[j]=lb[j])→la.length=lb.length→la=lb:=fun h e=>List.ext_getElem e h
set_option maxRecDepth 4000 in
theorem JhW (w:World) (va vb:Value) (la lb:List En) (ha:Jh w va la.length 5 (Je la)) (hb:Jh w vb lb.length 5 (Je lb)):
  Calls Tryz.prog 56 #[va,vb] w fun e w'=>e=.returned (.bool (decide (la=lb)))∧Jb [] w w':=by
 obtain ⟨oa,ca,rfl,ha1,ha2⟩:=ha.form;obtain ⟨ob,cb,rfl,hb1,hb2⟩:=hb.form;unfold maxLen at ha2 hb2;obtain ⟨R,hR⟩: ∃ R,decide (la=lb)=R:=⟨_,rfl⟩;rw [hR];by_cases hlen:la.length=lb.length
 ·have HR:=Ja hR;clear hR;have HL:=Ja hlen;have hn:(((la.length:Int) != (lb.length:Int)))=false:=by simp;omega
  clear hlen;go_enter Tryz.func56,Tryz.ntmps56;go_wp2_with fail;go_loopw [5] (fun i wr=> ∃ k m:Nat,k≤la.length∧i=.int .i64 k∧wr=w.drewN m∧Hid (∀ j (h1:j<la.length) (h2:j<lb.length),j<k→la[j]=lb[j])) (fun i _=>la.length - (intOf i).toNat)
  case atStart=>exact ⟨0,0,Nat.zero_le _,rfl,rfl,fun j _ _ h=>absurd h (Nat.not_lt_zero _)⟩
  case round=>
   obtain ⟨k,m,hk,rfl,rfl,hH⟩:=hrel;by_cases hlt:k<la.length
   ·obtain ⟨ga,xa,rfl,hca⟩:=ha.addr (by omega);obtain ⟨gb,xb,rfl,hcb⟩:=hb.addr (by rw [←HL.out];omega);have hltb:k<lb.length:=by rw [←HL.out];exact hlt
    obtain ⟨a0,a1,a2,a3,a4⟩:=Qs hca k hlt;obtain ⟨b0,b1,b2,b3,b4⟩:=Qs hcb k hltb;clear hca hcb;have hgd:Tryz.prog.eqGuardType Tryz.prog.depth 75=false:=by kernel_rfl
    have heq:=fun w=>Jni la[k] lb[k] w;by_cases hkk:la[k]=lb[k]
    ·have hee:eqE la[k] lb[k]=true:=(Ja5 _ _).2 hkk;simp only [hee,Bool.not_true] at heq;have HKK:=Ja hkk;clear hkk hee;go_wp2_with fail
     go_quiet (fail)
     go_wp2_with fail;go_roundw
     case rel=>exact ⟨k+1,_,by omega,by go_num,rfl,fun j h1 h2 hj=>by
      rcases Nat.lt_succ_iff_lt_or_eq.1 hj with hj | rfl
      ·exact hH.out j h1 h2 hj
      ·exact HKK.out⟩
     case measure=>simp [intOf];omega
    ·have hee:eqE la[k] lb[k]=false:=by
      rw [Bool.eq_false_iff];exact fun h=>hkk ((Ja5 _ _).1 h)
     simp only [hee,Bool.not_false] at heq;have hRf:R=false:=by
      rw [←HR.out];have:la≠lb:=fun e=>hkk (by subst e;rfl);simpa using this
     subst hRf;clear hkk hee;go_wp2_with fail
     go_quiet (fail)
     go_wp2_with fail;go_ret;exact ⟨rfl,((Jb.refl [] w).drewN _).drewN _⟩
   ·have hRt:R=true:=by
     rw [←HR.out];have:la=lb:=JmT (fun j h1 h2=>hH.out j h1 h2 (by omega)) HL.out;simpa using this
    subst hRt;go_wp2_with fail;go_ret;exact ⟨rfl,(Jb.refl [] w).drewN _⟩
 ·have hn:(((la.length:Int) != (lb.length:Int)))=true:=by simp;omega
  have hRf:R=false:=by
   rw [←hR];have:la≠lb:=fun e=>hlen (by rw [e]);simpa using this
  subst hRf;clear hlen hR;go_enter Tryz.func56,Tryz.ntmps56;go_wp2_with fail;go_ret;exact ⟨rfl,Jb.refl _ _⟩
set_option maxRecDepth 4000 in
theorem JeM (w:World) (ea ra eb rb:Value) (sa sb:Sh) (hea:Jh w ea sa.es.length 5 (Je sa.es)) (hra:Jh w ra sa.rd.length 1 (Jq sa.rd)) (heb:Jh w eb sb.es.length 5 (Je sb.es)) (hrb:Jh w rb sb.rd.length 1 (Jq sb.rd)):
  Calls Tryz.prog 55 #[.agg #[ea,ra],.agg #[eb,rb]] w fun e w'=>e=.returned (.bool (decide (sa.es=sb.es)&&decide (sa.rd=sb.rd)))∧Jb [] w w':=by
 obtain ⟨o1,c1,rfl,g1,g2⟩:=hea.form;obtain ⟨o2,c2,rfl,g3,g4⟩:=hra.form;obtain ⟨o3,c3,rfl,g5,g6⟩:=heb.form;obtain ⟨o4,c4,rfl,g7,g8⟩:=hrb.form;obtain ⟨W,hW⟩: ∃ W,(w.alloc (.cells #[.slice o1 sa.es.length c1,.slice o2 sa.rd.length c2] 64)).alloc (.cells #[.slice o3 sb.es.length c3,.slice o4 sb.rd.length c4] 64)=W:=⟨_,rfl⟩;have hkW:Jb [] w W:=by rw [←hW];exact ((Jb.refl [] w).alloc _).alloc _
 have hb0:W.heap[w.heap.size]?=some (.cells #[.slice o1 sa.es.length c1,.slice o2 sa.rd.length c2] 64 (0,0)):=by rw [←hW];exact Yi w _ _
 have hb1:W.heap[w.heap.size+1]?=some (.cells #[.slice o3 sb.es.length c3,.slice o4 sb.rd.length c4] 64 (0,0)):=by rw [←hW];exact Yj w _ _
 have a0:W.cell? ⟨w.heap.size,0,none⟩=some (.slice o1 sa.es.length c1):=Jd hb0 0;have b0:W.cell? ⟨w.heap.size+1,0,none⟩=some (.slice o3 sb.es.length c3):=Jd hb1 0;have hse:=Ja (JhW W _ _ sa.es sb.es (hea.keeps hkW) (heb.keeps hkW));have hst:=Ja (fun w1 (hk1:Jb [] w w1)=>Jcv w1 _ _ sa.rd sb.rd (hra.keeps hk1) (hrb.keeps hk1));have HB0:=Ja hb0;have HB1:=Ja hb1;have HKW:=Ja hkW;have HW:=Ja hW;generalize decide (sa.es=sb.es)=P at *;generalize decide (sa.rd=sb.rd)=Q at *;clear hea hra heb hrb hkW hb0 hb1 hW;cases P
 ·go_enter Tryz.func55,Tryz.ntmps55;go_upto_region 1 with fail;rw [HW.out];go_wp2_with fail;refine hse.out.mono ?_;rintro e w1 ⟨rfl,hk1⟩;go_wp2_with fail;go_ret;exact ⟨rfl,HKW.out.trans hk1⟩
 ·go_enter Tryz.func55,Tryz.ntmps55;go_upto_region 1 with fail;rw [HW.out];go_wp2_with fail;refine hse.out.mono ?_;rintro e w1 ⟨rfl,hk1⟩;have a1:w1.cell? ⟨w.heap.size,1,none⟩=some (.slice o2 sa.rd.length c2):=Jz hk1 HB0.out 1;have b1:w1.cell? ⟨w.heap.size+1,1,none⟩=some (.slice o4 sb.rd.length c4):=Jz hk1 HB1.out 1;have HK1:=Ja (HKW.out.trans hk1);clear hk1 a0 b0;go_wp2_with fail;refine (hst.out w1 HK1.out).mono ?_;rintro e w2 ⟨rfl,hk2⟩;go_wp2_with fail;go_ret;exact ⟨by simp,HK1.out.trans hk2⟩
end Go.Proofs.YtlcljanibjdejaaGreat
