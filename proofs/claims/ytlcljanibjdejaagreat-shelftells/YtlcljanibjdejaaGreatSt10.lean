/- ShelfTells holds: the law returns true for every input, and each argument reads behind the call as it read before; no condition. A part of its proof. -/
import Derived.Test.YtlcljanibjdejaaGreatSt09
import Derived.Laws.Cover1
import Derived.Laws.CopyRow
import Derived.Laws.Rows
set_option maxHeartbeats 64000000
namespace Go.Proofs.YtlcljanibjdejaaGreat
open Go.RowKit Go.Maps
theorem Jdh {l:List Jw} {p:Jw} (h:p∈l):p.1.length+p.2.length+2≤JY l:=by
 induction l with
 | nil=>simp at h
 | cons a l ih=>
   have e:JY (a::l)=(a.1.length+a.2.length+2)+JY l:=by simp [JY]
   rcases List.mem_cons.1 h with rfl | h
   ·omega
   ·have:=ih h;omega
theorem JmA (l:List Jw):l.length≤JY l:=by
 induction l with
 | nil=>simp
 | cons a l ih=>
   have e:JY (a::l)=(a.1.length+a.2.length+2)+JY l:=by simp [JY]
   simp only [List.length_cons];omega
theorem JpW (p:Jw):(Yu p).length≤8 * (p.1.length+p.2.length+2):=by
 have:=Jat p.2;simp [Yu];omega
theorem JbA (l:List Jw) (k:Nat):(J3 (l.take k)).length≤8 * JY l:=by
 induction l generalizing k with
 | nil=>simp [J3]
 | cons a l ih=>
   cases k with
   | zero=>simp [J3]
   | succ k=>
     have e:JY (a::l)=(a.1.length+a.2.length+2)+JY l:=by simp [JY]
     have e2:J3 ((a::l).take (k+1))=Yu a++J3 (l.take k):=by simp [J3]
     have h1:=JpW a;have h2:=ih k;rw [e2,List.length_append];omega
theorem Jsd (t:Tok):(XS t).length≤8 * Yc t:=by
 have h1:=JbA t.attrs t.attrs.length;rw [List.take_length] at h1;have h2:=Jat t.text;unfold XS Yc;split
 ·omega
 ·split
  ·simp [Jbz];omega
  ·simp;omega
theorem Jjh (l:List (Tok × Value)) (k:Nat):(Qn ((l.take k).map (·.1))).length≤8 * Qh (l.map (·.1)):=by
 induction l generalizing k with
 | nil=>simp [Qn]
 | cons a l ih=>
   cases k with
   | zero=>simp [Qn]
   | succ k=>
     have e:Qh ((a::l).map (·.1))=Yc a.1+Qh (l.map (·.1)):=by simp [Qh]
     have e2:Qn (((a::l).take (k+1)).map (·.1))=XS a.1++Qn ((l.take k).map (·.1)):=by simp [Qn]
     have h1:=Jsd a.1;have h2:=ih k;rw [e2,List.length_append];omega
set_option maxRecDepth 4000 in
theorem JjE (w0:World) (B b:Nat) (l:List UInt8) (kd:Int) (nm tx:List UInt8) (la:List Jw) (v:Value) (hv:Jh w0 v la.length 2 (Jj la)) (w:World) (hw0:Jb [] w0 w) (hB0:w0.heap.size≤B) (h:XJ B b l w) (hBw:B≤w.heap.size)
  (hnm:nm.length≤38000000) (hf:JY la≤38000000) (hl:l.length≤304000000):
  Calls Tryz.prog 143 #[.pointer (some ⟨b,0,none⟩),.agg #[.int .i64 kd,.string ⟨nm.toArray⟩,v,.string ⟨tx.toArray⟩]] w fun e w'=>e=.returned (.tuple #[])∧XJ B b (l++Jbz ⟨kd,nm,la,tx⟩) w'∧J4 B b w w':=by
 have hla:=JmA la;obtain ⟨o,c,rfl,h1,h2⟩:=hv.form;unfold maxLen at h2;have ha:Jb [] w (w.alloc (.cells #[.int .i64 kd,.string ⟨nm.toArray⟩,.slice o la.length c,.string ⟨tx.toArray⟩] 117)):=(Jb.refl [] w).alloc _;have hbx:QI (w.alloc (.cells #[.int .i64 kd,.string ⟨nm.toArray⟩,.slice o la.length c,.string ⟨tx.toArray⟩] 117)) w.heap.size (⟨kd,nm,la,tx⟩,.slice o la.length c):=heap_alloc_new w _;have hBb:B≤b:=by rcases h with h | h<;>exact h.1
 have hbw:b<w.heap.size:=by rcases h with ⟨_,v,hb,_⟩ | ⟨_,v,hb,_⟩<;>exact lt_of_block hb
 have hsum: ¬ 9223372036854775807<1+nm.length:=by omega
 have hstr:(⟨#[60]⟩:ByteArray)++⟨nm.toArray⟩=⟨([60]++nm).toArray⟩:=JjU [60] nm;have hw1:=Ja (Jah B b l ([60]++nm) _ (h.keeps ha) (by simp;omega) (Nat.le_trans hBw ha.size));obtain ⟨Z,hZ⟩: ∃ Z,l++([60]++nm)=Z:=⟨_,rfl⟩;have hZl:Z.length≤342100000:=by rw [←hZ];simp;omega
 have hfin:l++Jbz ⟨kd,nm,la,tx⟩=Z++J3 la++[62]:=by rw [←hZ];simp [Jbz]
 rw [hfin];rw [hZ] at hw1;clear hZ hfin;have hwe:=Ja (fun (w:World) hb hB=>Jah B b (Z++J3 la) [62] w hb (by
  have:=JbA la la.length;rw [List.take_length] at this;simp;omega) hB)
 go_enter Tryz.func143,Tryz.ntmps143;go_wp2_with fail;refine hw1.out.mono ?_;rintro e w2 ⟨rfl,hb2,hk2⟩;have hbx2:=hk2.tok hbx (by omega);have hkw2:J4 B b w w2:=(J4.of ha).trans hk2;have x2:w2.cell? ⟨w.heap.size,2,none⟩=some (.slice o la.length c):=by rw [hbx2.cell 2];rfl
 clear hw1 hstr hsum;go_wp2_with fail;go_loopw [14] (fun i wr=> ∃ k:Nat,k≤la.length∧i=.int .i64 k∧XJ B b (Z++J3 (la.take k)) wr∧J4 B b w wr) (fun i _=>la.length - (intOf i).toNat)
 case atStart=>exact ⟨0,Nat.zero_le _,rfl,by simpa [J3] using hb2,hkw2⟩
 case round=>
  obtain ⟨k,hk,rfl,hbk,hkw⟩:=hrel;clear hb2 hk2 hbx2 x2;have hBr:=Nat.le_trans hBw hkw.size;by_cases hlt:k<la.length
  ·obtain ⟨g,x,rfl,hc⟩:=(hv.keeps (J4.nil hw0 hkw hB0 hBb)).addr (by omega);have a0:=hc _ _ (Zw la k hlt);have a1:=hc _ _ (JaZ la k hlt);rw [←Nat.add_assoc] at a1;have hfk:=Jdh (List.getElem_mem hlt);have hpl:=JbA la k;have hts:=Jgp la k hlt;generalize J3 (la.take k)=Y at *;have HTS:=Ja hts;clear hts hc;generalize la[k]=p at *;obtain ⟨n,v⟩:=p;simp only at a0 a1 hfk;have hkA:Jb [] wr (wr.alloc (.cells #[.string ⟨n.toArray⟩,.string ⟨v.toArray⟩] 52)):=(Jb.refl [] wr).alloc _;have hA:Qg (wr.alloc (.cells #[.string ⟨n.toArray⟩,.string ⟨v.toArray⟩] 52)) wr.heap.size ⟨n.toArray⟩ ⟨v.toArray⟩:=heap_alloc_new wr _;have hbr:b<wr.heap.size:=Nat.lt_of_lt_of_le hbw hkw.size;have hsum1: ¬ 9223372036854775807<1+n.length:=by omega
   have hsum2: ¬ 9223372036854775807<1+n.length+2:=by omega
   have hstr1:(⟨#[32]⟩:ByteArray)++⟨n.toArray⟩=⟨([32]++n).toArray⟩:=JjU [32] n;have hstr2:(⟨(32::n).toArray⟩:ByteArray)++⟨#[61,34]⟩=⟨([32]++n++[61,34]).toArray⟩:=JjU (32::n) [61,34];have hsz1:(⟨(32::n).toArray⟩:ByteArray).size=1+n.length:=by rw [Jv];simp;omega
   have hw3:=Ja (Jah B b (Z++Y) ([32]++n++[61,34]) _ (hbk.keeps hkA) (by simp;omega) (Nat.le_trans hBr hkA.size));have hw4:=Ja (fun (w:World) hb hB=>JeL B b (Z++Y++([32]++n++[61,34])) v w hb hB (by omega) (by simp;omega));have hpv:=Jat v;have hw5:=Ja (fun (w:World) hb hB=>Jah B b (Z++Y++([32]++n++[61,34])++J0 v) [34] w hb (by simp;omega) hB);have hY:Z++(Y++Yu (n,v))=Z++Y++([32]++n++[61,34])++J0 v++[34]:=by simp [Yu]
   have HY:=Ja hY;clear hY;go_wp2_with fail;refine hw3.out.mono ?_;rintro e w3 ⟨rfl,hb3,hk3⟩;have hA3:=hk3.pair hA (by omega);have y1:=hA3.cell1;have hB3:=Nat.le_trans (Nat.le_trans hBr hkA.size) hk3.size;clear hstr1 hstr2 hsz1 a0 a1;go_wp2_with fail;refine (hw4.out _ hb3 hB3).mono ?_;rintro e w4 ⟨rfl,hb4,hk4⟩;go_wp2_with fail;refine (hw5.out _ hb4 (Nat.le_trans hB3 hk4.size)).mono ?_;rintro e w5 ⟨rfl,hb5,hk5⟩;have hb5':XJ B b (Z++J3 (la.take (k+1))) w5:=by rw [HTS.out,HY.out];exact hb5
   have hkw5:J4 B b w w5:=(((hkw.trans (J4.of hkA)).trans hk3).trans hk4).trans hk5;go_wp2_with fail;go_roundw
   case rel=>exact ⟨k+1,by omega,by go_num,hb5',hkw5⟩
   case measure=>simp [intOf];omega
  ·have hall:la.take k=la:=List.take_of_length_le (by omega);rw [hall] at hbk;go_wp2_with fail;refine (hwe.out _ hbk hBr).mono ?_;rintro e w3 ⟨rfl,hb3,hk3⟩;go_wp2_with fail
   go_end0
   exact ⟨rfl,hb3,hkw.trans hk3⟩
set_option maxRecDepth 4000 in
theorem Jp2 (w:World) (v:Value) (ts:List Tok) (hv:Jbd w v ts) (hn:Qh ts≤38000000) (hc:Ya ts=0):
  Calls Tryz.prog 69 #[v] w fun e w'=>e=.returned (.tuple #[.string ⟨(Qn ts).toArray⟩,.int .i64 0])∧Jb [] w w':=by
 have hchk:=Ja (Je2 w v ts hv (fun t ht=>by
  have h1:=Jcd ht;unfold Yc at h1;exact ⟨by unfold maxLen;omega,fun p hp=>by have h2:=Jdh hp;unfold maxLen;omega⟩))
 rw [hc] at hchk;clear hc;obtain ⟨l,rfl,hv,hva⟩:=hv;have hfl: ∀ p∈l,Yc p.1≤Qh (l.map (·.1)):=fun p hp=>Jcd (List.mem_map_of_mem hp);obtain ⟨o,c,rfl,h1,h2⟩:=hv.form;unfold maxLen at h2;go_enter Tryz.func69,Tryz.ntmps69;go_wp2_with fail;refine hchk.out.mono ?_;rintro e w1 ⟨rfl,hk1⟩;go_wp2_with fail;have hb1:=Jsx w1;have hkb1:J4 w1.heap.size w1.heap.size w1 (w1.alloc (.cells #[.pointer none,.slice none 0 0] 134)):=J4.of ((Jb.refl [] w1).alloc _);have hsz1:w1.heap.size+1≤(w1.alloc (.cells #[.pointer none,.slice none 0 0] 134)).heap.size:=by simp
 clear hchk;go_loopw [15] (fun i wr=> ∃ k:Nat,k≤l.length∧i=.int .i64 k∧XJ w1.heap.size w1.heap.size (Qn ((l.take k).map (·.1))) wr∧J4 w1.heap.size w1.heap.size w1 wr∧w1.heap.size+1≤wr.heap.size) (fun i _=>l.length - (intOf i).toNat)
 case atStart=>exact ⟨0,Nat.zero_le _,rfl,by simpa [Qn] using hb1,hkb1,hsz1⟩
 case round=>
  obtain ⟨k,hk,rfl,hbk,hkw,hsz⟩:=hrel;clear hb1 hkb1 hsz1;have hK:Jb [] w wr:=J4.nil hk1 hkw hk1.size (Nat.le_refl _);by_cases hlt:k<l.length
  ·obtain ⟨g,x,rfl,hcc⟩:=(hv.keeps hK).addr (by omega);obtain ⟨a0,a1,a2,a3⟩:=JbS hcc k hlt;have hfk:=hfl l[k] (List.getElem_mem hlt);have hpa:=hva l[k] (List.getElem_mem hlt);have hpl:=Jjh l k;have HTS:=Ja (Jh2 l k hlt);generalize Qn ((l.take k).map (·.1))=Y at *;clear hcc;generalize l[k]=p at *;obtain ⟨⟨kp,np,ap,xp⟩,vp⟩:=p;simp only at a0 a1 a2 a3 hpa hfk;obtain ⟨op,cp,rfl,hp1,hp2⟩:=hpa.form;unfold maxLen at hp2;have hfn:np.length+xp.length+JY ap+4≤Qh (l.map (·.1)):=hfk;have hkA:Jb [] wr (wr.alloc (.cells #[.int .i64 kp,.string ⟨np.toArray⟩,.slice op ap.length cp,.string ⟨xp.toArray⟩] 117)):=(Jb.refl [] wr).alloc _;have hA:QI (wr.alloc (.cells #[.int .i64 kp,.string ⟨np.toArray⟩,.slice op ap.length cp,.string ⟨xp.toArray⟩] 117)) wr.heap.size (⟨kp,np,ap,xp⟩,.slice op ap.length cp):=heap_alloc_new wr _;have hBA:w1.heap.size≤(wr.alloc (.cells #[.int .i64 kp,.string ⟨np.toArray⟩,.slice op ap.length cp,.string ⟨xp.toArray⟩] 117)).heap.size:=by simp;omega
   have hbA:=hbk.keeps hkA;have hkwA:=hkw.trans (J4.of hkA);by_cases hk1':kp=1
   ·subst hk1';have hpt:=Ja (JeL w1.heap.size w1.heap.size Y xp _ hbA hBA (by omega) (by omega));have HY:=Ja (show XS ⟨1,np,ap,xp⟩=J0 xp from rfl);go_wp2_with fail;refine hpt.out.mono ?_;rintro e w5 ⟨rfl,hb5,hk5⟩;have hb5':XJ w1.heap.size w1.heap.size (Qn ((l.take (k+1)).map (·.1))) w5:=by rw [HTS.out,HY.out];exact hb5
    have hs5:=Nat.le_trans hsz (Nat.le_trans hkA.size hk5.size);go_wp2_with fail;go_roundw
    case rel=>exact ⟨k+1,by omega,by go_num,hb5',hkwA.trans hk5,hs5⟩
    case measure=>simp [intOf];omega
   ·have e1:(kp==1)=false:=by simpa using hk1'
    by_cases hk2':kp=2
    ·subst hk2';have hpt:=Ja (JjE w w1.heap.size w1.heap.size Y 2 np xp ap _ hpa _ (hK.trans hkA) hk1.size hbA hBA (by omega) (by omega) (by omega));have HY:=Ja (show XS ⟨2,np,ap,xp⟩=Jbz ⟨2,np,ap,xp⟩ from rfl);go_wp2_with fail;refine hpt.out.mono ?_;rintro e w5 ⟨rfl,hb5,hk5⟩;have hb5':XJ w1.heap.size w1.heap.size (Qn ((l.take (k+1)).map (·.1))) w5:=by rw [HTS.out,HY.out];exact hb5
     have hs5:=Nat.le_trans hsz (Nat.le_trans hkA.size hk5.size);go_wp2_with fail;go_roundw
     case rel=>exact ⟨k+1,by omega,by go_num,hb5',hkwA.trans hk5,hs5⟩
     case measure=>simp [intOf];omega
    ·have e2:(kp==2)=false:=by simpa using hk2'
     have HY:=Ja (show XS ⟨kp,np,ap,xp⟩=[60,47]++np++[62] from by simp [XS,hk1',hk2']);have hw5:=Ja (Jah w1.heap.size w1.heap.size Y ([60,47]++np++[62]) _ hbA (by simp;omega) hBA);have hsum1: ¬ 9223372036854775807<2+np.length:=by omega
     have hsum2: ¬ 9223372036854775807<2+np.length+1:=by omega
     have hstr1:(⟨#[60,47]⟩:ByteArray)++⟨np.toArray⟩=⟨([60,47]++np).toArray⟩:=JjU [60,47] np;have hstr2:(⟨(60::47::np).toArray⟩:ByteArray)++⟨#[62]⟩=⟨([60,47]++np++[62]).toArray⟩:=JjU (60::47::np) [62];have hss:(⟨(60::47::np).toArray⟩:ByteArray).size=2+np.length:=by rw [Jv];simp;omega
     clear hk1' hk2';go_wp2_with fail;refine hw5.out.mono ?_;rintro e w5 ⟨rfl,hb5,hk5⟩;have hb5':XJ w1.heap.size w1.heap.size (Qn ((l.take (k+1)).map (·.1))) w5:=by rw [HTS.out,HY.out];exact hb5
     have hs5:=Nat.le_trans hsz (Nat.le_trans hkA.size hk5.size);clear hstr1 hstr2 hss;go_wp2_with fail;go_roundw
     case rel=>exact ⟨k+1,by omega,by go_num,hb5',hkwA.trans hk5,hs5⟩
     case measure=>simp [intOf];omega
  ·have hall:l.take k=l:=List.take_of_length_le (by omega);rw [hall] at hbk;go_wp2_with fail;refine (Tryz.Builder_String_any w1.heap.size w1.heap.size _ _ hbk (by omega)).mono ?_;rintro e w3 ⟨rfl,hb3⟩;have hfin:Jb [] w w3:=⟨hb3.os.trans hK.os,hb3.tape.trans hK.tape,hb3.output.trans hK.output,Nat.le_trans hK.size hb3.size,fun i hi _=>(hb3.block i (Nat.lt_of_lt_of_le hi hk1.size)).trans (hK.block i hi List.not_mem_nil)⟩;go_wp2_with fail
   go_ret2
   exact ⟨rfl,hfin⟩
theorem Jtt (o:Option Addr) (n c:Nat) (x:Int) (w:World):Calls Tryz.prog 66 #[.slice o n c,.int .i64 x] w fun e w'=>(x=0∧e=.returned (.slice o n c)∨x≠0∧e=.panicked (X4 x))∧w'=w:=by
 by_cases hx:x=0
 ·subst hx;go_enter Tryz.func66,Tryz.ntmps66;go_wp2_with fail;go_ret;exact ⟨.inl ⟨trivial,rfl⟩,rfl⟩
 ·have hd:(x != 0)=true:=by simpa using hx
  have hx2:=Ja hx;clear hx;go_enter Tryz.func66,Tryz.ntmps66;go_wp2_with fail;refine (Ja1 x _).mono ?_;rintro e w1 ⟨rfl,rfl⟩;exact ⟨rfl,.inr ⟨hx2.out,rfl⟩,rfl⟩
theorem Jtu (o:Option Addr) (n c:Nat) (x:Int) (w:World):Calls Tryz.prog 67 #[.slice o n c,.int .i64 x] w fun e w'=>(x=0∧e=.returned (.slice o n c)∨x≠0∧e=.panicked (X4 x))∧w'=w:=by
 by_cases hx:x=0
 ·subst hx;go_enter Tryz.func67,Tryz.ntmps67;go_wp2_with fail;go_ret;exact ⟨.inl ⟨trivial,rfl⟩,rfl⟩
 ·have hd:(x != 0)=true:=by simpa using hx
  have hx2:=Ja hx;clear hx;go_enter Tryz.func67,Tryz.ntmps67;go_wp2_with fail;refine (Ja1 x _).mono ?_;rintro e w1 ⟨rfl,rfl⟩;exact ⟨rfl,.inr ⟨hx2.out,rfl⟩,rfl⟩
theorem Jtv (s:ByteArray) (w:World):Calls Tryz.prog 68 #[.string s,.int .i64 0] w fun e w'=>e=.returned (.string s)∧w'=w:=by
 go_enter Tryz.func68,Tryz.ntmps68;go_wp2_with fail;go_ret;exact ⟨rfl,rfl⟩
theorem Qb {w W:World} {o:Obj} {k:Nat} (hk:w.heap.size=k) (hW:w.alloc o=W):W.heap[k]?=some o∧W.heap.size=k+1:=by
 subst hk;subst hW;exact ⟨heap_alloc_new w o,by simp⟩
theorem Jz {w w':World} (hk:Jb [] w w') {g:Nat} {cs:Array Value} {ty:TypeId} (h:w.heap[g]?=some (.cells cs ty (0,0))) (j:Nat):w'.cell? ⟨g,j,none⟩=cs[j]?:=Jd ((hk.block _ (lt_of_block h) List.not_mem_nil).trans h) j
def Yo (s:List UInt8):Bool:=decide (isE (JP (JL s))=0)&&(Qn (JX (JP (JL s)))==s)
theorem Jom (s:List UInt8):(JX (JP (JL s))).length≤s.length:=Nat.le_trans (Jk5 _) (Jgr s)
theorem Jo7:Jy 281:=JC Tryz.func281 (by kernel_rfl) (by kernel_rfl)
set_option maxRecDepth 4000 in
theorem Jkl (s:List UInt8) (sb ob:Nat) (w:World) (hM:JW w) (hs:s.length≤3000) (h1:w.heap[sb]?=some (.cells #[.string ⟨s.toArray⟩] 9 (0,0))) (h3:w.heap[ob]?=some (.cells #[.bool false] 4 (0,0))):
  Calls Tryz.prog 281 #[.pointer (some ⟨sb,0,none⟩),.pointer (some ⟨ob,0,none⟩)] w fun e w'=>
   e=.returned (.tuple #[])∧w'.heap[ob]?=some (.cells #[.bool (Yo s)] 4 (0,0))∧Jb [ob] w w':=by
 have nn: ∀ g,g∉([]:List Nat):=fun _=>List.not_mem_nil;have c1:w.cell? ⟨sb,0,none⟩=some (.string ⟨s.toArray⟩):=Jd h1 0;have hrd:=Ja (JrO ⟨s.toArray⟩ w (by rw [Jv];unfold maxLen;omega) hM);rw [Jv,Qc] at hrd;have H1:=Ja h1;have H3:=Ja h3;have HM:=Ja hM;clear h1 h3 hM;simp only [show ¬ 3000<s.length from by omega,if_false] at hrd;obtain ⟨f1,f2,f3,f4,_,_,_,_,_,_⟩:=Jec [] s hs;have fB:=Jaz (JP (JL s)) (by omega);have fV:=Jgz (JP (JL s)) (by omega);have fS:=Jdx (JP (JL s));have ftx:=Jmz (JL s);have hbf:=JiB (l:=JL s) (by omega);have hfb:=Jbo (JP (JL s));have hnb:=Jbx (JP (JL s));have hck:=Jj1 (JP (JL s)) ((Jbi _).1 f3).2 (by have:=Jom s;omega);have hbd:=Ja (fun (w1:World) (hk1:Jb [] w w1) (v:Value) (hv:Jbd w1 v (JL s))=>Jol w1 v (JL s) hv (fun t ht=>(hbf t ht).1) (Nat.lt_of_lt_of_le HM.out.pos hk1.size) (fun t ht=>(hbf t ht).2) (by omega));have hfl:=Ja (fun (w3:World) (P:Nat→Prop) (v:Value) (hv:Ns w3 P v (JP (JL s)))=>JkX w3 P v _ hv (by omega) fB.1 fB.2);have hpr:=Ja (fun (w4:World) (v:Value) (hv:Jbd w4 v (JX (JP (JL s))))=>Jp2 w4 v _ hv (by omega) hck);have hci:=Ja (fun (w5:World) (hk5:Jb [] w w5) (P:Nat→Prop) (v:Value) (hv:Ns w5 P v (JP (JL s)))=>Jle w5 P v _ hv (HM.out.keeps hk5 (nn _)) (by omega) fB.1 fV.1);rw [f1] at hbd;rw [f3] at hfl hci;simp only [if_true,decide_true,Bool.true_and] at hbd hfl hci;unfold Yo;clear f1 f2 f3 f4 fB fV fS ftx hbf hfb hnb hck hs;generalize decide (isE (JP (JL s))=0)=B at *;obtain ⟨FL,hFL⟩: ∃ FL,JX (JP (JL s))=FL:=⟨_,rfl⟩;obtain ⟨BL,hBL⟩: ∃ BL,JP (JL s)=BL:=⟨_,rfl⟩;rw [hFL] at hpr hfl ⊢;rw [hBL] at hbd hci hfl;clear hFL hBL;generalize JL s=RL at *;obtain ⟨PL,hPL⟩: ∃ PL,Qn FL=PL:=⟨_,rfl⟩;rw [hPL] at hpr ⊢;clear hPL;have hse:((⟨PL.toArray⟩:ByteArray).toList==(⟨s.toArray⟩:ByteArray).toList)=(PL==s):=by rw [Jca,Bool.eq_iff_iff];simp
 have m66:=Ja (fun o n c w=>(Jtt o n c 0 w).mono (R':=fun e w'=>e=.returned (.slice o n c)∧w'=w) (fun e w' h=>⟨h.1.elim (fun h=>h.2) (fun h=>absurd rfl h.1),h.2⟩));have m67:=Ja (fun o n c w=>(Jtu o n c 0 w).mono (R':=fun e w'=>e=.returned (.slice o n c)∧w'=w) (fun e w' h=>⟨h.1.elim (fun h=>h.2) (fun h=>absurd rfl h.1),h.2⟩));go_enter Tryz.func281,Tryz.ntmps281;go_wp2_with fail;refine hrd.out.mono ?_;rintro e w1 ⟨hk1,v1,rfl,ht1⟩;obtain ⟨o1,n1,c1',hv1⟩: ∃ o n c,v1=.slice o n c:=by
  obtain ⟨l,_,hl,_⟩:=ht1.toks;obtain ⟨o,c,h,_⟩:=hl.form;exact ⟨o,_,c,h⟩
 subst hv1;have hb1:=Ja (hbd.out w1 hk1 _ ht1.toks);have HK1:=Ja hk1;clear hk1 ht1;go_wp2_with fail;refine (m67.out _ _ _ _).mono ?_;rintro e w2 ⟨rfl,h9⟩;subst h9;go_wp2_with fail;refine hb1.out.mono ?_;rintro e w2 ⟨v2,rfl,hN2,hk2⟩;obtain ⟨o2,c2,hv2⟩:=hN2.form;subst hv2;have HN2:=Ja hN2;have HK2:=Ja (HK1.out.trans hk2);have hf2:=Ja (hfl.out w2 _ _ hN2);clear c1 hN2 hk2;go_wp2_with fail;refine (m66.out _ _ _ _).mono ?_;rintro e w3 ⟨rfl,h9⟩;subst h9;go_wp2_with fail;refine hf2.out.mono ?_;rintro e w4 ⟨v4,rfl,⟨n4,c4,a4,rfl,h8⟩,ht4,hk4⟩;subst h8;have hp4:=Ja (hpr.out w4 _ ht4);have HK4:=Ja (HK2.out.trans hk4);have HN4:=Ja (HN2.out.keeps0 hk4);clear hk4 ht4;go_wp2_with fail;refine (m67.out _ _ _ _).mono ?_;rintro e w5 ⟨rfl,h9⟩;subst h9;go_wp2_with fail;refine hp4.out.mono ?_;rintro e w5 ⟨rfl,hk5⟩;have HK5:=Ja (HK4.out.trans hk5);have HN5:=Ja (HN4.out.keeps0 hk5);have hi5:=Ja (hci.out w5 HK5.out _ _ HN5.out);clear hk5;go_wp2_with fail;refine (Jtv _ _).mono ?_;rintro e w6 ⟨rfl,h9⟩;subst h9;go_wp2_with fail;refine hi5.out.mono ?_;rintro e w7 ⟨rfl,hk7⟩;have HK7:=Ja (HK5.out.trans hk7);clear hk7;have e7:=(HK7.out.block _ (lt_of_block H3.out) (nn _)).trans H3.out;have x7:w7.cell? ⟨ob,0,none⟩=some (.bool false):=Jd e7 0;have y7:w7.frozen? ⟨ob,0,none⟩=false:=Jn e7 0;have z7:w7.cell? ⟨sb,0,none⟩=some (.string ⟨s.toArray⟩):=Jd ((HK7.out.block _ (lt_of_block H1.out) (nn _)).trans H1.out) 0;go_wp2_with fail;refine (JdC _ _).mono ?_;rintro e w8 ⟨rfl,h9⟩;subst h9;have E7:=Ja e7;clear e7;cases B
 ·go_wp2_with fail
  go_end0
  refine ⟨rfl,?_,(HK7.out.to (by simp)).setCell (.inl (by simp)) _⟩;simp [World.setCell,Array.getElem?_modify,E7.out]
 ·go_wp2_with fail
  go_end0
  refine ⟨rfl,?_,(HK7.out.to (by simp)).setCell (.inl (by simp)) _⟩;simp [World.setCell,Array.getElem?_modify,E7.out]
theorem Jlt (s:List UInt8) (w:World) (hM:JW w) (hs:s.length≤3000):
  Calls Tryz.prog 212 #[.string ⟨s.toArray⟩] w fun e w'=>e=.returned (.bool (Yo s))∧Jb [] w w':=by
 obtain ⟨W,hW⟩: ∃ W,(w.alloc (.cells #[.string ⟨s.toArray⟩] 9)).alloc (.cells #[.bool false] 4)=W:=⟨_,rfl⟩;have hkW:Jb [] w W:=by rw [←hW];exact ((Jb.refl [] w).alloc _).alloc _
 have s1: ∀ o,(w.alloc o).heap.size=w.heap.size+1:=fun o=>by simp
 have hb1:W.heap[w.heap.size]?=some (.cells #[.string ⟨s.toArray⟩] 9 (0,0)):=by
  rw [←hW,Below.heap_alloc _ _ _ (by rw [s1];omega)];exact heap_alloc_new w _
 have hb2:W.heap[w.heap.size+1]?=some (.cells #[.bool false] 4 (0,0)):=by
  rw [←hW, ←s1];exact heap_alloc_new _ _
 have hsz:W.heap.size=w.heap.size+1+1:=by rw [←hW];simp
 have nn: ∀ g,g∉([]:List Nat):=fun _=>List.not_mem_nil
 have hc:=Ja (Jg6 281 #[.pointer (some ⟨w.heap.size,0,none⟩),.pointer (some ⟨w.heap.size+1,0,none⟩)]
  (fun w2=>w2.heap[w.heap.size+1]?=some (.cells #[.bool (Yo s)] 4 (0,0)))
  (fun _ _=>False) [w.heap.size+1] W Jo7
  (fun i hi=>by simp at hi;omega)
  (fun w2 w3 _ h hk=>(hk.block _ (lt_of_block h) (by simp;omega)).trans h)
  (fun x w2 w3 _ h hk=>h)
  (fun w1 hk1 _=>(Jkl s w.heap.size (w.heap.size+1) w1 (hM.keeps (hkW.trans hk1) (nn _)) hs ((hk1.block _ (lt_of_block hb1) (nn _)).trans hb1) ((hk1.block _ (lt_of_block hb2) (nn _)).trans hb2)).mono
    (fun e w2 h=>⟨.inl ⟨h.1,h.2.1⟩,h.2.2⟩)))
 have hmf: ∀ (fn:Fn) (first cap:Array Value) (w:World),(Instr.makeFunc fn first cap).run Tryz.prog w=.ok (.func fn first cap) w:=fun _ _ _ _=>rfl;clear hb1 hb2 s1 hsz hM hs;have HW:=Ja hW;clear hW;go_enter Tryz.func212,Tryz.ntmps212;go_upto_region 2 with fail;rw [HW.out];go_wp2_with fail;refine hc.out.mono ?_;rintro e w1 ⟨⟨rfl,hb⟩ | ⟨x,_,hno⟩,hk1⟩
 ·have c0:w1.cell? ⟨w.heap.size+1,0,none⟩=some (.bool (Yo s)):=Jd hb 0;cases hcs:Yo s
  ·rw [hcs] at c0;have HCS:=Ja hcs;clear hcs hb;go_wp2_with fail;go_ret;exact ⟨by rw [HCS.out];rfl,JF hkW hk1 (fun g hg hlt=>by simp at hg;omega)⟩
  ·rw [hcs] at c0;have HCS:=Ja hcs;clear hcs hb;go_wp2_with fail;go_ret;exact ⟨by rw [HCS.out];rfl,JF hkW hk1 (fun g hg hlt=>by simp at hg;omega)⟩
 ·exact hno.elim
theorem Jm1 (s:List UInt8) (w:World) (hM:JW w) (hs:s.length≤3000):
  Calls Tryz.prog 211 #[.string ⟨s.toArray⟩] w fun e w'=>e=.returned (.bool (Yd s))∧Jb [] w w':=by
 have hsf:=Ja (JkJ ⟨s.toArray⟩ w (by rw [Jv];exact hs) hM);rw [Qc] at hsf;generalize Yd s=B at *;clear hs hM;go_enter Tryz.func211,Tryz.ntmps211;go_wp2_with fail;refine hsf.out.mono ?_;rintro e w1 ⟨rfl,hk1⟩;cases B
 ·go_wp2_with fail;go_ret;exact ⟨rfl,hk1⟩
 ·go_wp2_with fail;go_ret;exact ⟨rfl,hk1⟩
end Go.Proofs.YtlcljanibjdejaaGreat
namespace Go.Proofs.YtlcljanibjdejaaGreat
structure En where
 id:List UInt8
 title:List UInt8
 link:List UInt8
 tm:Int
 html:List UInt8
 deriving DecidableEq
def JH:List UInt8→List UInt8→Bool
 | [],[]=>false
 | [],_::_=>true
 | _::_,[]=>false
 | a::r,b::q=>decide (a.toNat<b.toNat) || (decide (a.toNat=b.toNat)&&JH r q)
theorem Xq: ∀ l,JH l l=false
 | []=>rfl
 | a::r=>by simp [JH,Xq r]
theorem JaH: ∀ a b c,JH a b=true→JH b c=true→JH a c=true
 | [],[],_,h,_=>by simp [JH] at h
 | [],_::_,[],_,k=>by simp [JH] at k
 | [],_::_,_::_,_,_=>rfl
 | _::_,[],_,h,_=>by simp [JH] at h
 | _::_,_::_,[],_,k=>by simp [JH] at k
 | a::r,b::q,c::s,h,k=>by
   simp only [JH,Bool.or_eq_true,Bool.and_eq_true,decide_eq_true_eq] at h k ⊢;rcases h with h | ⟨h,h2⟩<;>rcases k with k | ⟨k,k2⟩
   ·left;omega
   ·left;omega
   ·left;omega
   ·right;exact ⟨by omega,JaH r q s h2 k2⟩
theorem JaG: ∀ a b,a=b∨JH a b=true∨JH b a=true
 | [],[]=>.inl rfl
 | [],_::_=>.inr (.inl rfl)
 | _::_,[]=>.inr (.inr rfl)
 | a::r,b::q=>by
   simp only [JH,Bool.or_eq_true,Bool.and_eq_true,decide_eq_true_eq];rcases Nat.lt_trichotomy a.toNat b.toNat with h | h | h
   ·exact .inr (.inl (.inl h))
   ·have e:a=b:=UInt8.toNat_inj.1 h;subst e;rcases JaG r q with h2 | h2 | h2
    ·exact .inl (by rw [h2])
    ·exact .inr (.inl (.inr ⟨rfl,h2⟩))
    ·exact .inr (.inr (.inr ⟨rfl,h2⟩))
   ·exact .inr (.inr (.inl h))
theorem JaF {a b:List UInt8} (h:JH a b=true):JH b a=false:=by
 cases h2:JH b a with
 | false=>rfl
 | true=>have:=JaH _ _ _ h h2;rw [Xq] at this;simp at this
def JQ (x y:En):Bool:=decide (y.tm<x.tm) || (decide (y.tm=x.tm)&&JH x.id y.id)
theorem JeD (x:En):JQ x x=false:=by simp [JQ,Xq]
theorem Jbf {x y z:En} (h:JQ x y=true) (k:JQ y z=true):JQ x z=true:=by
 simp only [JQ,Bool.or_eq_true,Bool.and_eq_true,decide_eq_true_eq] at h k ⊢;rcases h with h | ⟨h,h2⟩<;>rcases k with k | ⟨k,k2⟩
 ·left;omega
 ·left;omega
 ·left;omega
 ·right;exact ⟨by omega,JaH _ _ _ h2 k2⟩
theorem Jbe (x y:En):(x.tm=y.tm∧x.id=y.id)∨JQ x y=true∨JQ y x=true:=by
 simp only [JQ,Bool.or_eq_true,Bool.and_eq_true,decide_eq_true_eq];rcases JaG x.id y.id with h | h | h<;>rcases Int.lt_trichotomy x.tm y.tm with k | k | k<;>simp [*]<;>omega
def Jcq (a b:Int):Int:=if a<b then -1 else if b<a then 1 else 0
def JdZ (a b:List UInt8):Int:=if JH a b=true then -1 else if JH b a=true then 1 else 0
def JbU (x y:En):Int:=if Jcq y.tm x.tm≠0 then Jcq y.tm x.tm else JdZ x.id y.id
theorem JrH (x y:En):JbU x y<0↔JQ x y=true:=by
 unfold JbU Jcq JdZ JQ;rcases Int.lt_trichotomy y.tm x.tm with k | k | k
 ·simp [k]
 ·simp [k];cases JH x.id y.id<;>simp;split<;>omega
 ·have h1: ¬ y.tm<x.tm:=by omega
  have h2: ¬ y.tm=x.tm:=by omega
  simp [h1,h2,k]
theorem JgM (x y:En):0<JbU x y↔JQ y x=true:=by
 unfold JbU Jcq JdZ JQ;rcases Int.lt_trichotomy y.tm x.tm with k | k | k
 ·have h1: ¬ x.tm<y.tm:=by omega
  have h2: ¬ x.tm=y.tm:=by omega
  simp [h1,h2,k]
 ·simp [k];cases h:JH x.id y.id
  ·simp;split<;>simp_all
  ·have:=JaF h;simp [this]
 ·have h1: ¬ y.tm<x.tm:=by omega
  simp [h1,k]
def Xd (l:List En):Prop:=l.Pairwise fun x y=>JQ x y=true
def Yb (l:List En):Prop:=l.Pairwise fun x y=>x.id≠y.id
def Zr (l:List En) (x:En):List En:=l.takeWhile (JQ · x)++x::l.dropWhile (JQ · x)
def Zy (l:List En) (x:En):List En:=
 match l.find? (fun y=>y.id==x.id) with
 | none=>Zr l x
 | some y=>if x.tm<y.tm then l else Zr (l.filter fun z=> !(z.id==x.id)) x
def XF (l:List En) (m:List En):List En:=m.foldl Zy l
theorem Jrz {l:List En} {x y:En}:y∈Zr l x↔y=x∨y∈l:=by
 unfold Zr
 conv=>rhs;rw [←List.takeWhile_append_dropWhile (p:=(JQ · x)) (l:=l)]
 simp only [List.mem_append,List.mem_cons];constructor
 ·rintro (h | h | h)
  ·exact .inr (.inl h)
  ·exact .inl h
  ·exact .inr (.inr h)
 ·rintro (h | h | h)
  ·exact .inr (.inl h)
  ·exact .inl h
  ·exact .inr (.inr h)
theorem Jcw {f:En→Bool}: ∀ {l:List En} {y:En},y∈l.takeWhile f→f y=true
 | [],_,h=>by simp at h
 | a::l,y,h=>by
   rw [List.takeWhile_cons] at h;split at h
   ·rcases List.mem_cons.1 h with rfl | h
    ·assumption
    ·exact Jcw h
   ·simp at h
theorem JaW (x:En): ∀ (l:List En),Xd l→ ∀ y∈l.dropWhile (JQ · x),JQ y x=false
 | [],_,y,h=>by simp at h
 | a::l,hs,y,h=>by
   have hs':=List.pairwise_cons.1 hs;rw [List.dropWhile_cons] at h;split at h
   ·exact JaW x l hs'.2 y h
   ·rename_i ha;have ha:JQ a x=false:=by simpa using ha
    rcases List.mem_cons.1 h with rfl | h
    ·exact ha
    ·cases h9:JQ y x with
     | false=>rfl
     | true=>rw [Jbf (hs'.1 y h) h9] at ha;simp at ha
theorem JlU {l:List En} {x:En} (h:Xd l) (hx: ∀ y∈l,y.id≠x.id):Xd (Zr l x):=by
 have e:=List.takeWhile_append_dropWhile (p:=(JQ · x)) (l:=l);have h2:Xd (l.takeWhile (JQ · x)++l.dropWhile (JQ · x)):=by rw [e];exact h
 have h3:=List.pairwise_append.1 h2;unfold Zr Xd;rw [List.pairwise_append];have hd: ∀ y∈l.dropWhile (JQ · x),JQ x y=true:=by
  intro y hy;have h4:=JaW x l h y hy;have h5:y∈l:=(List.dropWhile_sublist _).subset hy;rcases Jbe x y with h6 | h6 | h6
  ·exact absurd h6.2.symm (hx y h5)
  ·exact h6
  ·rw [h4] at h6;simp at h6
 refine ⟨h3.1,List.Pairwise.cons hd h3.2.1,?_⟩;intro a ha b hb;rcases List.mem_cons.1 hb with rfl | hb
 ·exact Jcw (f:=(JQ · b)) ha
 ·exact h3.2.2 a ha b hb
theorem Jp0 (l:List En) (x:En):(Zr l x).Perm (x::l):=by
 unfold Zr;refine (List.perm_middle).trans ?_;rw [List.takeWhile_append_dropWhile]
theorem JpT {l:List En} {x:En} (h:Yb l) (hx: ∀ y∈l,y.id≠x.id):Yb (Zr l x):=by
 refine ((Jp0 l x).pairwise_iff (fun h=>Ne.symm h)).2 ?_;exact List.Pairwise.cons (fun y hy=>(hx y hy).symm) h
theorem JdM {l:List En} (h:Yb l) {x y:En} (hx:x∈l) (hy:y∈l) (e:x.id=y.id):x=y:=by
 induction l with
 | nil=>simp at hx
 | cons a l ih=>
   have h2:=List.pairwise_cons.1 h;rcases List.mem_cons.1 hx with hx1 | hx1<;>rcases List.mem_cons.1 hy with hy1 | hy1
   ·rw [hx1,hy1]
   ·exact absurd (hx1 ▸ e) (h2.1 y hy1)
   ·exact absurd (hy1 ▸ e.symm) (h2.1 x hx1)
   ·exact ih h2.2 hx1 hy1
theorem Jfz (l:List En) (x:En):(∃ y∈l,y.id=x.id∧x.tm<y.tm∧Zy l x=l)∨(Zy l x=Zr (l.filter fun z=> !(z.id==x.id)) x∧(Yb l→ ∀ y∈l,y.id=x.id→y.tm≤x.tm)):=by
 unfold Zy;cases h:l.find? (fun y=>y.id==x.id) with
 | none=>
   right;have hn: ∀ y∈l,y.id≠x.id:=fun y hy=>by
    have:=List.find?_eq_none.1 h y hy;simpa using this
   refine ⟨?_,fun _ y hy he=>absurd he (hn y hy)⟩;simp only;rw [List.filter_eq_self.2];intro y hy;simpa using hn y hy
 | some y=>
   have hy:=List.mem_of_find?_eq_some h;have he:=List.find?_some h;simp only [beq_iff_eq] at he;simp only;split
   ·rename_i hlt;exact .inl ⟨y,hy,he,hlt,rfl⟩
   ·rename_i hlt;exact .inr ⟨rfl,fun ho z hz hze=>by rw [JdM ho hz hy (hze.trans he.symm)];omega⟩
theorem JeQ {l:List En} (h:Xd l) (f:En→Bool):Xd (l.filter f):=List.Pairwise.filter _ h
theorem JlD {l:List En} (h:Yb l) (f:En→Bool):Yb (l.filter f):=List.Pairwise.filter _ h
theorem Jnz {l:List En} {x:En} (h:Xd l) (ho:Yb l):Xd (Zy l x)∧Yb (Zy l x):=by
 rcases Jfz l x with ⟨_,_,_,_,e⟩ | ⟨e,_⟩
 ·rw [e];exact ⟨h,ho⟩
 ·rw [e];have hn: ∀ y∈l.filter (fun z=> !(z.id==x.id)),y.id≠x.id:=fun y hy=>by
   have:=(List.mem_filter.1 hy).2;simpa using this
  exact ⟨JlU (JeQ h _) hn,JpT (JlD ho _) hn⟩
theorem JrK {l:List En} {x y:En} (h:y∈Zy l x):y=x∨y∈l:=by
 rcases Jfz l x with ⟨_,_,_,_,e⟩ | ⟨e,_⟩
 ·rw [e] at h;exact .inr h
 ·rw [e,Jrz] at h;rcases h with h | h
  ·exact .inl h
  ·exact .inr (List.mem_filter.1 h).1
theorem JdD (m:List En): ∀ (l:List En),Xd l→Yb l→Xd (XF l m)∧Yb (XF l m):=by
 induction m with
 | nil=>intro l h ho;exact ⟨h,ho⟩
 | cons x m ih=>intro l h ho;have:=Jnz (x:=x) h ho;exact ih _ this.1 this.2
theorem Jqc (m:List En): ∀ (l:List En) (y:En),y∈XF l m→y∈l∨y∈m:=by
 induction m with
 | nil=>intro l y h;exact .inl h
 | cons x m ih=>
   intro l y h;rcases ih _ y h with h | h
   ·rcases JrK h with rfl | h
    ·exact .inr (by simp)
    ·exact .inl h
   ·exact .inr (by simp [h])
def Qy (l m:List En):List En:=(XF l m).take 20
theorem JjG {l m:List En} (h:Xd l) (ho:Yb l):Xd (Qy l m)∧Yb (Qy l m)∧(Qy l m).length≤20:=by
 have:=JdD m l h ho;exact ⟨this.1.sublist (List.take_sublist _ _),this.2.sublist (List.take_sublist _ _),by simp [Qy];omega⟩
def Yt (l:List (List UInt8)):Prop:=l.Pairwise fun x y=>JH x y=true
def Jfp (l:List (List UInt8)) (x:List UInt8):List (List UInt8):=l.takeWhile (JH · x)++x::l.dropWhile (JH · x)
def XE (l:List (List UInt8)) (x:List UInt8) (read:Bool):List (List UInt8):=
 if read=true then (if x∈l then l else Jfp l x) else l.filter (fun y=> !(y==x))
theorem JdP {f:List UInt8→Bool}: ∀ {l:List (List UInt8)} {y:List UInt8},y∈l.takeWhile f→f y=true
 | [],_,h=>by simp at h
 | a::l,y,h=>by
   rw [List.takeWhile_cons] at h;split at h
   ·rcases List.mem_cons.1 h with rfl | h
    ·assumption
    ·exact JdP h
   ·simp at h
theorem Jcy (x:List UInt8): ∀ (l:List (List UInt8)),Yt l→ ∀ y∈l.dropWhile (JH · x),JH y x=false
 | [],_,y,h=>by simp at h
 | a::l,hs,y,h=>by
   have hs':=List.pairwise_cons.1 hs;rw [List.dropWhile_cons] at h;split at h
   ·exact Jcy x l hs'.2 y h
   ·rename_i ha;have ha:JH a x=false:=by simpa using ha
    rcases List.mem_cons.1 h with rfl | h
    ·exact ha
    ·cases h9:JH y x with
     | false=>rfl
     | true=>rw [JaH _ _ _ (hs'.1 y h) h9] at ha;simp at ha
def JS (es:List En) (rd:List (List UInt8)):List En:=es.filter fun x=> !(rd.contains x.id)
end Go.Proofs.YtlcljanibjdejaaGreat
namespace Go.Proofs.YtlcljanibjdejaaGreat
open Go.RowKit Go.Maps
def Xc (x:En):Int:=
 if x.id=[] then 1 else if 60<x.id.length∨3000<x.title.length∨3000<x.link.length∨3000<x.html.length then 2 else if x.tm<0∨4102444799<x.tm then 3
 else if x.link≠[]∧Yd x.link=false then 4 else if Yo x.html=false then 4 else 0
def Jo (x:En):List Value:=[.string ⟨x.id.toArray⟩,.string ⟨x.title.toArray⟩,.string ⟨x.link.toArray⟩,.int .i64 x.tm,.string ⟨x.html.toArray⟩]
def Xh (x:En):Prop:=x.id.length≤maxLen∧x.title.length≤maxLen∧x.link.length≤maxLen∧x.html.length≤maxLen
theorem Jl5 (x:List UInt8):((⟨x.toArray⟩:ByteArray).toList != (⟨#[]⟩:ByteArray).toList)=decide (x≠[]):=JnQ x []
set_option maxRecDepth 8000 in
theorem Jf6 (x:En) (w:World) (hF:Xh x) (hM:JW w):
  Calls Tryz.prog 136 #[.agg (Jo x).toArray] w fun e w'=>e=.returned (.int .i64 (Xc x))∧Jb [] w w':=by
 have nn: ∀ g,g∉([]:List Nat):=fun _=>List.not_mem_nil;obtain ⟨id,ti,li,tm,ht⟩:=x;obtain ⟨hF1,hF2,hF3,hF4⟩:=hF;simp only at hF1 hF2 hF3 hF4;unfold Jo;simp only;obtain ⟨C,hC⟩: ∃ C,Xc ⟨id,ti,li,tm,ht⟩=C:=⟨_,rfl⟩;rw [hC];have HC:=Ja hC;obtain ⟨W,hW⟩: ∃ W,w.alloc (.cells #[.string ⟨id.toArray⟩,.string ⟨ti.toArray⟩,.string ⟨li.toArray⟩,.int .i64 tm,.string ⟨ht.toArray⟩] 75)=W:=⟨_,rfl⟩;have hkW:Jb [] w W:=by rw [←hW];exact (Jb.refl [] w).alloc _
 have hb:=(Qb rfl hW).1;have b0:W.cell? ⟨w.heap.size,0,none⟩=some (.string ⟨id.toArray⟩):=Jd hb 0;have b1:W.cell? ⟨w.heap.size,1,none⟩=some (.string ⟨ti.toArray⟩):=Jd hb 1;have b2:W.cell? ⟨w.heap.size,2,none⟩=some (.string ⟨li.toArray⟩):=Jd hb 2;have b3:W.cell? ⟨w.heap.size,3,none⟩=some (.int .i64 tm):=Jd hb 3;have b4:W.cell? ⟨w.heap.size,4,none⟩=some (.string ⟨ht.toArray⟩):=Jd hb 4;have z0:=Jv id;have z1:=Jv ti;have z2:=Jv li;have z4:=Jv ht;have HB:=Ja hb;have HKW:=Ja hkW;have HW:=Ja hW;clear hkW hb hW;unfold maxLen at hF1 hF2 hF3 hF4;unfold Xc at hC;simp only at hC;obtain ⟨M,hMx⟩: ∃ M:Int,(if (if ti.length<li.length then (li.length:Int) else (ti.length:Int))<(ht.length:Int) then (ht.length:Int) else if ti.length<li.length then (li.length:Int) else (ti.length:Int))=M:=⟨_,rfl⟩;have hMv:3000<M↔(3000<ti.length∨3000<li.length∨3000<ht.length):=by rw [←hMx];split<;>split<;>omega
 have hei:=Jfc id;have hel:=Jl5 li;by_cases h1:id=[]
 ·rw [if_pos h1] at hC;rw [decide_eq_true h1] at hei;have hie:id.isEmpty=true:=by simpa using h1
  clear h1;subst hC;go_enter Tryz.func136,Tryz.ntmps136;go_upto_region 1 with fail;rw [HW.out];go_wp2_with fail;go_ret;exact ⟨rfl,HKW.out⟩
 ·rw [if_neg h1] at hC;rw [decide_eq_false h1] at hei;have hie:id.isEmpty=false:=by simpa using h1
  clear h1;by_cases h2:60<id.length∨3000<ti.length∨3000<li.length∨3000<ht.length
  ·rw [if_pos h2] at hC;subst hC;by_cases h3:60<id.length
   ·have d3:decide ((60:Int)<(id.length:Int))=true:=by simp;omega
    clear h2 h3;go_enter Tryz.func136,Tryz.ntmps136;go_upto_region 1 with fail;rw [HW.out];go_wp2_with fail;go_ret;exact ⟨rfl,HKW.out⟩
   ·have d3:decide ((60:Int)<(id.length:Int))=false:=by simp;omega
    have d4:decide ((3000:Int)<M)=true:=decide_eq_true (by omega);clear h2 h3 hMv;go_enter Tryz.func136,Tryz.ntmps136;go_upto_region 1 with fail;rw [HW.out];go_wp2_with fail;go_ret;exact ⟨rfl,HKW.out⟩
  ·rw [if_neg h2] at hC;have d3:decide ((60:Int)<(id.length:Int))=false:=by simp;omega
   have d4:decide ((3000:Int)<M)=false:=decide_eq_false (by omega);have hsf:=Ja (fun w1 (hk:Jb [] w w1)=>Jm1 li w1 (hM.keeps hk (nn _)) (by omega));have hcl:=Ja (fun w1 (hk:Jb [] w w1)=>Jlt ht w1 (hM.keeps hk (nn _)) (by omega));generalize Yd li=SF at *;generalize Yo ht=CL at *;clear h2 hM hMv;by_cases h5:tm<0∨4102444799<tm
   ·rw [if_pos h5] at hC;subst hC;by_cases h6:tm<0
    ·have d5:decide (tm<0)=true:=decide_eq_true h6;clear h5 h6;go_enter Tryz.func136,Tryz.ntmps136;go_upto_region 1 with fail;rw [HW.out];go_wp2_with fail;go_ret;exact ⟨rfl,HKW.out⟩
    ·have d5:decide (tm<0)=false:=decide_eq_false h6;have d6:decide (4102444799<tm)=true:=decide_eq_true (by omega);clear h5 h6;go_enter Tryz.func136,Tryz.ntmps136;go_upto_region 1 with fail;rw [HW.out];go_wp2_with fail;go_ret;exact ⟨rfl,HKW.out⟩
   ·rw [if_neg h5] at hC;have d5:decide (tm<0)=false:=decide_eq_false (by omega);have d6:decide (4102444799<tm)=false:=decide_eq_false (by omega);clear h5;by_cases h7:li=[]
    ·rw [if_neg (fun h=>h.1 h7)] at hC;rw [decide_eq_false (fun h=>h h7)] at hel;have hle:li.isEmpty=true:=by simpa using h7
     clear h7;cases CL
     ·simp only [if_true] at hC;subst hC;go_enter Tryz.func136,Tryz.ntmps136;go_upto_region 1 with fail;rw [HW.out];go_wp2_with fail;refine (hcl.out W HKW.out).mono ?_;rintro e w2 ⟨rfl,hk2⟩;have HK2:=Ja (HKW.out.trans hk2);clear hk2;go_wp2_with fail;go_ret;exact ⟨rfl,HK2.out⟩
     ·simp only [Bool.true_eq_false,if_false] at hC;subst hC;go_enter Tryz.func136,Tryz.ntmps136;go_upto_region 1 with fail;rw [HW.out];go_wp2_with fail;refine (hcl.out W HKW.out).mono ?_;rintro e w2 ⟨rfl,hk2⟩;have HK2:=Ja (HKW.out.trans hk2);clear hk2;go_wp2_with fail;go_ret;exact ⟨rfl,HK2.out⟩
    ·rw [decide_eq_true h7] at hel;have hle:li.isEmpty=false:=by simpa using h7
     cases SF
     ·rw [if_pos ⟨h7,rfl⟩] at hC;subst hC;clear h7;go_enter Tryz.func136,Tryz.ntmps136;go_upto_region 1 with fail;rw [HW.out];go_wp2_with fail;refine (hsf.out W HKW.out).mono ?_;rintro e w1 ⟨rfl,hk1⟩;have HK1:=Ja (HKW.out.trans hk1);have b2:w1.cell? ⟨w.heap.size,4,none⟩=some (.string ⟨ht.toArray⟩):=Jz hk1 HB.out 4;clear hk1;go_wp2_with fail;go_ret;exact ⟨rfl,HK1.out⟩
     ·rw [if_neg (fun h=>by cases h.2)] at hC;clear h7;cases CL
      ·simp only [if_true] at hC;subst hC;go_enter Tryz.func136,Tryz.ntmps136;go_upto_region 1 with fail;rw [HW.out];go_wp2_with fail;refine (hsf.out W HKW.out).mono ?_;rintro e w1 ⟨rfl,hk1⟩;have HK1:=Ja (HKW.out.trans hk1);have b2:w1.cell? ⟨w.heap.size,4,none⟩=some (.string ⟨ht.toArray⟩):=Jz hk1 HB.out 4;clear hk1;go_wp2_with fail;refine (hcl.out w1 HK1.out).mono ?_;rintro e w2 ⟨rfl,hk2⟩;have HK2:=Ja (HK1.out.trans hk2);clear hk2;go_wp2_with fail;go_ret;exact ⟨rfl,HK2.out⟩
      ·simp only [Bool.true_eq_false,if_false] at hC;subst hC;go_enter Tryz.func136,Tryz.ntmps136;go_upto_region 1 with fail;rw [HW.out];go_wp2_with fail;refine (hsf.out W HKW.out).mono ?_;rintro e w1 ⟨rfl,hk1⟩;have HK1:=Ja (HKW.out.trans hk1);have b2:w1.cell? ⟨w.heap.size,4,none⟩=some (.string ⟨ht.toArray⟩):=Jz hk1 HB.out 4;clear hk1;go_wp2_with fail;refine (hcl.out w1 HK1.out).mono ?_;rintro e w2 ⟨rfl,hk2⟩;have HK2:=Ja (HK1.out.trans hk2);clear hk2;go_wp2_with fail;go_ret;exact ⟨rfl,HK2.out⟩
theorem Jb3: ∀ a b:List UInt8,Op.bytesLess a b=JH a b
 | [],[]=>by simp [Op.bytesLess,JH]
 | [],_::_=>by simp [Op.bytesLess,JH]
 | _::_,[]=>by simp [Op.bytesLess,JH]
 | a::r,b::q=>by
   have e:(a==b)=decide (a.toNat=b.toNat):=by rw [Bool.eq_iff_iff];simp [UInt8.toNat_inj]
   have l:(decide (a<b))=decide (a.toNat<b.toNat):=by rw [Bool.eq_iff_iff];simp [UInt8.lt_iff_toNat_lt]
   simp only [Op.bytesLess,JH,Jb3 r q,e,l]
theorem Jnh (x:Int) (w:World):Calls Tryz.prog 309 #[.int .i64 x] w fun e w'=>e=.returned (.bool false)∧w'=w:=by
 go_enter Tryz.func309,Tryz.ntmps309;go_wp2_with fail
 all_goals first | (go_ret;exact ⟨by simp,rfl⟩) | skip
theorem JhD (x:List UInt8) (w:World):Calls Tryz.prog 310 #[.string ⟨x.toArray⟩] w fun e w'=>e=.returned (.bool false)∧w'=w:=by
 have h:=JnQ x x;rw [decide_eq_false (fun h=>h rfl)] at h;go_enter Tryz.func310,Tryz.ntmps310;go_wp2_with fail;go_ret;exact ⟨by simp,rfl⟩
theorem JmH (x y:Int) (w:World):Calls Tryz.prog 266 #[.int .i64 x,.int .i64 y] w fun e w'=>e=.returned (.int .i64 (Jcq x y))∧w'=w:=by
 have n:=Ja (fun x w=>Jnh x w);unfold Jcq;by_cases h1:x<y
 ·have d1:decide (x<y)=true:=decide_eq_true h1;rw [if_pos h1];clear h1;go_enter Tryz.func266,Tryz.ntmps266;go_wp2_with fail;refine (n.out _ _).mono ?_;rintro e w1 ⟨rfl,h9⟩;subst h9;go_wp2_with fail;refine (n.out _ _).mono ?_;rintro e w1 ⟨rfl,h9⟩;subst h9;go_wp2_with fail;go_ret;exact ⟨rfl,rfl⟩
 ·have d1:decide (x<y)=false:=decide_eq_false h1;rw [if_neg h1];by_cases h2:y<x
  ·have d2:decide (y<x)=true:=decide_eq_true h2;rw [if_pos h2];clear h1 h2;go_enter Tryz.func266,Tryz.ntmps266;go_wp2_with fail;refine (n.out _ _).mono ?_;rintro e w1 ⟨rfl,h9⟩;subst h9;go_wp2_with fail;refine (n.out _ _).mono ?_;rintro e w1 ⟨rfl,h9⟩;subst h9;go_wp2_with fail;go_ret;exact ⟨rfl,rfl⟩
  ·have d2:decide (y<x)=false:=decide_eq_false h2;rw [if_neg h2];clear h1 h2;go_enter Tryz.func266,Tryz.ntmps266;go_wp2_with fail;refine (n.out _ _).mono ?_;rintro e w1 ⟨rfl,h9⟩;subst h9;go_wp2_with fail;refine (n.out _ _).mono ?_;rintro e w1 ⟨rfl,h9⟩;subst h9;go_wp2_with fail;go_ret;exact ⟨rfl,rfl⟩
theorem JmI (x y:List UInt8) (w:World):Calls Tryz.prog 267 #[.string ⟨x.toArray⟩,.string ⟨y.toArray⟩] w fun e w'=>e=.returned (.int .i64 (JdZ x y))∧w'=w:=by
 have n:=Ja (fun x w=>JhD x w);obtain ⟨R,hR⟩: ∃ R,JdZ x y=R:=⟨_,rfl⟩;rw [hR];unfold JdZ at hR;have e1:=Jb3 x y;rcases JaG x y with h | h | h
 ·have e2:(x==y)=true:=by simpa using h
  subst h;rw [Xq] at e1 hR;simp only [Bool.false_eq_true,if_false] at hR;subst hR;go_enter Tryz.func267,Tryz.ntmps267;go_wp2_with fail;refine (n.out _ _).mono ?_;rintro e w1 ⟨rfl,h9⟩;subst h9;go_wp2_with fail;refine (n.out _ _).mono ?_;rintro e w1 ⟨rfl,h9⟩;subst h9;go_wp2_with fail;go_ret;exact ⟨rfl,rfl⟩
 ·have e2:(x==y)=false:=by
   have:x≠y:=fun e=>by subst e;rw [Xq] at h;cases h
   simpa using this
  rw [h] at e1 hR;simp only [if_true] at hR;subst hR;clear h;go_enter Tryz.func267,Tryz.ntmps267;go_wp2_with fail;refine (n.out _ _).mono ?_;rintro e w1 ⟨rfl,h9⟩;subst h9;go_wp2_with fail;refine (n.out _ _).mono ?_;rintro e w1 ⟨rfl,h9⟩;subst h9;go_wp2_with fail;go_ret;exact ⟨rfl,rfl⟩
 ·have e2:(x==y)=false:=by
   have:x≠y:=fun e=>by subst e;rw [Xq] at h;cases h
   simpa using this
  rw [JaF h] at e1 hR;rw [h] at hR;simp only [Bool.false_eq_true,if_false,if_true] at hR;subst hR;clear h;go_enter Tryz.func267,Tryz.ntmps267;go_wp2_with fail;refine (n.out _ _).mono ?_;rintro e w1 ⟨rfl,h9⟩;subst h9;go_wp2_with fail;refine (n.out _ _).mono ?_;rintro e w1 ⟨rfl,h9⟩;subst h9;go_wp2_with fail;go_ret;exact ⟨rfl,rfl⟩
theorem JtR (a b:Int) (g:Nat) (w:World) (h:w.heap[g]?=some (.cells #[.int .i64 a,.int .i64 b] 3 (0,0))):
  Calls Tryz.prog 265 #[.slice (some ⟨g,0,none⟩) 2 2] w fun e w'=>e=.returned (.int .i64 (if a=0 then b else a))∧w'=w:=by
 have c0:w.cell? ⟨g,0,none⟩=some (.int .i64 a):=Jd h 0;have c1:w.cell? ⟨g,1,none⟩=some (.int .i64 b):=Jd h 1;clear h;obtain ⟨R,hR⟩: ∃ R,(if a=0 then b else a)=R:=⟨_,rfl⟩;rw [hR];go_enter Tryz.func265,Tryz.ntmps265;go_wp2_with fail;go_loopw [8] (fun i wr=>(i=.int .i64 0∨(i=.int .i64 1∧a=0)∨(i=.int .i64 2∧a=0∧b=0))∧wr=w) (fun i _=>2 - (intOf i).toNat)
 case atStart=>exact ⟨.inl rfl,rfl⟩
 case round=>
  obtain ⟨hi,rfl⟩:=hrel;rcases hi with rfl | ⟨rfl,ha⟩ | ⟨rfl,ha,hb⟩
  ·by_cases h0:a=0
   ·have e0:(a != 0)=false:=by simpa using h0
    subst h0;go_wp2_with fail;go_roundw
    case rel=>exact ⟨.inr (.inl ⟨rfl,trivial⟩),trivial⟩
    case measure=>simp [intOf]
   ·have e0:(a != 0)=true:=by simpa using h0
    rw [if_neg h0] at hR;subst hR;go_wp2_with fail;go_ret;exact ⟨rfl,rfl⟩
  ·subst ha;rw [if_pos rfl] at hR;subst hR;by_cases h0:b=0
   ·have e0:(b != 0)=false:=by simpa using h0
    subst h0;go_wp2_with fail;go_roundw
    case rel=>exact ⟨.inr (.inr ⟨rfl,trivial,trivial⟩),trivial⟩
    case measure=>simp [intOf]
   ·have e0:(b != 0)=true:=by simpa using h0
    go_wp2_with fail;go_ret;exact ⟨rfl,rfl⟩
  ·subst ha hb;rw [if_pos rfl] at hR;subst hR;go_wp2_with fail;go_ret;exact ⟨rfl,rfl⟩
@[reducible] def SO (W:World) (g0 g1:Nat) (i0 i1:List UInt8) (t0 t1:Int) (w':World):Prop:=
  Jb [] W w'∧w'.cell? ⟨g0,0,none⟩=some (.string ⟨i0.toArray⟩)∧w'.cell? ⟨g0,3,none⟩=some (.int .i64 t0)∧w'.cell? ⟨g1,0,none⟩=some (.string ⟨i1.toArray⟩)∧w'.cell? ⟨g1,3,none⟩=some (.int .i64 t1)
theorem SO.of {W w':World} {g0 g1:Nat} {x y:En} (h0:W.heap[g0]?=some (.cells (Jo x).toArray 75 (0,0))) (h1:W.heap[g1]?=some (.cells (Jo y).toArray 75 (0,0))) (hk:Jb [] W w'):SO W g0 g1 x.id y.id x.tm y.tm w':=
 ⟨hk,Jz hk h0 0,Jz hk h0 3,Jz hk h1 0,Jz hk h1 3⟩
theorem JsL (x y:En):JbU x y=if Jcq y.tm x.tm=0 then JdZ x.id y.id else Jcq y.tm x.tm:=by
 unfold JbU;by_cases h:Jcq y.tm x.tm=0<;>simp [h]
set_option maxRecDepth 8000 in
theorem Ji3 (x y:En) (w:World):
  Calls Tryz.prog 192 #[.agg (Jo x).toArray,.agg (Jo y).toArray] w fun e w'=>e=.returned (.int .i64 (JbU x y))∧Jb [] w w':=by
 obtain ⟨W,hW⟩: ∃ W,(w.alloc (.cells (Jo x).toArray 75)).alloc (.cells (Jo y).toArray 75)=W:=⟨_,rfl⟩;have hkW:Jb [] w W:=by rw [←hW];exact ((Jb.refl [] w).alloc _).alloc _
 have hb0:W.heap[w.heap.size]?=some (.cells (Jo x).toArray 75 (0,0)):=by rw [←hW];exact Yi w _ _
 have hb1:W.heap[w.heap.size+1]?=some (.cells (Jo y).toArray 75 (0,0)):=by rw [←hW];exact Yj w _ _
 have HB0:=Ja hb0;have HB1:=Ja hb1;have HKW:=Ja hkW;have HW:=Ja hW;rw [JsL];have hs0:=SO.of hb0 hb1 (Jb.refl [] W);have hci:=Ja (fun w=>JmH y.tm x.tm w);have hcs:=Ja (fun w=>JmI x.id y.id w);have hor:=Ja (fun g w h=>JtR (Jcq y.tm x.tm) (JdZ x.id y.id) g w h);obtain ⟨A,hA⟩: ∃ A,Jcq y.tm x.tm=A:=⟨_,rfl⟩;obtain ⟨B,hB⟩: ∃ B,JdZ x.id y.id=B:=⟨_,rfl⟩;rw [hA] at hci hor ⊢;rw [hB] at hcs hor ⊢;obtain ⟨R,hR⟩: ∃ R,(if A=0 then B else A)=R:=⟨_,rfl⟩;rw [hR] at hor ⊢;clear hkW hb0 hb1 hW hA hB hR;obtain ⟨hk0,u0,u1,u2,u3⟩:=hs0;clear hk0;go_enter Tryz.func192,Tryz.ntmps192;go_upto_region 1 with fail;rw [HW.out]
 go_region_held3 (SO W w.heap.size (w.heap.size+1) x.id y.id x.tm y.tm) ((first | assumption | (refine SO.of HB0.out HB1.out ?_;first | exact (Jb.refl [] W) | exact (Jb.refl [] W).drew | exact (‹SO W w.heap.size (w.heap.size+1) x.id y.id x.tm y.tm _›).1.alloc _ | exact (‹SO W w.heap.size (w.heap.size+1) x.id y.id x.tm y.tm _›).1.drewN _)))
  (first
    | (go_at_call 266;refine (hci.out _).mono ?_;rintro e w7 ⟨rfl,h7⟩;subst h7)
    | (go_at_call 267;refine (hcs.out _).mono ?_;rintro e w8 ⟨rfl,h8⟩;subst h8)
    | (go_at_call 265
       refine (hor.out W.heap.size _ ?_).mono ?_
       ·exact heap_alloc_new W _
       rintro e w9 ⟨rfl,h9⟩;subst h9))
 all_goals go_wp2_with fail
 all_goals go_ret
 all_goals exact ⟨rfl,HKW.out.trans (‹SO W w.heap.size (w.heap.size+1) x.id y.id x.tm y.tm _›).1⟩
def Je (l:List En):List Value:=l.flatMap Jo
theorem Qu (l:List En):(Je l).length=l.length * 5:=by
 induction l with
 | nil=>rfl
 | cons p l ih=>simp only [Je,List.flatMap_cons,List.length_append] at ih ⊢;rw [ih];simp [Jo];omega
theorem Jd3 (l:List En) (k j:Nat) (hk:k<l.length) (hj:j<5):(Je l)[k * 5+j]?=(Jo l[k])[j]?:=by
 induction l generalizing k with
 | nil=>simp at hk
 | cons p l ih=>
   have e:Je (p::l)=Jo p++Je l:=by simp [Je]
   have h4:(Jo p).length=5:=rfl;rw [e];cases k with
   | zero=>rw [Nat.zero_mul,Nat.zero_add,List.getElem?_append_left (by omega)];rfl
   | succ k=>
     rw [List.getElem?_append_right (by omega),h4,show (k+1) * 5+j - 5=k * 5+j from by omega];exact ih k (by simpa using hk)
theorem Qs {w:World} {g o:Nat} {l:List En} (h: ∀ j u,(Je l)[j]?=some u→w.cell? ⟨g,o+j,none⟩=some u) (k:Nat) (hk:k<l.length):
  w.cell? ⟨g,o+k * 5,none⟩=some (.string ⟨l[k].id.toArray⟩)∧w.cell? ⟨g,o+k * 5+1,none⟩=some (.string ⟨l[k].title.toArray⟩)∧w.cell? ⟨g,o+k * 5+2,none⟩=some (.string ⟨l[k].link.toArray⟩)∧w.cell? ⟨g,o+k * 5+3,none⟩=some (.int .i64 l[k].tm)∧w.cell? ⟨g,o+k * 5+4,none⟩=some (.string ⟨l[k].html.toArray⟩):=by
 have e: ∀ j,j<5→o+k * 5+j=o+(k * 5+j):=fun j _=>by omega
 refine ⟨?_,?_,?_,?_,?_⟩
 ·exact h (k * 5) _ ((Jd3 l k 0 hk (by omega)).trans rfl)
 ·rw [e 1 (by omega)];exact h _ _ ((Jd3 l k 1 hk (by omega)).trans rfl)
 ·rw [e 2 (by omega)];exact h _ _ ((Jd3 l k 2 hk (by omega)).trans rfl)
 ·rw [e 3 (by omega)];exact h _ _ ((Jd3 l k 3 hk (by omega)).trans rfl)
 ·rw [e 4 (by omega)];exact h _ _ ((Jd3 l k 4 hk (by omega)).trans rfl)
def Jaj (p:Option En) (x:En):Bool:=match p with
 | none=>false
 | some y=>decide (0<JbU y x)
def Yk:Option En→List (List UInt8)→List En→Int
 | _,_,[]=>0
 | p,met,x::r=>if Xc x≠0 then Xc x else if x.id∈met then 6 else if Jaj p x=true then 4 else Yk (some x) (met++[x.id]) r
theorem Jg7 (p:Option En) (met:List (List UInt8)) (l:List En) (k:Nat) (hk:k<l.length):Yk p met (l.drop k)=if Xc l[k]≠0 then Xc l[k] else if l[k].id∈met then 6 else if Jaj p l[k]=true then 4 else Yk (some l[k]) (met++[l[k].id]) (l.drop (k+1)):=by
 rw [List.drop_eq_getElem_cons hk];rfl
def Y0 (l:List En) (k:Nat):Option En:=if k=0 then none else l[k - 1]?
@[reducible] def SP (W:World) (g:Nat) (x:En) (gr o:Nat) (y:En) (w':World):Prop:=
  Jb [] W w'∧(w'.cell? ⟨g,0,none⟩=some (.string ⟨x.id.toArray⟩)∧w'.cell? ⟨g,1,none⟩=some (.string ⟨x.title.toArray⟩)∧w'.cell? ⟨g,2,none⟩=some (.string ⟨x.link.toArray⟩)∧w'.cell? ⟨g,3,none⟩=some (.int .i64 x.tm)∧w'.cell? ⟨g,4,none⟩=some (.string ⟨x.html.toArray⟩))∧
  (w'.cell? ⟨gr,o,none⟩=some (.string ⟨y.id.toArray⟩)∧w'.cell? ⟨gr,o+1,none⟩=some (.string ⟨y.title.toArray⟩)∧w'.cell? ⟨gr,o+2,none⟩=some (.string ⟨y.link.toArray⟩)∧w'.cell? ⟨gr,o+3,none⟩=some (.int .i64 y.tm)∧w'.cell? ⟨gr,o+4,none⟩=some (.string ⟨y.html.toArray⟩))
theorem SP.keeps {W w':World} {g gr o:Nat} {x y:En} (h:SP W g x gr o y W) (hk:Jb [] W w'):SP W g x gr o y w':=by
 obtain ⟨_,⟨h0,h1,h2,h3,h4⟩,k0,k1,k2,k3,k4⟩:=h;exact ⟨hk,⟨Jc hk h0,Jc hk h1,Jc hk h2,Jc hk h3,Jc hk h4⟩,Jc hk k0,Jc hk k1,Jc hk k2,Jc hk k3,Jc hk k4⟩
@[reducible] def SB (W:World) (g:Nat) (t:List UInt8) (w':World):Prop:=Jb [] W w'∧w'.cell? ⟨g,0,none⟩=some (.string ⟨t.toArray⟩)
set_option maxRecDepth 8000 in
theorem JgD (w:World) (v:Value) (l:List En) (hv:Jh w v l.length 5 (Je l)) (hf: ∀ x∈l,Xh x) (hM:JW w):
  Calls Tryz.prog 133 #[v] w fun e w'=>e=.returned (.int .i64 (Yk none [] l))∧Jb [] w w':=by
 obtain ⟨o,c,rfl,h1,h2⟩:=hv.form;obtain ⟨R,hR⟩: ∃ R,Yk none [] l=R:=⟨_,rfl⟩;rw [hR];have HR:=Ja hR;have HV:=Ja hv;have HF:=Ja hf;have HM:=Ja hM;clear hR hv hf hM;unfold maxLen at h2;have hmm:=@run_makeMap Tryz.prog;go_enter Tryz.func133,Tryz.ntmps133;go_wp2_with fail;have hset0:XQ (w.alloc (.map #[] 0)) w.heap.size []:=XQ.made w;have hk0:Jb [] w (w.alloc (.map #[] 0)):=(Jb.refl [] w).alloc _;go_loopw [12] (fun i wr=> ∃ k:Nat,k≤l.length∧i=.int .i64 k∧XQ wr w.heap.size ((l.take k).map (·.id))∧Jb [] w wr∧Hid (Yk (Y0 l k) ((l.take k).map (·.id)) (l.drop k)=R)) (fun i _=>l.length - (intOf i).toNat)
 case atStart=>exact ⟨0,Nat.zero_le _,rfl,hset0,hk0,HR⟩
 case round=>
  obtain ⟨k,hk,rfl,hset,hkw,hC⟩:=hrel;clear HR hset0 hk0;by_cases hlt:k<l.length
  ·have hC1:=hC.out;rw [Jg7 _ _ l k hlt] at hC1;have hfk:Xh l[k]:=HF.out _ (List.getElem_mem hlt);have hts:(l.take (k+1)).map (·.id)=(l.take k).map (·.id)++[l[k].id]:=by rw [List.take_succ_eq_append_getElem hlt,List.map_append];rfl
   have hpv:Y0 l (k+1)=some l[k]:=by simp [Y0,hlt]
   have hml:((l.take k).map (·.id)).length<maxLen:=by simp;unfold maxLen;omega
   obtain ⟨g,o0,rfl,hc⟩:=(HV.out.keeps hkw).addr (by omega);obtain ⟨a0,a1,a2,a3,a4⟩:=Qs hc k hlt;have hprev: ∀ k1,k=k1+1→ ∃ y,Y0 l k=some y∧(wr.cell? ⟨g,o0+k1 * 5,none⟩=some (.string ⟨y.id.toArray⟩)∧wr.cell? ⟨g,o0+k1 * 5+1,none⟩=some (.string ⟨y.title.toArray⟩)∧wr.cell? ⟨g,o0+k1 * 5+2,none⟩=some (.string ⟨y.link.toArray⟩)∧wr.cell? ⟨g,o0+k1 * 5+3,none⟩=some (.int .i64 y.tm)∧wr.cell? ⟨g,o0+k1 * 5+4,none⟩=some (.string ⟨y.html.toArray⟩)):=fun k1 e=>by
    have h9:=Qs hc k1 (by omega);exact ⟨l[k1],by subst e;simp [Y0,show k1<l.length from by omega],h9⟩
   have hp0:k=0→Y0 l k=none:=fun e=>by simp [Y0,e]
   have HC1:=Ja hC1;have HP0:=Ja hp0;have HTS:=Ja hts;have HPV:=Ja hpv;have HPR:=Ja hprev;clear hC hC1 hc hts hpv hprev hp0;generalize (l.take k).map (·.id)=met at *;generalize Y0 l k=pv at *;generalize l[k]=x at *;obtain ⟨W,hW⟩: ∃ W,wr.alloc (.cells #[.string ⟨x.id.toArray⟩,.string ⟨x.title.toArray⟩,.string ⟨x.link.toArray⟩,.int .i64 x.tm,.string ⟨x.html.toArray⟩] 75)=W:=⟨_,rfl⟩;have hkN:Jb [] wr W:=by rw [←hW];exact (Jb.refl [] wr).alloc _
   have HB:=Ja (Qb rfl hW).1;have HKN:=Ja hkN;have HKR:=Ja (hkw.trans hkN);have hce:=Ja (fun w1 (hk1:Jb [] w w1)=>Jf6 x w1 hfk (HM.out.keeps hk1 List.not_mem_nil));unfold Jo at hce;have HW:=Ja hW;have d0:W.cell? ⟨wr.heap.size,0,none⟩=some (.string ⟨x.id.toArray⟩):=Jd HB.out 0;have d1:W.cell? ⟨wr.heap.size,1,none⟩=some (.string ⟨x.title.toArray⟩):=Jd HB.out 1;have d2:W.cell? ⟨wr.heap.size,2,none⟩=some (.string ⟨x.link.toArray⟩):=Jd HB.out 2;have d3:W.cell? ⟨wr.heap.size,3,none⟩=some (.int .i64 x.tm):=Jd HB.out 3;have d4:W.cell? ⟨wr.heap.size,4,none⟩=some (.string ⟨x.html.toArray⟩):=Jd HB.out 4;have hfi:=hfk.1;clear hkN hW hfk;obtain ⟨CX,hCX⟩: ∃ CX,Xc x=CX:=⟨_,rfl⟩;rw [hCX] at HC1 hce;clear hCX;go_upto_region 5 with fail;rw [HW.out];by_cases hcx:CX=0
   ·subst hcx;by_cases hmt:x.id∈met
    ·have hR6:R=6:=by rw [←HC1.out];simp [hmt]
     subst hR6;have hd:decide (x.id∈met)=true:=by simpa using hmt
     clear HC1 hmt;go_wp2_with fail;refine (hce.out W HKR.out).mono ?_;rintro e w3 ⟨rfl,hk3⟩;have hset3:=(hset.keeps (HKN.out.trans hk3) List.not_mem_nil);have HK3:=Ja (HKR.out.trans hk3);have HB3:=Ja ((hk3.block _ (lt_of_block HB.out) List.not_mem_nil).trans HB.out);have HKN3:=Ja (HKN.out.trans hk3);clear hk3 a0 a1 a2 a3 a4;have b0:w3.cell? ⟨wr.heap.size,0,none⟩=some (.string ⟨x.id.toArray⟩):=Jd HB3.out 0;have hlook:=hset3.look x.id hfi;rw [hd] at hlook;go_wp2_with fail;go_ret;exact ⟨rfl,HK3.out.alloc _⟩
    ·have hd:decide (x.id∈met)=false:=by simpa using hmt
     have HC2:=Ja (show (if Jaj pv x=true then 4 else Yk (some x) (met++[x.id]) (l.drop (k+1)))=R from by have:=HC1.out;simpa [hmt] using this);clear HC1 hmt;go_wp2_with fail;refine (hce.out W HKR.out).mono ?_;rintro e w3 ⟨rfl,hk3⟩;have hset3:=(hset.keeps (HKN.out.trans hk3) List.not_mem_nil);have HK3:=Ja (HKR.out.trans hk3);have HB3:=Ja ((hk3.block _ (lt_of_block HB.out) List.not_mem_nil).trans HB.out);have HKN3:=Ja (HKN.out.trans hk3);clear hk3 a0 a1 a2 a3 a4;have b0:w3.cell? ⟨wr.heap.size,0,none⟩=some (.string ⟨x.id.toArray⟩):=Jd HB3.out 0;have hlook:=hset3.look x.id hfi;rw [hd] at hlook;obtain ⟨W4,hW4⟩: ∃ W4,w3.alloc (.cells #[] 182)=W4:=⟨_,rfl⟩;have hk4:Jb [] w3 W4:=by rw [←hW4];exact (Jb.refl [] w3).alloc _
     have HW4:=Ja hW4;have HK4:=Ja (HK3.out.trans hk4);have HS4:=Ja (hset3.keeps hk4 List.not_mem_nil);have HB4:=Ja ((hk4.block _ (lt_of_block HB3.out) List.not_mem_nil).trans HB3.out);have HN4:=Ja (HKN3.out.trans hk4);clear hk4 hW4;go_upto_region 11 with fail;rw [HW4.out];rcases Nat.eq_zero_or_pos k with hk00 | hk00
     ·have hpn:=HP0.out hk00;subst hpn;have HC3:Hid (Yk (some x) (met++[x.id]) (l.drop (k+1))=R):=Ja (by have:=HC2.out;simpa [Jaj] using this);subst hk00;clear HC2 HP0 HPR;have hall: ∀ n, ∃ w6,(Instr.mapUpdate 219 (.map (some w.heap.size)) (.string ⟨x.id.toArray⟩) (.agg #[])).run Tryz.prog (W4.drewN n)=.ok () w6∧XQ w6 w.heap.size (met++[x.id])∧Jb [w.heap.size] (W4.drewN n) w6:=fun n=>(HS4.out.keeps ((Jb.refl [] W4).drewN n) List.not_mem_nil).add x.id hfi hml;obtain ⟨F,hF⟩:=Classical.axiomOfChoice hall;have hup:=fun n=>(hF n).1;have HF6:=Ja (fun n=>(hF n).2);have z0: ∀ n,(W4.drewN n).cell? ⟨wr.heap.size,0,none⟩=some (.string ⟨x.id.toArray⟩):=fun n=>Jc ((Jb.refl [] W4).drewN n) (Jd HB4.out 0);clear hall hF
      go_quiet (fail)
      go_wp2_with fail;go_roundw
      case rel=>exact ⟨1,by omega,by go_num,by rw [HTS.out];exact (HF6.out _).1,((HK4.out.trans ((Jb.refl [] W4).drewN _)).up.trans (HF6.out _).2).mono (fun i hi hlt=>by simp at hi;omega),by rw [HTS.out,HPV.out];exact HC3⟩
      case measure=>simp [intOf];omega
     ·obtain ⟨k1,rfl⟩: ∃ k1,k=k1+1:=⟨k - 1,by omega⟩;obtain ⟨y,rfl,y0,y1,y2,y3,y4⟩:=HPR.out k1 rfl;have hS0:SP W4 wr.heap.size x g (o0+k1 * 5) y W4:=⟨Jb.refl _ _,⟨Jd HB4.out 0,Jd HB4.out 1,Jd HB4.out 2,Jd HB4.out 3,Jd HB4.out 4⟩,Jc HN4.out y0,Jc HN4.out y1,Jc HN4.out y2,Jc HN4.out y3,Jc HN4.out y4⟩;have hi1:k1<l.length:=by omega
      have hi2:(0:Int)≤(k1:Int):=by omega
      have hi3:(k1:Int)<(l.length:Int):=by omega
      have hi4:wrap64 (k1:Int)=(k1:Int):=by unfold wrap64;omega
      have hi5:wrap64 (((k1+1:Nat):Int) - 1)=(k1:Int):=by unfold wrap64;omega
      have hi6:IntKind.i64.wrap (((k1+1:Nat):Int) - 1)=(k1:Int):=by rw [IntKind.wrap_i64];omega
      have hi7:IntKind.i64.wrap (k1:Int)=(k1:Int):=by rw [IntKind.wrap_i64];omega
      have hi8:(((k1+1:Nat):Int) - 1)=(k1:Int):=by omega
      have hord:=Ja (fun w=>Ji3 y x w);unfold Jo at hord;clear y0 y1 y2 y3 y4 HPR HP0;obtain ⟨OD,hOD⟩: ∃ OD,JbU y x=OD:=⟨_,rfl⟩;rw [hOD] at hord;by_cases hbk:0<OD
      ·have hR4:R=4:=by rw [←HC2.out];simp [Jaj,hOD,hbk]
       subst hR4;have dbk:decide (0<OD)=true:=decide_eq_true hbk;clear HC2 hOD hbk;have hS1:=hS0;obtain ⟨_,⟨b0',b1,b2,b3,b4⟩,c0,c1,c2,c3,c4⟩:=hS1
       go_region_held3 (SP W4 wr.heap.size x g (o0+k1 * 5) y) ((first | assumption | (refine SP.keeps hS0 ?_;first | exact (Jb.refl [] W4) | exact (Jb.refl [] W4).drew | exact (‹SP W4 wr.heap.size x g (o0+k1 * 5) y _›).1.trans hkx | exact (‹SP W4 wr.heap.size x g (o0+k1 * 5) y _›).1.alloc _ | exact (‹SP W4 wr.heap.size x g (o0+k1 * 5) y _›).1.drewN _)))
        (first
          | (go_at_call 192;refine (hord.out _).mono ?_;rintro e w7 ⟨rfl,hkx⟩))
       all_goals go_wp2_with fail
       all_goals go_ret
       all_goals exact ⟨rfl,HK4.out.trans (‹SP W4 wr.heap.size x g (o0+k1 * 5) y _›).1⟩
      ·have dbk:decide (0<OD)=false:=decide_eq_false hbk;have HC3:Hid (Yk (some x) (met++[x.id]) (l.drop (k1+1+1))=R):=Ja (by have:=HC2.out;simpa [Jaj,hOD,hbk] using this);clear HC2 hOD hbk;have hS1:=hS0;obtain ⟨_,⟨b0',b1,b2,b3,b4⟩,c0,c1,c2,c3,c4⟩:=hS1
       go_region_held3 (SP W4 wr.heap.size x g (o0+k1 * 5) y) ((first | assumption | (refine SP.keeps hS0 ?_;first | exact (Jb.refl [] W4) | exact (Jb.refl [] W4).drew | exact (‹SP W4 wr.heap.size x g (o0+k1 * 5) y _›).1.trans hkx | exact (‹SP W4 wr.heap.size x g (o0+k1 * 5) y _›).1.alloc _ | exact (‹SP W4 wr.heap.size x g (o0+k1 * 5) y _›).1.drewN _)))
        (first
          | (go_at_call 192;refine (hord.out _).mono ?_;rintro e w7 ⟨rfl,hkx⟩))
       all_goals obtain ⟨hkS,⟨s0,s1,s2,s3,s4⟩,_⟩:=‹SP W4 wr.heap.size x g (o0+k1 * 5) y _›
       all_goals obtain ⟨w6,hup,hset6,hk6⟩:=(HS4.out.keeps hkS List.not_mem_nil).add x.id hfi hml
       all_goals have hkw6:Hid (Jb [] w w6):=Ja (((HK4.out.trans hkS).up.trans hk6).mono fun i hi hlt=>by simp at hi;omega)
       all_goals have HS6:=Ja hset6
       all_goals clear hkS hset6 hk6
       all_goals go_wp2_with fail
       all_goals go_roundw
       all_goals first
        | exact ⟨k1+1+1,by omega,by go_num,by rw [HTS.out];exact HS6.out,hkw6.out,by rw [HTS.out,HPV.out];exact HC3⟩
        | (simp [intOf];omega)
   ·have hRx:R=CX:=by rw [←HC1.out];simp [hcx]
    have hne:(CX != 0)=true:=by simpa using hcx
    subst hRx;clear HC1;go_wp2_with fail;refine (hce.out W HKR.out).mono ?_;rintro e w3 ⟨rfl,hk3⟩;have hset3:=(hset.keeps (HKN.out.trans hk3) List.not_mem_nil);have HK3:=Ja (HKR.out.trans hk3);have HB3:=Ja ((hk3.block _ (lt_of_block HB.out) List.not_mem_nil).trans HB.out);have HKN3:=Ja (HKN.out.trans hk3);clear hk3 a0 a1 a2 a3 a4;have b0:w3.cell? ⟨wr.heap.size,0,none⟩=some (.string ⟨x.id.toArray⟩):=Jd HB3.out 0;go_wp2_with fail;go_ret;exact ⟨rfl,HK3.out⟩
  ·have hRR:R=0:=by
    rw [←hC.out,List.drop_eq_nil_of_le (by omega)];rfl
   subst hRR;go_wp2_with fail;go_ret;exact ⟨rfl,hkw⟩
def X5:List En→Int
 | []=>0
 | x::r=>if Xc x≠0 then Xc x else X5 r
theorem JdH (l:List En) (k:Nat) (hk:k<l.length):X5 (l.drop k)=if Xc l[k]≠0 then Xc l[k] else X5 (l.drop (k+1)):=by
 rw [List.drop_eq_getElem_cons hk];rfl
set_option maxRecDepth 8000 in
theorem Jdj (w:World) (v:Value) (l:List En) (hv:Jh w v l.length 5 (Je l)) (hf: ∀ x∈l,Xh x) (hM:JW w):
  Calls Tryz.prog 117 #[v] w fun e w'=>e=.returned (.int .i64 (if 12<l.length then 2 else X5 l))∧Jb [] w w':=by
 obtain ⟨o,c,rfl,h1,h2⟩:=hv.form;have HV:=Ja hv;have HF:=Ja hf;have HM:=Ja hM;clear hv hf hM;unfold maxLen at h2;by_cases h12:12<l.length
 ·rw [if_pos h12];have d:decide ((12:Int)<(l.length:Int))=true:=by simp;omega
  clear h12;go_enter Tryz.func117,Tryz.ntmps117;go_wp2_with fail;go_ret;exact ⟨rfl,Jb.refl _ _⟩
 ·rw [if_neg h12];have d:decide ((12:Int)<(l.length:Int))=false:=by simp;omega
  obtain ⟨R,hR⟩: ∃ R,X5 l=R:=⟨_,rfl⟩;rw [hR];have HR:=Ja hR;clear h12 hR;go_enter Tryz.func117,Tryz.ntmps117;go_wp2_with fail;go_loopw [11] (fun i wr=> ∃ k:Nat,k≤l.length∧i=.int .i64 k∧Jb [] w wr∧Hid (X5 (l.drop k)=R)) (fun i _=>l.length - (intOf i).toNat)
  case atStart=>exact ⟨0,Nat.zero_le _,rfl,Jb.refl _ _,HR⟩
  case round=>
   obtain ⟨k,hk,rfl,hkw,hC⟩:=hrel;clear HR;by_cases hlt:k<l.length
   ·have hC1:=hC.out;rw [JdH l k hlt] at hC1;have hfk:Xh l[k]:=HF.out _ (List.getElem_mem hlt);obtain ⟨g,o0,rfl,hc⟩:=(HV.out.keeps hkw).addr (by omega);obtain ⟨a0,a1,a2,a3,a4⟩:=Qs hc k hlt;have HC1:=Ja hC1;clear hC hC1 hc;generalize l[k]=x at *;obtain ⟨W,hW⟩: ∃ W,wr.alloc (.cells #[.string ⟨x.id.toArray⟩,.string ⟨x.title.toArray⟩,.string ⟨x.link.toArray⟩,.int .i64 x.tm,.string ⟨x.html.toArray⟩] 75)=W:=⟨_,rfl⟩;have hkN:Jb [] wr W:=by rw [←hW];exact (Jb.refl [] wr).alloc _
    have hb:=(Qb rfl hW).1;have HKR:=Ja (hkw.trans hkN);have hce:=Ja (fun w1 (hk1:Jb [] w w1)=>Jf6 x w1 hfk (HM.out.keeps hk1 List.not_mem_nil));unfold Jo at hce;have HW:=Ja hW;have d0:W.cell? ⟨wr.heap.size,0,none⟩=some (.string ⟨x.id.toArray⟩):=Jd hb 0;have d1:W.cell? ⟨wr.heap.size,1,none⟩=some (.string ⟨x.title.toArray⟩):=Jd hb 1;have d2:W.cell? ⟨wr.heap.size,2,none⟩=some (.string ⟨x.link.toArray⟩):=Jd hb 2;have d3:W.cell? ⟨wr.heap.size,3,none⟩=some (.int .i64 x.tm):=Jd hb 3;have d4:W.cell? ⟨wr.heap.size,4,none⟩=some (.string ⟨x.html.toArray⟩):=Jd hb 4;clear hkN hW hfk hb;obtain ⟨CX,hCX⟩: ∃ CX,Xc x=CX:=⟨_,rfl⟩;rw [hCX] at HC1 hce;clear hCX;go_upto_region 6 with fail;rw [HW.out];go_wp2_with fail;refine (hce.out W HKR.out).mono ?_;rintro e w3 ⟨rfl,hk3⟩;have HK3:=Ja (HKR.out.trans hk3);clear hk3;by_cases hcx:CX=0
    ·subst hcx;have HC2:Hid (X5 (l.drop (k+1))=R):=Ja (by have:=HC1.out;simpa using this);clear HC1;go_wp2_with fail;go_roundw
     case rel=>exact ⟨k+1,by omega,by go_num,HK3.out,HC2⟩
     case measure=>simp [intOf];omega
    ·have hRx:R=CX:=by rw [←HC1.out];simp [hcx]
     have hne:(CX != 0)=true:=by simpa using hcx
     subst hRx;clear HC1;go_wp2_with fail;go_ret;exact ⟨rfl,HK3.out⟩
   ·have hRR:R=0:=by
     rw [←hC.out,List.drop_eq_nil_of_le (by omega)];rfl
    subst hRR;go_wp2_with fail;go_ret;exact ⟨rfl,hkw⟩
def Jq (l:List (List UInt8)):List Value:=l.map fun s=>.string ⟨s.toArray⟩
theorem ZO (l:List (List UInt8)) (k:Nat) (hk:k<l.length):(Jq l)[k]?=some (.string ⟨l[k].toArray⟩):=by simp [Jq,hk]
def Jb7 (p:Option (List UInt8)) (x:List UInt8):Bool:=match p with
 | none=>false
 | some y=> !JH y x
def Xe:Option (List UInt8)→List (List UInt8)→Int
 | _,[]=>0
 | p,x::r=>if x=[] then 1 else if 60<x.length then 2 else if Jb7 p x=true then 4 else Xe (some x) r
theorem Je6 (p:Option (List UInt8)) (l:List (List UInt8)) (k:Nat) (hk:k<l.length):Xe p (l.drop k)=if l[k]=[] then 1 else if 60<l[k].length then 2 else if Jb7 p l[k]=true then 4 else Xe (some l[k]) (l.drop (k+1)):=by
 rw [List.drop_eq_getElem_cons hk];rfl
def Y1 (l:List (List UInt8)) (k:Nat):Option (List UInt8):=if k=0 then none else l[k - 1]?
theorem JtM (a b:List UInt8):(JH a b || (a==b))= !JH b a:=by
 rcases JaG a b with h | h | h
 ·subst h;simp [Xq]
 ·simp [h,JaF h]
 ·have:a≠b:=fun e=>by subst e;rw [Xq] at h;cases h
  simp [h,JaF h,this]
set_option maxRecDepth 8000 in
theorem Jjq (w:World) (v:Value) (l:List (List UInt8)) (hv:Jh w v l.length 1 (Jq l)):
  Calls Tryz.prog 134 #[v] w fun e w'=>e=.returned (.int .i64 (Xe none l))∧Jb [] w w':=by
 obtain ⟨o,c,rfl,h1,h2⟩:=hv.form;have HV:=Ja hv;clear hv;unfold maxLen at h2;obtain ⟨R,hR⟩: ∃ R,Xe none l=R:=⟨_,rfl⟩;rw [hR];have HR:=Ja hR;clear hR;go_enter Tryz.func134,Tryz.ntmps134;go_wp2_with fail;go_loopw [7] (fun i wr=> ∃ k:Nat,k≤l.length∧i=.int .i64 k∧Jb [] w wr∧Hid (Xe (Y1 l k) (l.drop k)=R)) (fun i _=>l.length - (intOf i).toNat)
 case atStart=>exact ⟨0,Nat.zero_le _,rfl,Jb.refl _ _,HR⟩
 case round=>
  obtain ⟨k,hk,rfl,hkw,hC⟩:=hrel;clear HR;by_cases hlt:k<l.length
  ·have hC1:=hC.out;rw [Je6 _ l k hlt] at hC1;have hpv:Y1 l (k+1)=some l[k]:=by simp [Y1,hlt]
   have hp0:k=0→Y1 l k=none:=fun e=>by simp [Y1,e]
   obtain ⟨g,o0,rfl,hc⟩:=(HV.out.keeps hkw).addr (by omega);have a0:=hc _ _ (ZO l k hlt);have hprev: ∀ k1,k=k1+1→ ∃ y,Y1 l k=some y∧wr.cell? ⟨g,o0+k1,none⟩=some (.string ⟨y.toArray⟩):=fun k1 e=>by
    have h9:=hc _ _ (ZO l k1 (by omega));exact ⟨l[k1],by subst e;simp [Y1,show k1<l.length from by omega],h9⟩
   have HC1:=Ja hC1;have HP0:=Ja hp0;have HPV:=Ja hpv;have HPR:=Ja hprev;clear hC hC1 hc hpv hprev hp0;generalize Y1 l k=pv at *;generalize l[k]=x at *;have zx:=Jv x;by_cases hx0:x=[]
   ·have hR1:R=1:=by rw [←HC1.out];simp [hx0]
    have e1:x.isEmpty=true:=by simpa using hx0
    subst hR1;clear HC1 HPR HP0 hx0;go_wp2_with fail;go_ret;exact ⟨rfl,hkw⟩
   ·have e1:x.isEmpty=false:=by simpa using hx0
    by_cases hx6:60<x.length
    ·have hR2:R=2:=by rw [←HC1.out];simp [hx0,hx6]
     have e2:decide ((60:Int)<(x.length:Int))=true:=by simp;omega
     subst hR2;clear HC1 HPR HP0 hx0 hx6;go_wp2_with fail;go_ret;exact ⟨rfl,hkw⟩
    ·have e2:decide ((60:Int)<(x.length:Int))=false:=by simp;omega
     have HC2:=Ja (show (if Jb7 pv x=true then 4 else Xe (some x) (l.drop (k+1)))=R from by have:=HC1.out;simpa [hx0,hx6] using this);clear HC1 hx0 hx6;rcases Nat.eq_zero_or_pos k with hk00 | hk00
     ·have hpn:=HP0.out hk00;subst hpn;have HC3:Hid (Xe (some x) (l.drop (k+1))=R):=Ja (by have:=HC2.out;simpa [Jb7] using this);subst hk00;rw [Nat.add_zero] at a0;clear HC2 HP0 HPR;go_wp2_with fail;go_roundw
      case rel=>exact ⟨1,by omega,by go_num,hkw,by rw [HPV.out];exact HC3⟩
      case measure=>simp [intOf];omega
     ·obtain ⟨k1,rfl⟩: ∃ k1,k=k1+1:=⟨k - 1,by omega⟩;obtain ⟨y,rfl,y0⟩:=HPR.out k1 rfl;have hi1:k1<l.length:=by omega
      have hi2:(0:Int)≤(k1:Int):=by omega
      have hi3:(k1:Int)<(l.length:Int):=by omega
      have hi4:wrap64 (k1:Int)=(k1:Int):=by unfold wrap64;omega
      have hi5:wrap64 (((k1+1:Nat):Int) - 1)=(k1:Int):=by unfold wrap64;omega
      have hi6:IntKind.i64.wrap (((k1+1:Nat):Int) - 1)=(k1:Int):=by rw [IntKind.wrap_i64];omega
      have hi8:(((k1+1:Nat):Int) - 1)=(k1:Int):=by omega
      have b1:=Jb3 x y;have b2:=JtM x y;rw [←b1] at b2;have HC3:=Ja (show (if (!JH y x)=true then 4 else Xe (some x) (l.drop (k1+1+1)))=R from by have:=HC2.out;simpa [Jb7] using this);clear HC2 HP0 HPR b1;generalize JH y x=U at *;cases U
      ·have hR4:R=4:=by rw [←HC3.out];simp
       subst hR4;simp only [Bool.not_false] at b2;clear HC3;go_wp2_with fail;go_ret;exact ⟨rfl,hkw⟩
      ·have HC4:Hid (Xe (some x) (l.drop (k1+1+1))=R):=Ja (by have:=HC3.out;simpa using this);simp only [Bool.not_true] at b2;clear HC3;go_wp2_with fail;go_roundw
       case rel=>exact ⟨k1+1+1,by omega,by go_num,hkw,by rw [HPV.out];exact HC4⟩
       case measure=>simp [intOf];omega
  ·have hRR:R=0:=by
    rw [←hC.out,List.drop_eq_nil_of_le (by omega)];rfl
   subst hRR;go_wp2_with fail;go_ret;exact ⟨rfl,hkw⟩
structure Sh where
 es:List En
 rd:List (List UInt8)
def J7 (s:Sh):Int:=if 20<s.es.length∨40<s.rd.length then 2 else if Yk none [] s.es≠0 then Yk none [] s.es else Xe none s.rd
set_option maxRecDepth 8000 in
theorem Jau (w:World) (ev rv:Value) (s:Sh) (he:Jh w ev s.es.length 5 (Je s.es)) (hr:Jh w rv s.rd.length 1 (Jq s.rd)) (hf: ∀ x∈s.es,Xh x) (hM:JW w):
  Calls Tryz.prog 51 #[.agg #[ev,rv]] w fun e w'=>e=.returned (.int .i64 (J7 s))∧Jb [] w w':=by
 obtain ⟨eo,ec,rfl,h1,h2⟩:=he.form;obtain ⟨ro,rc,rfl,h3,h4⟩:=hr.form;obtain ⟨C,hC⟩: ∃ C,J7 s=C:=⟨_,rfl⟩;rw [hC];unfold J7 at hC;obtain ⟨W,hW⟩: ∃ W,w.alloc (.cells #[.slice eo s.es.length ec,.slice ro s.rd.length rc] 64)=W:=⟨_,rfl⟩;have hkW:Jb [] w W:=by rw [←hW];exact (Jb.refl [] w).alloc _
 have hb:=(Qb rfl hW).1;have b0:W.cell? ⟨w.heap.size,0,none⟩=some (.slice eo s.es.length ec):=Jd hb 0;have b1:W.cell? ⟨w.heap.size,1,none⟩=some (.slice ro s.rd.length rc):=Jd hb 1;have HB:=Ja hb;have HKW:=Ja hkW;have HW:=Ja hW;have hce:=Ja (JgD W _ s.es (he.keeps hkW) hf (hM.keeps hkW List.not_mem_nil));have hcr:=Ja (fun w1 (hk:Jb [] w w1)=>Jjq w1 _ s.rd (hr.keeps hk));clear he hr hf hM hkW hb hW;unfold maxLen at h2 h4;generalize Yk none [] s.es=CE at *;generalize Xe none s.rd=CR at *;by_cases h20:20<s.es.length
 ·rw [if_pos (.inl h20)] at hC;have d:decide ((20:Int)<(s.es.length:Int))=true:=by simp;omega
  subst hC;clear h20;go_enter Tryz.func51,Tryz.ntmps51;go_upto_region 1 with fail;rw [HW.out];go_wp2_with fail;go_ret;exact ⟨rfl,HKW.out⟩
 ·have d:decide ((20:Int)<(s.es.length:Int))=false:=by simp;omega
  by_cases h40:40<s.rd.length
  ·rw [if_pos (.inr h40)] at hC;have d4:decide ((40:Int)<(s.rd.length:Int))=true:=by simp;omega
   subst hC;clear h20 h40;go_enter Tryz.func51,Tryz.ntmps51;go_upto_region 1 with fail;rw [HW.out];go_wp2_with fail;go_ret;exact ⟨rfl,HKW.out⟩
  ·have d4:decide ((40:Int)<(s.rd.length:Int))=false:=by simp;omega
   rw [if_neg (by omega)] at hC;clear h20 h40;by_cases hcx:CE=0
   ·subst hcx;simp only [ne_eq,not_true,if_false] at hC;subst hC;go_enter Tryz.func51,Tryz.ntmps51;go_upto_region 1 with fail;rw [HW.out];go_wp2_with fail;refine hce.out.mono ?_;rintro e w1 ⟨rfl,hk1⟩;have c1:w1.cell? ⟨w.heap.size,1,none⟩=some (.slice ro s.rd.length rc):=Jz hk1 HB.out 1;have HK1:=Ja (HKW.out.trans hk1);clear hk1 b0 b1;go_wp2_with fail;refine (hcr.out w1 HK1.out).mono ?_;rintro e w2 ⟨rfl,hk2⟩;go_wp2_with fail;go_ret;exact ⟨rfl,HK1.out.trans hk2⟩
   ·rw [if_pos hcx] at hC;subst hC;have hne:(CE != 0)=true:=by simpa using hcx
    go_enter Tryz.func51,Tryz.ntmps51;go_upto_region 1 with fail;rw [HW.out];go_wp2_with fail;refine hce.out.mono ?_;rintro e w1 ⟨rfl,hk1⟩;go_wp2_with fail;go_ret;exact ⟨rfl,HKW.out.trans hk1⟩
theorem Xv {s:Sh} (h:J7 s=0):s.es.length≤20∧s.rd.length≤40∧Yk none [] s.es=0∧Xe none s.rd=0:=by
 unfold J7 at h;split at h
 ·simp at h
 ·split at h
  ·rename_i h1;exact absurd h h1
  ·rename_i h1 h2;exact ⟨by omega,by omega,by simpa using h2,h⟩
theorem JaX (a b:List (List UInt8)):Jq (a++b)=Jq a++Jq b:=by simp [Jq]
theorem Jcg:(Tryz.prog.info? 9).map (fun i=>(i.zero,i.size,i.bytes))=some (some (.string ⟨#[]⟩),1,16):=by kernel_rfl
theorem JcO (w:World) (s:List UInt8): ∀ j u,([Value.string ⟨s.toArray⟩]:List Value)[j]?=some u→(w.alloc (.cells #[.string ⟨s.toArray⟩] 9)).cell? ((⟨w.heap.size,0,none⟩:Addr).add j)=some u:=by
 intro j u h;exact J9 w #[.string ⟨s.toArray⟩] 9 j u (by simpa using h)
theorem Q6 {w:World} {g:Nat} {cur:Array Value} {t:TypeId} {fz:Nat × Nat} (h:w.heap[g]?=some (.cells cur t fz)) (cs:Array Value):(w.setRow g cs).heap[g]?=some (.cells cs t fz):=by
 simp [World.setRow,Array.getElem?_modify,h]
theorem JaM (w:World) {g k:Nat} (h:k≠g) (cs:Array Value):(w.setRow g cs).heap[k]?=w.heap[k]?:=by
 simp [World.setRow,Array.getElem?_modify,Ne.symm h]
theorem QW (w:World) (g:Nat) (cs:Array Value):Jb [g] w (w.setRow g cs):=
 ⟨rfl,rfl,rfl,by simp,fun k _ hS=>JaM w (by simpa using hS) cs⟩
def QC (cur:Array Value) (off:Nat) (cs:List Value):Array Value:=(cur.toList.take off++cs++cur.toList.drop (off+cs.length)).toArray
theorem Xk {cur:Array Value} {off:Nat} {cs:List Value} (h:off+cs.length≤cur.size):(QC cur off cs).size=cur.size:=by
 simp [QC];omega
theorem Zt {cur:Array Value} {off n:Nat} {cs:List Value} (h:off+cs.length≤cur.size) (hn:n=off+cs.length):(QC cur off cs).toList.take n=cur.toList.take off++cs:=by
 subst hn;simp only [QC];rw [List.take_append_of_le_length (by simp;omega)];exact List.take_of_length_le (by simp;omega)
theorem JcG {cur:Array Value} {off n:Nat} {cs:List Value} (h:off+cs.length≤cur.size) (hn:n≤off):(QC cur off cs).toList.take n=cur.toList.take n:=by
 simp only [QC];rw [List.append_assoc,List.take_append_of_le_length (by simp;omega),List.take_take,Nat.min_eq_left hn]
theorem JjJ {z:Value} (h: ∀ u∈z.cells.toList,u.oneCell'=true) (n:Nat): ∀ u∈(Builtin.zeroCells z.cells n).toList,u.oneCell'=true:=by
 intro u hu;obtain ⟨i,hi,rfl⟩:=List.mem_iff_getElem.1 hu;have hz:0<z.cells.size:=by
  rcases Nat.eq_zero_or_pos z.cells.size with h0 | h0
  ·simp [Builtin.zeroCells,h0] at hi
  ·exact h0
 have hm:=Nat.mod_lt i hz;simp only [Builtin.zeroCells,Array.getElem_toList,Array.getElem_map,Array.getElem_range];rw [getElem!_pos z.cells _ hm];exact h _ (by simp)
theorem X9 (z:Value) (n:Nat):(Builtin.zeroCells z.cells n).toList.length=n * z.cells.size:=by simp [Builtin.zeroCells]
theorem Jcu {P:Program} (w:World) (t e ty:TypeId) (z:Value) (ht:P.underlying t=some (.slice e)) (hv: ∀ w,(zeroValue e).run P w=.ok z w) (h1: ∀ u∈z.cells.toList,u.oneCell'=true) (g off n c:Nat) (cur:Array Value) (t':TypeId) (hg:w.heap[g]?=some (.cells cur t' (0,0))) (hn:0<n) (hfit:off+n * z.cells.size≤cur.size):
  (Builtin.clear_ #[t] ty #[.slice (some ⟨g,off,none⟩) n c]).run P w=.ok (.tuple #[]) (w.setRow g (QC cur off (Builtin.zeroCells z.cells n).toList)):=by
 have hst:=run_storeCells_at P g off t' (Builtin.zeroCells z.cells n).toList 0 cur w hg (by rw [X9];simpa using hfit) (JjJ h1 n);simp only [Nat.add_zero] at hst;obtain ⟨m,rfl⟩: ∃ m,n=m+1:=⟨n - 1,by omega⟩;simp only [QC];simp [Builtin.clear_,run_underlying ht,hv,hst]
theorem X7 {P:Program} (w:World) (dT sT ty elem:TypeId) (i:TypeInfo) (size:Nat) (g o dLen dCap:Nat) (a:Addr) (sLen sCap:Nat) (cur:Array Value) (t:TypeId) (cs:List Value)
  (hu:P.underlying dT=some (.slice elem)) (hi:P.info? elem=some i) (hz:i.size=size) (hg:w.heap[g]?=some (.cells cur t (0,0))) (k:Nat) (hk:k=Nat.min sLen dLen) (hn:cs.length=k * size)
  (hsrc: ∀ j v,cs[j]?=some v→w.cell? (a.add j)=some v) (hfit:o+cs.length≤cur.size) (h1: ∀ v∈cs,v.oneCell'=true):
  (Builtin.copy_ #[dT,sT] ty #[.slice (some ⟨g,o,none⟩) dLen dCap,.slice (some a) sLen sCap]).run P w=.ok (goInt k) (w.setRow g (QC cur o cs)):=by
 subst hk;subst hz;have hf:=run_firstCells_some (P:=P) w i.size (Nat.min sLen dLen) a sLen sCap cs hn hsrc;have hst:=run_storeCells_at P g o t cs 0 cur w hg (by simpa using hfit) h1;simp only [Nat.add_zero] at hst;simp only [QC];simp [Builtin.copy_,run_underlying hu,Builtin.lenOf,sizeOf,typeInfo,hi,hf,hst]
theorem Jin {P:Program} (w:World) (base:Nat) (t ty e:TypeId) (i:TypeInfo) (z:Value) (size bytes:Nat) (ht:P.underlying t=some (.slice e)) (hi:P.info? e=some i) (hz:i.zero=some z)
  (hsize:i.size=size) (hby:i.bytes=bytes) (hzs:z.cells.size=size) (hsz:0<size) (va:Value) (n:Nat) (xs:List Value) (hl:Jh w va n size xs) (h1: ∀ u∈xs,u.oneCell'=true)
  (hbytes:n * bytes≤140737488355328) (hbase:base≤w.heap.size):
  ∃ v' w',(Builtin.append_ #[t,t] ty #[.slice none 0 0,va]).run P w=.ok v' w'∧w'.ownsRow base e size v' n xs∧Jb [] w w':=by
 obtain ⟨o,c,rfl,g1,g2⟩:=hl.form;rcases Nat.eq_zero_or_pos n with h0 | h0
 ·subst h0;have hx:xs=[]:=List.eq_nil_of_length_eq_zero (by have:=hl.1;omega);subst hx;exact ⟨_,_,ZB w t ty e i ht hi o c,World.ownsRow_nil _ _ _ _,Jb.refl _ _⟩
 ·obtain ⟨g,off,rfl,hc⟩:=hl.addr h0;obtain ⟨v',w',hr,h2,h3,_⟩:=run_append_own (P:=P) w base t ty e i z size bytes ht hi hz hsize hby hzs hsz (.slice none 0 0) 0 [] (World.ownsRow_nil _ _ _ _) ⟨g,off,none⟩ n c xs hl.1 (fun j u hj=>by rw [Addr.add_lit];exact hc j u hj) h1 (by omega) (by rw [Nat.zero_add];exact hbytes) hbase;rw [Nat.zero_add,List.nil_append] at h2;exact ⟨v',w',hr,h2,(Jb.refl [] w).grown h3 (fun i e=>by simp [Value.ownBlock] at e)⟩
theorem JkN {P:Program} {ops:Array Oper} {o:Oper} {a:Act} {w:World} {K:Act→World→Prop} {Q:Exit→Act→World→Prop} {E:Prop} (hg:o.guard=none) (s x:Operand) (t:TypeId)
  (ho:o.op=.call { callee:=.builtin .append,args:=#[s,x],argTypes:=#[t,t] })
  (base:Nat) (e:TypeId) (i:TypeInfo) (z:Value) (size bytes:Nat) (ht:P.underlying t=some (.slice e)) (hi:P.info? e=some i) (hz:i.zero=some z)
  (hsize:i.size=size) (hby:i.bytes=bytes) (hzs:z.cells.size=size) (hsz:0<size)
  (va:Value) (n:Nat) (xs:List Value) (hs:a.eval s=.slice none 0 0) (hx:a.eval x=va) (hl:Jh w va n size xs) (h1: ∀ u∈xs,u.oneCell'=true)
  (hbytes:n * bytes≤140737488355328) (hbase:base≤w.heap.size)
  (h: ∀ v' w',w'.ownsRow base e size v' n xs→Jb [] w w'→K (a.put o.dst v') w'):
  if Region.wanted o (yielded ops a.tmps)=true then Oper.wp P o a w K Q else E:=by
 refine JcQ hg ?_;obtain ⟨v',w',hr,h2,h3⟩:=Jin (P:=P) w base t o.type e i z size bytes ht hi hz hsize hby hzs hsz va n xs hl h1 hbytes hbase;unfold Oper.wp execOp;simp only [ho,resolve,invoke,builtin,Sem.run_bind,Sem.run_pure,Result.andThen_ok,List.map_toArray,List.map_cons,List.map_nil,hs,hx,hr];exact h v' w' h2 h3
theorem Jcf:(Tryz.prog.info? 75).map (fun i=>(i.zero,i.size,i.bytes))=some (some (.agg #[.string ⟨#[]⟩,.string ⟨#[]⟩,.string ⟨#[]⟩,.int .i64 0,.string ⟨#[]⟩]),5,72):=by kernel_rfl
theorem Ja4 (l:List En): ∀ u∈Je l,u.oneCell'=true:=by
 intro u hu;obtain ⟨x,_,hx⟩:=List.mem_flatMap.1 hu;simp only [Jo,List.mem_cons,List.not_mem_nil,or_false] at hx;rcases hx with rfl | rfl | rfl | rfl | rfl<;>rfl
theorem JbR (l:List (List UInt8)): ∀ u∈Jq l,u.oneCell'=true:=by
 intro u hu;obtain ⟨x,_,rfl⟩:=List.mem_map.1 hu;rfl
theorem XH (a b:List En):Je (a++b)=Je a++Je b:=by simp [Je]
theorem ZH (l:List En) (k:Nat):(Je l).take (k * 5)=Je (l.take k):=by
 by_cases h:k≤l.length
 ·conv=>lhs;rw [←List.take_append_drop k l,XH]
  have e:(Je (l.take k)).length=k * 5:=by rw [Qu,List.length_take,Nat.min_eq_left h]
  rw [List.take_append_of_le_length (by omega),List.take_of_length_le (by omega)]
 ·rw [List.take_of_length_le (by rw [Qu];omega),List.take_of_length_le (by omega)]
theorem Jcr (l:List En) (k:Nat):(Je l).drop (k * 5)=Je (l.drop k):=by
 by_cases h:k≤l.length
 ·conv=>lhs;rw [←List.take_append_drop k l,XH]
  have e:(Je (l.take k)).length=k * 5:=by rw [Qu,List.length_take,Nat.min_eq_left h]
  rw [List.drop_append_of_le_length (by omega),List.drop_eq_nil_of_le (by omega),List.nil_append]
 ·rw [List.drop_eq_nil_of_le (by rw [Qu];omega),List.drop_eq_nil_of_le (by omega)];rfl
structure XT (w:World) (B k:Nat) (ev rv:Value) (s:Sh):Prop where
 blk:w.heap[k]?=some (.cells #[ev,rv] 155 (0,0))
 es:w.ownsRow B 75 5 ev s.es.length (Je s.es)
 rd:w.ownsRow B 9 1 rv s.rd.length (Jq s.rd)
 hb:B≤k
def tK (k:Nat) (ev rv:Value):List Nat:=k::(ev.ownBlock.toList++rv.ownBlock.toList)
set_option maxRecDepth 8000 in
theorem Jch (w:World) (ev rv:Value) (s:Sh) (he:Jh w ev s.es.length 5 (Je s.es)) (hr:Jh w rv s.rd.length 1 (Jq s.rd)) (hf: ∀ x∈s.es,Xh x) (hM:JW w) (h0:J7 s=0):
  Calls Tryz.prog 116 #[.agg #[ev,rv]] w fun e w'=> ∃ k ev' rv',e=.returned (.tuple #[.pointer (some ⟨k,0,none⟩),.int .i64 0])∧XT w' w.heap.size k ev' rv' s∧Jb [] w w':=by
 obtain ⟨hp1,hp2,_,_⟩:=Xv h0;obtain ⟨es,rd⟩:=s;simp only at he hr hf hp1 hp2;obtain ⟨eo,ec,rfl,g1,g2⟩:=he.form;obtain ⟨ro,rc,rfl,g3,g4⟩:=hr.form;obtain ⟨i0,hi,hz0,hz1,hz2⟩:=info_parts Jcf;obtain ⟨i1,hj,hy0,hy1,hy2⟩:=info_parts Jcg;have nn: ∀ g,g∉([]:List Nat):=fun _=>List.not_mem_nil;obtain ⟨W,hW⟩: ∃ W,w.alloc (.cells #[.slice eo es.length ec,.slice ro rd.length rc] 64)=W:=⟨_,rfl⟩;have hkW:Jb [] w W:=by rw [←hW];exact (Jb.refl [] w).alloc _
 have hb:=(Qb rfl hW).1;have b0:W.cell? ⟨w.heap.size,0,none⟩=some (.slice eo es.length ec):=Jd hb 0;have b1:W.cell? ⟨w.heap.size,1,none⟩=some (.slice ro rd.length rc):=Jd hb 1;have hsc:=Ja (Jau W _ _ ⟨es,rd⟩ (he.keeps hkW) (hr.keeps hkW) hf (hM.keeps hkW (nn _)));rw [h0] at hsc;have HB:=Ja hb;have HKW:=Ja hkW;have HW:=Ja hW;have HV:=Ja he;have HR:=Ja hr;unfold maxLen at g2 g4;clear he hr hM h0 hf hb hkW hW;go_enter Tryz.func116,Tryz.ntmps116;go_upto_region 1 with fail;rw [HW.out];go_wp2_with fail;refine hsc.out.mono ?_;rintro e w1 ⟨rfl,hk1⟩;obtain ⟨W2,hW2⟩: ∃ W2,w1.alloc (.cells #[.slice none 0 0,.slice none 0 0] 155)=W2:=⟨_,rfl⟩;have hk2:Jb [] w1 W2:=by rw [←hW2];exact (Jb.refl [] w1).alloc _
 have hb2:=(Qb rfl hW2).1;have HK2:=Ja ((HKW.out.trans hk1).trans hk2);have hbw2:=((hk1.trans hk2).block _ (lt_of_block HB.out) List.not_mem_nil).trans HB.out;have HBW2:=Ja hbw2;have c0:W2.cell? ⟨w.heap.size,0,none⟩=some (.slice eo es.length ec):=Jd hbw2 0;have d0:W2.cell? ⟨w1.heap.size,0,none⟩=some (.slice none 0 0):=Jd hb2 0;have f0:W2.frozen? ⟨w1.heap.size,0,none⟩=false:=Jn hb2 0;have hsz:w.heap.size≤w1.heap.size:=Nat.le_trans HKW.out.size hk1.size;have hne:w.heap.size≠w1.heap.size:=by have:=lt_of_block HB.out;have:=hk1.size;omega
 have HW2:=Ja hW2;have HB2:=Ja hb2;clear hk1 hk2 hb2 hbw2 hW2 b0 b1 hsc;go_upto_region 5 with fail;rw [HW2.out]
 go_cut [5] from 13 to 37 (fun p wc=>p=.pointer (some ⟨w1.heap.size,0,none⟩)∧ ∃ e3,wc.heap[w1.heap.size]?=some (.cells #[e3,.slice none 0 0] 155 (0,0))∧wc.ownsRow w.heap.size 75 5 e3 es.length (Je es)∧Jb [] w wc∧wc.cell? ⟨w.heap.size,1,none⟩=some (.slice ro rd.length rc))
 case first=>
  go_region_law (refine JkN rfl _ _ 61 rfl w.heap.size 75 i0 _ 5 72 Tryz.underlying61 hi hz0 hz1 hz2 (by kernel_rfl) (by decide) (.slice eo es.length ec) es.length (Je es) rfl rfl (HV.out.keeps (by first | exact HK2.out | exact HK2.out.drew)) (Ja4 es) (by omega) (by have:=HK2.out.size;first | exact this | (simp;exact this)) ?_;intro v3 w3 ho3 hk3;obtain ⟨o3,c3,rfl⟩:=Jg ho3;have hk23:Jb [] W2 w3:=(by first | exact hk3 | exact ((Jb.refl [] W2).drew).trans hk3);have hb3:=(hk23.block _ (lt_of_block HB2.out) List.not_mem_nil).trans HB2.out;have x0:=Jd hb3 0;have y0:=Jn hb3 0;simp at x0)
  all_goals go_wp2_with fail
  all_goals go_meet
  all_goals exact ⟨rfl,_,by simp [World.setCell,Array.getElem?_modify,hb3],X3 ho3 (Jt ho3 hb3 (by decide)) _,(HK2.out.trans hk23).setCell (.inr hsz) _,JE ((Jb.refl [w1.heap.size] w3).setCell (.inl (by simp)) _) (by simpa using hne) (Jc hk23 (Jd HBW2.out 1))⟩
 case rest=>
  obtain ⟨rfl,e3,hbk,hrow,hkc,hrc⟩:=hcut;obtain ⟨oe,ce,rfl⟩:=Jg hrow;have d1:=Jd hbk 1;have y1:=Jn hbk 1;simp at d1;have HBK:=Ja hbk;have HROW:=Ja hrow;have HKC:=Ja hkc;clear hbk hrow hkc c0 d0 f0;go_upto_region 6 with fail
  go_cut [5] from 25 to 37 (fun p wd=>p=.pointer (some ⟨w1.heap.size,0,none⟩)∧ ∃ r3,XT wd w.heap.size w1.heap.size (.slice oe es.length ce) r3 ⟨es,rd⟩∧Jb [] w wd)
  case first=>
   go_region_law (refine JkN rfl _ _ 62 rfl w.heap.size 9 i1 _ 1 16 Tryz.underlying62 hj hy0 hy1 hy2 (by kernel_rfl) (by decide) (.slice ro rd.length rc) rd.length (Jq rd) rfl rfl (HR.out.keeps (by first | exact HKC.out | exact HKC.out.drew)) (JbR rd) (by omega) (by have:=HKC.out.size;first | exact this | (simp;exact this)) ?_;intro v3 w3 ho3 hk3;obtain ⟨o3,c3,rfl⟩:=Jg ho3;have hk23:Jb [] wc w3:=(by first | exact hk3 | exact ((Jb.refl [] wc).drew).trans hk3);have hb3:=(hk23.block _ (lt_of_block HBK.out) List.not_mem_nil).trans HBK.out;have x0:=Jd hb3 1;have y0:=Jn hb3 1;simp at x0)
   all_goals go_wp2_with fail
   all_goals go_meet
   all_goals exact ⟨rfl,_,⟨by simp [World.setCell,Array.getElem?_modify,hb3],X3 (hk23.owns HROW.out (fun _ _=>List.not_mem_nil)) (Jt (hk23.owns HROW.out (fun _ _=>List.not_mem_nil)) hb3 (by decide)) _,X3 ho3 (Jt ho3 hb3 (by decide)) _,hsz⟩,(HKC.out.trans hk23).setCell (.inr hsz) _⟩
  case rest=>
   obtain ⟨rfl,r3,hkp,hkd⟩:=hcut;go_wp2_with fail
   go_ret2
   exact ⟨_,_,_,rfl,hkp,hkd⟩
theorem JgK (w:World) (ev rv:Value) (s:Sh) (he:Jh w ev s.es.length 5 (Je s.es)) (hr:Jh w rv s.rd.length 1 (Jq s.rd)) (hf: ∀ x∈s.es,Xh x) (hM:JW w) (h0:J7 s≠0):
  Calls Tryz.prog 116 #[.agg #[ev,rv]] w fun e w'=>e=.returned (.tuple #[.pointer none,.int .i64 (J7 s)])∧Jb [] w w':=by
 obtain ⟨es,rd⟩:=s;simp only at he hr hf;obtain ⟨eo,ec,rfl,g1,g2⟩:=he.form;obtain ⟨ro,rc,rfl,g3,g4⟩:=hr.form;have nn: ∀ g,g∉([]:List Nat):=fun _=>List.not_mem_nil;obtain ⟨W,hW⟩: ∃ W,w.alloc (.cells #[.slice eo es.length ec,.slice ro rd.length rc] 64)=W:=⟨_,rfl⟩;have hkW:Jb [] w W:=by rw [←hW];exact (Jb.refl [] w).alloc _
 have hb:=(Qb rfl hW).1;have b0:W.cell? ⟨w.heap.size,0,none⟩=some (.slice eo es.length ec):=Jd hb 0;have b1:W.cell? ⟨w.heap.size,1,none⟩=some (.slice ro rd.length rc):=Jd hb 1;have hsc:=Ja (Jau W _ _ ⟨es,rd⟩ (he.keeps hkW) (hr.keeps hkW) hf (hM.keeps hkW (nn _)));have HKW:=Ja hkW;have HW:=Ja hW;have hne:(J7 ⟨es,rd⟩ != 0)=true:=by simpa using h0
 generalize J7 ⟨es,rd⟩=C at *;unfold maxLen at g2 g4;clear he hr hM h0 hf hb hkW hW;go_enter Tryz.func116,Tryz.ntmps116;go_upto_region 1 with fail;rw [HW.out];go_wp2_with fail;refine hsc.out.mono ?_;rintro e w1 ⟨rfl,hk1⟩;go_wp2_with fail
 go_ret2
 exact ⟨rfl,HKW.out.trans hk1⟩
end Go.Proofs.YtlcljanibjdejaaGreat
