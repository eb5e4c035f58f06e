/- ShelfTells holds: the law returns true for every input, and each argument reads behind the call as it read before; no condition. A part of its proof. -/
import Derived.Test.YtlcljanibjdejaaGreatSt01
import Derived.Shelf.Strings.Search3
import Derived.Shelf.LaysM
import Derived.Shelf.Strings.Shaped
import Derived.Deep.RegionLaw
import Derived.Laws.BytesArg
import Derived.Deep.DeepCutAuto
import Derived.Maps.OwnSet
import Derived.Deep.LoopGhost
import Derived.Deep.Onto
import Derived.Maps.AppendAt
set_option maxHeartbeats 64000000
namespace Go.Proofs.YtlcljanibjdejaaGreat
theorem Jem {base:Nat}: ∀ {l:List UInt8} {n m:Nat},XK base n l=some m→ ∀ c∈l,QZ c<base
 | [],_,_,_,c,hc=>by simp at hc
 | d::l,n,m,h,c,hc=>by
   simp only [XK] at h;split at h
   ·simp at h
   ·rename_i hd;rcases List.mem_cons.1 hc with rfl | hc
    ·omega
    ·exact Jem h c hc
theorem JpO {base:Nat}: ∀ {l:List UInt8} {n:Nat} {c:UInt8},c∈l→base≤QZ c→XK base n l=none:=by
 intro l n c hc hb;cases h:XK base n l with
 | none=>rfl
 | some m=>have:=Jem h c hc;omega
theorem Jhi {c:UInt8} (h:QZ c<16):QT c=true:=by
 unfold QT;by_cases h1:c=59
 ·subst h1;exact absurd h (by decide)
 ·by_cases h2:c=38
  ·subst h2;exact absurd h (by decide)
  ·simp [h1,h2]
theorem JqL (X:List UInt8):QU ([35,120]++X)=YF 16 6 X:=by simp [QU]
theorem JqK (X:List UInt8) (h:X.head?≠some 120):QU ([35]++X)=YF 10 7 X:=by
 cases X with
 | nil=>simp [QU]
 | cons c X=>
   have:c≠120:=by simpa using h
   simp [QU,Ne.symm this]
def nm (l:List UInt8):List UInt8:=l.takeWhile QT
theorem JgU (l:List UInt8):QK l=if l[(nm l).length]?=some 59 then (QU (nm l)).map fun n=>(n,(nm l).length+1) else none:=rfl
theorem Jfu {a b:List UInt8} (h: ∀ c∈a,QT c=true):nm (a++b)=a++nm b:=List.takeWhile_append_of_pos h
theorem Jgs {p r:List UInt8} {n:Nat} (hp: ∀ c∈p,QT c=true) (ht:QU p=some n):QK (p++59::r)=some (n,p.length+1):=by
 have e:nm (p++59::r)=p:=by rw [Jfu hp];simp [nm,QT]
 rw [JgU,e,if_pos (by simp),ht];rfl
theorem JlS {l:List UInt8} {n m:Nat} (h:QK l=some (n,m)): ∃ r,l=nm l++59::r∧QU (nm l)=some n∧m=(nm l).length+1:=by
 rw [JgU] at h;split at h
 ·rename_i hg;cases ht:QU (nm l) with
  | none=>rw [ht] at h;simp at h
  | some x=>
    rw [ht] at h;simp at h;obtain ⟨h1,h2⟩:=List.getElem?_eq_some_iff.1 hg;refine ⟨l.drop ((nm l).length+1),?_,by rw [h.1],h.2.symm⟩;have e1:l.take (nm l).length=nm l:=(List.prefix_iff_eq_take.1 (List.takeWhile_prefix _)).symm
    conv=>lhs;rw [←List.take_append_drop (nm l).length l]
    rw [e1,List.drop_eq_getElem_cons h1,h2]
 ·simp at h
theorem JnK {l:List UInt8} (h1:List.isPrefixOf [97,109,112,59] l=false) (h2:List.isPrefixOf [108,116,59] l=false) (h3:List.isPrefixOf [103,116,59] l=false)
  (h4:List.isPrefixOf [113,117,111,116,59] l=false) (h5:List.isPrefixOf [97,112,111,115,59] l=false) (h6:List.isPrefixOf [35] l=false):QK l=none:=by
 cases hs:QK l with
 | none=>rfl
 | some x=>
   obtain ⟨n,m⟩:=x;obtain ⟨r,hl,ht,hm⟩:=JlS hs;generalize nm l=p at *;subst hl;unfold QU at ht;split at ht
   ·rename_i e;subst e;simp at h1
   ·split at ht
    ·rename_i e;subst e;simp at h2
    ·split at ht
     ·rename_i e;subst e;simp at h3
     ·split at ht
      ·rename_i e;subst e;simp at h4
      ·split at ht
       ·rename_i e;subst e;simp at h5
       ·split at ht
        ·rename_i e;cases p with
         | nil=>simp at e
         | cons c p=>simp at e;obtain ⟨e1,_⟩:=e;subst e1;simp at h6
        ·split at ht
         ·rename_i e;cases p with
          | nil=>simp at e
          | cons c p=>simp at e;subst e;simp at h6
         ·simp at ht
theorem Jqt {pre ds r:List UInt8} {base most n:Nat} (hpre: ∀ c∈pre,QT c=true) (hb:base≤16) (hn:XK base 0 ds=some n) (h1:1≤ds.length) (h2:ds.length≤most)
  (ht:QU (pre++ds)=YF base most ds):QK (pre++(ds++59::r))=some (n,pre.length+ds.length+1):=by
 have hds: ∀ c∈ds,QT c=true:=fun c hc=>Jhi (by have:=Jem hn c hc;omega);have hall: ∀ c∈pre++ds,QT c=true:=fun c hc=>by
  rcases List.mem_append.1 hc with h | h
  ·exact hpre c h
  ·exact hds c h
 rw [←List.append_assoc,Jgs (n:=n) hall]
 ·simp
 ·rw [ht];unfold YF;rw [if_neg (by omega)];exact hn
theorem JlQ {pre ds m:List UInt8} {base most n:Nat} (hpre: ∀ c∈pre,QT c=true) (hb:base≤16) (hn:XK base 0 ds=some n)
  (ht:QU (pre++nm (ds++m))=YF base most (nm (ds++m)))
  (hexit:m=[]∨(∃ c r,m=c::r∧base≤QZ c)∨most<ds.length) (hbad:ds=[]∨most<ds.length∨m=[]∨ ∃ c r,m=c::r∧c≠59):QK (pre++(ds++m))=none:=by
 have hds: ∀ c∈ds,QT c=true:=fun c hc=>Jhi (by have:=Jem hn c hc;omega);have e:nm (pre++(ds++m))=pre++nm (ds++m):=Jfu hpre;have e2:nm (ds++m)=ds++nm m:=Jfu hds;rw [JgU,e,ht];split
 ·rename_i hg;rw [e2] at hg ⊢;have hnone:YF base most (ds++nm m)=none:=by
   unfold YF;by_cases hlen:(ds++nm m).length<1∨most<(ds++nm m).length
   ·rw [if_pos hlen]
   ·rw [if_neg hlen];simp only [List.length_append] at hlen;rcases hexit with h | ⟨c,r,h,hc⟩ | h
    ·subst h;simp [nm] at hg
    ·subst h;by_cases hcn:QT c=true
     ·exact JpO (c:=c) (by simp [nm,hcn]) hc
     ·have hn0:nm (c::r)=[]:=by simp [nm,hcn]
      rw [hn0] at hg hlen;simp at hg;rcases hbad with h | h | h | ⟨c',r',h,hc'⟩
      ·subst h;simp at hlen
      ·simp at hlen;omega
      ·simp at h
      ·simp at h;exact absurd hg (by rw [h.1];exact hc')
    ·omega
  rw [hnone];rfl
 ·rfl
end Go.Proofs.YtlcljanibjdejaaGreat
namespace Go.Proofs.YtlcljanibjdejaaGreat
open Go.RowKit
def Ju (s:ByteArray) (k:Nat) (p:List UInt8):Bool:=p.isPrefixOf (s.data.toList.drop k)
theorem Js0 (s:ByteArray) (k:Nat) (p:ByteArray):((s.extract k (k+p.size)).toList==p.toList)=Ju s k p.data.toList:=by
 rw [ByteArray.toList_eq,ByteArray.toList_eq,Lib.extract_data,Nat.add_sub_cancel_left,Bool.eq_iff_iff,Ju,List.isPrefixOf_iff_prefix,beq_iff_eq,List.prefix_iff_eq_take,Js];exact eq_comm
theorem JnN (s:ByteArray) (k:Nat) (p:ByteArray) (h:s.size<k+p.size) (hk:k≤s.size):Ju s k p.data.toList=false:=by
 rw [Bool.eq_false_iff];intro hp;have:=(List.isPrefixOf_iff_prefix.1 hp).length_le;rw [List.length_drop,Js,Js] at this;omega
end Go.Proofs.YtlcljanibjdejaaGreat
namespace Go.Proofs
open Go.Shelf
def Tryz.lays143_ren:Go.Shelf.Ren:=⟨fun | 143=>233 | 219=>295 | 217=>315 | 225=>320 | 224=>321 | 267=>322 | 266=>334 | 314=>337 | n=>n,fun | 9=>9 | 3=>3 | 4=>4 | 5=>5 | 46=>245 | 146=>274 | 51=>270 | n=>n,fun | 1=>0 | n=>n⟩
theorem Tryz.lays143:Go.Proofs.Lays.n143 Tryz.prog Tryz.lays143_ren:={
 mixed:=by kernel_rfl
 f143:=Tryz.func233.trans (congrArg some (by kernel_rfl))
 f217:=Tryz.func315.trans (congrArg some (by kernel_rfl))
 f219:=Tryz.func295.trans (congrArg some (by kernel_rfl))
 f224:=Tryz.func321.trans (congrArg some (by kernel_rfl))
 f225:=Tryz.func320.trans (congrArg some (by kernel_rfl))
 f266:=Tryz.func334.trans (congrArg some (by kernel_rfl))
 f267:=Tryz.func322.trans (congrArg some (by kernel_rfl))
 f314:=Tryz.func337.trans (congrArg some (by kernel_rfl))
 t3:=Tryz.underlying3
 a3:=Tryz.isAgg3
 z3:=Tryz.sizeOf3
 v3:=Tryz.zeroValue3
 t4:=Tryz.underlying4
 a4:=Tryz.isAgg4
 z4:=Tryz.sizeOf4
 v4:=Tryz.zeroValue4
 t5:=Tryz.underlying5
 a5:=Tryz.isAgg5
 z5:=Tryz.sizeOf5
 v5:=Tryz.zeroValue5
 t9:=Tryz.underlying9
 a9:=Tryz.isAgg9
 z9:=Tryz.sizeOf9
 v9:=Tryz.zeroValue9
 t46:=Tryz.underlying245
 a46:=Tryz.isAgg245
 z46:=Tryz.sizeOf245
 v46:=Tryz.zeroValue245
 t51:=Tryz.underlying270
 a51:=Tryz.isAgg270
 z51:=Tryz.sizeOf270
 v51:=Tryz.zeroValue270
 t146:=Tryz.underlying274
 a146:=Tryz.isAgg274
 z146:=Tryz.sizeOf274
 v146:=Tryz.zeroValue274
 g1:=by kernel_rfl }
open Go.RowKit Go.Lib in
theorem Tryz.strings_Index (s sub:ByteArray) (m:Int) (w:World) (hs:s.size<4294967281) (hm:w.cell? ⟨0,0,none⟩=some (.int .i64 m)):
 Calls Tryz.prog 233 #[.string s,.string sub] w fun e w'=>e=.returned (.int .i64 (Lib.index s.data.toList sub.data.toList))∧w'=w:=Any.strings_Index Tryz.lays143 s sub m w hs hm
def Tryz.laysM143_ren:Go.Shelf.Ren:=⟨fun | 143=>233 | 219=>295 | 217=>315 | 225=>320 | 224=>321 | 267=>322 | 266=>334 | 314=>337 | n=>n,fun | 9=>9 | 3=>3 | 4=>4 | 5=>5 | 46=>245 | 146=>274 | 51=>270 | n=>n,fun | 1=>0 | n=>n⟩
theorem Tryz.laysM143:Go.Proofs.LaysM.n143 Tryz.prog Tryz.laysM143_ren:={
 mixed:=by kernel_rfl
 f143:=Tryz.func233.trans (congrArg some (by kernel_rfl))
 f217:=Tryz.func315.trans (congrArg some (by kernel_rfl))
 f219:=Tryz.func295.trans (congrArg some (by kernel_rfl))
 f224:=Tryz.func321.trans (congrArg some (by kernel_rfl))
 f225:=Tryz.func320.trans (congrArg some (by kernel_rfl))
 f266:=Tryz.func334.trans (congrArg some (by kernel_rfl))
 f267:=Tryz.func322.trans (congrArg some (by kernel_rfl))
 f314:=Tryz.func337.trans (congrArg some (by kernel_rfl))
 t3:=Tryz.underlying3
 a3:=Tryz.isAgg3
 z3:=Tryz.sizeOf3
 v3:=Tryz.zeroValue3
 t4:=Tryz.underlying4
 a4:=Tryz.isAgg4
 z4:=Tryz.sizeOf4
 v4:=Tryz.zeroValue4
 t5:=Tryz.underlying5
 a5:=Tryz.isAgg5
 z5:=Tryz.sizeOf5
 v5:=Tryz.zeroValue5
 t9:=Tryz.underlying9
 a9:=Tryz.isAgg9
 z9:=Tryz.sizeOf9
 v9:=Tryz.zeroValue9
 t46:=Tryz.underlying245
 a46:=Tryz.isAgg245
 z46:=Tryz.sizeOf245
 v46:=Tryz.zeroValue245
 t51:=Tryz.underlying270
 a51:=Tryz.isAgg270
 z51:=Tryz.sizeOf270
 v51:=Tryz.zeroValue270
 t146:=Tryz.underlying274
 a146:=Tryz.isAgg274
 z146:=Tryz.sizeOf274
 v146:=Tryz.zeroValue274
 g1:=by kernel_rfl
 i3:=by kernel_rfl
 i4:=by kernel_rfl
 i5:=by kernel_rfl
 i9:=by kernel_rfl
 i46:=by kernel_rfl
 i51:=by kernel_rfl
 i146:=by kernel_rfl
 m1:=by kernel_rfl
 s1_3:=fun w h=>Go.Proofs.cell_of_shapedOpen_int (zero:=#[.int .i64 0]) (t:=3) h (of_decide_eq_true (by kernel_rfl)) (by kernel_rfl) rfl (by kernel_rfl) (by kernel_rfl) Tryz.underlying3 }
end Go.Proofs
namespace Go.Proofs.YtlcljanibjdejaaGreat
open Go.RowKit
theorem JdW (b:Nat) (s:ByteArray) (k:Nat) (p:ByteArray) (w:World) (hT:Jf w b s k) (hk:k≤s.size):
  Calls Tryz.prog 155 #[.pointer (some ⟨b,0,none⟩),.string p] w fun e w'=>e=.returned (.bool (Ju s k p.data.toList))∧ ∃ n,w'=w.drewN n:=by
 have c0:=hT.cell0;have c1:=hT.cell1;have e1:Lib.hasPrefix (s.extract k s.size).data.toList p.data.toList=Ju s k p.data.toList:=by rw [Lib.extract_to_end];rfl
 have hp:=Ja (fun w=>e1 ▸ Tryz.strings_HasPrefix (s.extract k s.size) p w);generalize Ju s k p.data.toList=r at *;clear e1;go_enter Tryz.func155,Tryz.ntmps155;go_wp2_with fail
 go_quiet ((go_at_call 220;exact Calls.quiet_of_same (hp.out _)))
 go_wp2
 go_ret;exact ⟨rfl,_,rfl⟩
theorem Jn4 (b:Nat) (s:ByteArray) (k n:Nat) (w:World) (hs:s.size≤3000) (hT:Jf w b s k) (hk:k≤s.size) (hn:n≤3000):
  Calls Tryz.prog 228 #[.pointer (some ⟨b,0,none⟩),.int .i64 n,.func (.func 224) #[] #[]] w fun e w'=>e=.returned (.bool (decide (k+n<s.size)&&J2 (Jr s (k+n))))∧ ∃ n,w'=w.drewN n:=by
 have c0:=hT.cell0;have c1:=hT.cell1;by_cases h:k+n<s.size
 ·have hd:decide ((n:Int)<(s.size:Int) - (k:Int))=true:=by simp;omega
  have hlt:(n:Int)<(s.size:Int) - (k:Int):=by omega
  have hlt2:(k:Int)+(n:Int)<(s.size:Int):=by omega
  have hlt3:(0:Int)≤(k:Int)+(n:Int):=by omega
  rw [decide_eq_true h,Q0 s _ h];have hl:=Ja (fun w=>Jap s[k+n] w);generalize J2 s[k+n]=r at *;go_enter Tryz.func228,Tryz.ntmps228;go_wp2_with fail
  go_quiet ((go_at_call 224;exact Calls.quiet_of_same (hl.out _)))
  go_wp2
  go_ret;exact ⟨by simp,_,rfl⟩
 ·have hd:decide ((n:Int)<(s.size:Int) - (k:Int))=false:=by simp;omega
  rw [decide_eq_false h];go_enter Tryz.func228,Tryz.ntmps228;go_wp2_with fail
  go_quiet (fail)
  go_wp2
  go_ret;exact ⟨rfl,_,rfl⟩
theorem JgQ (b:Nat) (s:ByteArray) (k:Nat) (w:World) (hT:Jf w b s k) (hk:k≤s.size):
  Calls Tryz.prog 80 #[.pointer (some ⟨b,0,none⟩)] w fun e w'=>e=.returned (.string (s.extract k s.size))∧Jf w' b s s.size∧Jb [b] w w':=by
 have c0:=hT.cell0;have c1:=hT.cell1;have f1:=hT.free1;go_enter Tryz.func80,Tryz.ntmps80;go_wp2_with fail
 go_quiet (fail)
 go_wp2
 go_ret;exact ⟨rfl,hT.set s.size,((Jb.refl _ _).setCell (by simp) _).drewN _⟩
def JW (w:World):Prop:= ∃ m,w.cell? ⟨0,0,none⟩=some (.int .i64 m)
theorem JW.lt {w:World} (h:JW w):0<w.heap.size:=by
 obtain ⟨m,hm⟩:=h;rcases Nat.lt_or_ge 0 w.heap.size with h' | h'
 ·exact h'
 ·unfold World.cell? at hm;rw [Array.getElem?_eq_none h'] at hm;simp at hm
theorem JW.keeps {S:List Nat} {w w':World} (h:JW w) (hk:Jb S w w') (h0:0∉S):JW w':=by
 obtain ⟨m,hm⟩:=id h;exact ⟨m,(World.cell?_of_block (a:=⟨0,0,none⟩) (hk.block 0 h.lt h0)).trans hm⟩
theorem Jki: ∀ (l p:List UInt8),Lib.index l p≤l.length
 | [],p=>by unfold Lib.index;split<;>simp
 | c::l,p=>by
   have:=Jki l p;unfold Lib.index;split
   ·simp;omega
   ·split
    ·simp;omega
    ·simp;omega
def Xx (mark l:List UInt8):Option Nat:=if Lib.index l mark<0 then none else some ((Lib.index l mark).toNat+mark.length)
theorem Jas (b:Nat) (s:ByteArray) (k:Nat) (p:ByteArray) (w:World) (hs:s.size≤3000) (hp:p.size≤3000) (hT:Jf w b s k) (hk:k≤s.size) (hM:JW w):
  Calls Tryz.prog 156 #[.pointer (some ⟨b,0,none⟩),.string p] w fun e w'=>
   ((∃ m,Xx p.data.toList (s.data.toList.drop k)=some m∧e=.returned (.string (s.extract k (k+m - p.size)))∧Jf w' b s (k+m))∨(Xx p.data.toList (s.data.toList.drop k)=none∧e=.panicked Yp∧Jf w' b s k))∧Jb [b] w w':=by
 have c0:=hT.cell0;have c1:=hT.cell1;have f1:=hT.free1;obtain ⟨m,hm⟩:=hM;obtain ⟨i,hi⟩: ∃ i,Lib.index (s.data.toList.drop k) p.data.toList=i:=⟨_,rfl⟩;have e1:Lib.index (s.extract k s.size).data.toList p.data.toList=i:=by rw [Lib.extract_to_end];exact hi
 have hx:=Ja (fun n=>e1 ▸ Tryz.strings_Index (s.extract k s.size) p m (w.drewN n) (by simp;omega) hm);have hge:=Lib.index_ge (s.data.toList.drop k) p.data.toList;have hle:=Jki (s.data.toList.drop k) p.data.toList;rw [List.length_drop,Js,hi] at hle;rw [hi] at hge;have he:=Ja (show Xx p.data.toList (s.data.toList.drop k)=if i<0 then none else some (i.toNat+p.size) from by unfold Xx;rw [hi,Js]);clear hm hi e1;generalize Xx p.data.toList (s.data.toList.drop k)=E at *;by_cases hneg:i<0
 ·go_enter Tryz.func156,Tryz.ntmps156;go_wp2_with fail
  go_quiet ((go_at_call 233;exact Calls.quiet_of_same (hx.out _)))
  go_wp2_with fail;refine (Zq _).mono ?_;rintro e w1 ⟨rfl,rfl⟩;go_wp2_with fail;exact ⟨rfl,.inr ⟨he.out.trans (if_pos hneg),rfl,hT⟩,(Jb.refl _ _).drewN _⟩
 ·obtain ⟨j,rfl⟩: ∃ j:Nat,i=j:=⟨i.toNat,by omega⟩;go_enter Tryz.func156,Tryz.ntmps156;go_wp2_with fail
  go_quiet ((go_at_call 233;exact Calls.quiet_of_same (hx.out _)))
  go_wp2_with fail
  go_quiet (fail)
  go_wp2_with fail;go_ret;refine ⟨.inl ⟨j+p.size,he.out.trans (if_neg (by omega)),?_,?_⟩,((Jb.refl _ _).setCell (by simp) _).drewN _⟩
  ·rw [show k+(j+p.size) - p.size=k+j from by omega];rfl
  ·exact hT.set (k+(j+p.size))
theorem Jmn (s:ByteArray) (w:World) (hs:s.size≤3000):
  Calls Tryz.prog 160 #[.string s] w fun e w'=>e=.returned (.string ⟨(JR s.data.toList).1.toArray⟩)∧Jb [] w w':=by
 have ht: ∀ w,Calls Tryz.prog 101 #[.string s] w fun e w'=>e=.returned (.tuple #[.string ⟨(JR s.data.toList).1.toArray⟩,.int .i64 0])∧Jb [] w w':=fun w=>
  (Jsb s w (by unfold maxLen;omega)).mono fun _ _ ⟨he,hk⟩=>⟨he.trans (by unfold Jit;rw [Js,if_neg (by omega)];rfl),hk⟩
 have HT:=Ja ht;clear ht;generalize (JR s.data.toList).1=r at *;go_enter Tryz.func160,Tryz.ntmps160;go_wp2_with fail;refine (HT.out _).mono ?_;rintro e w1 ⟨rfl,hk1⟩;go_wp2_with fail;go_ret;exact ⟨rfl,hk1⟩
theorem JcQ {P:Program} {ops:Array Oper} {o:Oper} {a:Act} {w:World} {K:Act→World→Prop} {Q:Exit→Act→World→Prop} {E:Prop} (hg:o.guard=none) (h:Oper.wp P o a w K Q):
  if Region.wanted o (yielded ops a.tmps)=true then Oper.wp P o a w K Q else E:=by
 have hw:Region.wanted o (yielded ops a.tmps)=true:=by simp [Region.wanted,hg]
 rw [if_pos hw];exact h
theorem Xg {ops:Array Oper} {o:Oper} {a:Act} {w:World} {K:Act→World→Prop} {Q:Exit→Act→World→Prop} {E:Prop} (hg:o.guard=none)
  (f:FuncId) (xs:Array Operand) (ts:Array TypeId) (hop:o.op=.call { callee:=.value (.func f),args:=xs,argTypes:=ts }) (hE:Jy f) (args:Array Value) (hxs:xs.map a.eval=args)
  {R:Ending→World→Prop} (hc:Calls Tryz.prog f args w R) (hK: ∀ e w',R e w'→ ∃ v,e=.returned v∧K (a.put o.dst v) w'):
  if Region.wanted o (yielded ops a.tmps)=true then Oper.wp Tryz.prog o a w K Q else E:=by
 refine JcQ hg ?_;have hr:(execOp a.eval o).run Tryz.prog w=.ok (.enter f args) w:=by
  have hE':=hE args w;simp [execOp,hop,resolve,invoke,Act.eval,Deferred.ofValue,hxs,hE']
 unfold Oper.wp;rw [hr,Oper.upon_enter];refine hc.mono fun e w' h=>?_;obtain ⟨v,rfl,hk⟩:=hK e w' h;exact hk
theorem JfG {P:Program} {ops:Array Oper} {o:Oper} {a:Act} {w:World} {K:Act→World→Prop} {Q:Exit→Act→World→Prop} {E:Prop} (hg:o.guard=none) (sl x:Operand) (t u:TypeId)
  (ho:o.op=.call { callee:=.builtin .append,args:=#[sl,x],argTypes:=#[t,u] })
  (base:Nat) (e:TypeId) (i:TypeInfo) (ht:P.underlying t=some (.slice e)) (hu:P.underlying u=some .string) (hi:P.info? e=some i) (hz:i.zero=some (.int .u8 0))
  (hsize:i.size=1) (hby:i.bytes=1)
  (v:Value) (n:Nat) (xs:List Value) (hs:a.eval sl=v) (hown:w.ownsRow base e 1 v n xs) (s:ByteArray) (hx:a.eval x=.string s)
  (h63:n+s.size≤maxLen) (hbytes:n+s.size≤140737488355328) (hbase:base≤w.heap.size)
  (h: ∀ v' w',w'.ownsRow base e 1 v' (n+s.size) (xs++Lib.strCells s)→w.grownBy w' v.ownBlock→K (a.put o.dst v') w'):
  if Region.wanted o (yielded ops a.tmps)=true then Oper.wp P o a w K Q else E:=by
 refine JcQ hg ?_;obtain ⟨v',w',hr,h2,h3,_⟩:=Lib.run_append_own_string (P:=P) w base t u o.type e i ht hu hi hz hsize hby v n xs hown s h63 hbytes hbase;unfold Oper.wp execOp;simp only [ho,resolve,invoke,builtin,Sem.run_bind,Sem.run_pure,Result.andThen_ok,List.map_toArray,List.map_cons,List.map_nil,hs,hx,hr];exact h v' w' h2 h3
def JK (w:World) (r b:Nat) (rawv outv:Value):Prop:=w.heap[r]?=some (.cells #[.pointer (some ⟨b,0,none⟩),rawv,outv] 109 (0,0))
theorem JK.lt {w:World} {r b:Nat} {rawv outv:Value} (h:JK w r b rawv outv):r<w.heap.size:=lt_of_block h
theorem JK.keeps {S:List Nat} {w w':World} {r b:Nat} {rawv outv:Value} (h:JK w r b rawv outv) (hk:Jb S w w') (hr:r∉S):JK w' r b rawv outv:=by
 rw [JK,hk.block r h.lt hr];exact h
theorem JK.cell0 {w:World} {r b:Nat} {rawv outv:Value} (h:JK w r b rawv outv):w.cell? ⟨r,0,none⟩=some (.pointer (some ⟨b,0,none⟩)):=by
 simp [World.cell?,JK] at h ⊢;simp [h]
theorem JK.cell1 {w:World} {r b:Nat} {rawv outv:Value} (h:JK w r b rawv outv):w.cell? ⟨r,1,none⟩=some rawv:=by
 simp [World.cell?,JK] at h ⊢;simp [h]
theorem JK.cell2 {w:World} {r b:Nat} {rawv outv:Value} (h:JK w r b rawv outv):w.cell? ⟨r,2,none⟩=some outv:=by
 simp [World.cell?,JK] at h ⊢;simp [h]
theorem JK.free {w:World} {r b:Nat} {rawv outv:Value} (h:JK w r b rawv outv) (j:Nat):w.frozen? ⟨r,j,none⟩=false:=by
 simp [World.frozen?,JK] at h ⊢;simp [h]
theorem JK.ne {w:World} {r b:Nat} {rawv outv:Value} (h:JK w r b rawv outv) {t:Nat} {s:ByteArray} {k:Nat} (hT:Jf w t s k):r≠t:=by
 intro e;subst e;rw [JK,hT] at h;simp at h
theorem Jf.at {w:World} {b:Nat} {s:ByteArray} {k j:Nat} (h:Jf w b s k) (e:k=j):Jf w b s j:=e ▸ h
def XL (l:List UInt8):Option (List UInt8 × Nat):=
 match l with
 | []=>none
 | c::r=>if c=34∨c=39 then (if (r.takeWhile (· != c)).length<r.length then some (r.takeWhile (· != c),(r.takeWhile (· != c)).length+2) else none)
   else some ((c::r).takeWhile Ys,((c::r).takeWhile Ys).length)
theorem Jpf:Jy 335:=JC Tryz.func335 (by kernel_rfl) (by kernel_rfl)
theorem JiP:Jy 336:=JC Tryz.func336 (by kernel_rfl) (by kernel_rfl)
theorem JoN:Jy 157:=JC Tryz.func157 (by kernel_rfl) (by kernel_rfl)
theorem JiI:Jy 158:=JC Tryz.func158 (by kernel_rfl) (by kernel_rfl)
theorem JpZ (f:UInt8→Bool) (s:ByteArray) (k:Nat):(s.extract k (k+XO f (s.data.toList.drop k))).data.toList=(s.data.toList.drop k).takeWhile f:=by
 rw [Lib.extract_data,Nat.add_sub_cancel_left];exact (List.prefix_iff_eq_take.1 (List.takeWhile_prefix _)).symm
theorem Jeo (f:UInt8→Bool) (s:ByteArray) (k:Nat):s.extract k (k+XO f (s.data.toList.drop k))=⟨((s.data.toList.drop k).takeWhile f).toArray⟩:=by
 apply WideShapes.bytes_inj;rw [JpZ]
theorem Zg (K:Nat) (f:UInt8→Bool) (hK:Jy K) (hf: ∀ (c:UInt8) (w:World),Calls Tryz.prog K #[.int .u8 c.toNat] w fun e w'=>e=.returned (.bool (f c))∧w'=w)
  (b:Nat) (s:ByteArray) (k:Nat) (w:World) (hs:s.size≤3000) (hT:Jf w b s k) (hk:k≤s.size):
  Calls Tryz.prog 158 #[.pointer (some ⟨b,0,none⟩),.func (.func K) #[] #[]] w fun e w'=>
   e=.returned (.string ⟨((s.data.toList.drop k).takeWhile f).toArray⟩)∧Jf w' b s (k+((s.data.toList.drop k).takeWhile f).length)∧Jb [b] w w':=by
 rw [←Jeo];exact JbW K #[] f b s k w hs hT hk hK fun c w1 _=>(hf c w1).mono fun _ _ ⟨he,hw⟩=>⟨he,0,hw⟩
theorem Xa (f:UInt8→Bool) (s:ByteArray) (k:Nat) (hk:k≤s.size):k+((s.data.toList.drop k).takeWhile f).length≤s.size:=by
 have h1:(s.data.toList.drop k).length=s.size - k:=by rw [List.length_drop];rfl
 have h2:((s.data.toList.drop k).takeWhile f).length≤(s.data.toList.drop k).length:=(List.takeWhile_sublist _).length_le;omega
theorem Jep (b:Nat) (s:ByteArray) (k:Nat) (w:World) (hT:Jf w b s k) (hk:k<s.size):
  Calls Tryz.prog 235 #[.pointer (some ⟨b,0,none⟩)] w fun e w'=>e=.returned (.int .u8 (Jr s k).toNat)∧Jf w' b s k∧Jb [] w w':=
 (Jeq b s k w hT hk).mono fun _ _ ⟨he,_,hw⟩=>⟨he,by rw [hw];exact hT,by rw [hw];exact (Jb.refl _ _).drewN _⟩
theorem Jno (b:Nat) (s:ByteArray) (k:Nat) (w:World) (hT:Jf w b s k) (hk:s.size≤k):
  Calls Tryz.prog 235 #[.pointer (some ⟨b,0,none⟩)] w fun e w'=>e=.panicked Yp∧Jf w' b s k∧Jb [] w w':=
 (Jmi b s k w hT hk).mono fun _ _ ⟨he,_,hw⟩=>⟨he,by rw [hw];exact hT,by rw [hw];exact (Jb.refl _ _).drewN _⟩
theorem Jtw (b:Nat) (s:ByteArray) (k:Nat) (w:World) (hT:Jf w b s k) (hk:s.size≤k):
  Calls Tryz.prog 157 #[.pointer (some ⟨b,0,none⟩)] w fun e w'=>e=.panicked Yp∧Jf w' b s k∧Jb [] w w':=
 (Jkx b s k w hT hk).mono fun _ _ ⟨he,_,hw⟩=>⟨he,by rw [hw];exact hT,by rw [hw];exact (Jb.refl _ _).drewN _⟩
theorem Jb.to {S T:List Nat} {w w':World} (h:Jb S w w') (hS: ∀ k,k∈S→k∈T):Jb T w w':=h.mono fun k hk _=>hS k hk
theorem Jl0 (r b:Nat) (rawv outv:Value) (s:ByteArray) (k:Nat) (w:World) (hs:s.size≤3000) (hR:JK w r b rawv outv) (hT:Jf w b s k) (hlt:k<s.size) (h1:Jr s k≠34) (h2:Jr s k≠39):
  Calls Tryz.prog 319 #[.pointer (some ⟨r,0,none⟩)] w fun e w'=>
   e=.returned (.string ⟨((s.data.toList.drop k).takeWhile Ys).toArray⟩)∧Jf w' b s (k+((s.data.toList.drop k).takeWhile Ys).length)∧Jb [b] w w':=by
 have hne:=hR.ne hT;have c0:=hR.cell0;have h34:(((Jr s k).toNat:Int) != 34)=true:=by rw [←Jay (d:=34) (k:=34) rfl];simpa using h1
 have h39:(((Jr s k).toNat:Int) != 39)=true:=by rw [←Jay (d:=39) (k:=39) rfl];simpa using h2
 have hp:=Ja (fun w hT=>Zg 335 Ys Jpf Jsj b s k w hs hT (by omega));generalize (s.data.toList.drop k).takeWhile Ys=L at *;go_enter Tryz.func319,Tryz.ntmps319;go_wp2_with fail;refine (Jep b s k _ hT hlt).mono ?_;rintro e w1 ⟨rfl,hT1,hk1⟩;have hR1:=hR.keeps hk1 (by simp);have hz1:=hR1.lt;have ca: ∀ o,(w1.alloc o).cell? ⟨r,0,none⟩=some (.pointer (some ⟨b,0,none⟩)):=fun o=>(JI (a:=⟨r,0,none⟩) hz1 o).trans hR1.cell0;go_wp2_with fail;refine (hp.out _ (hT1.keeps ((Jb.refl [] w1).alloc _) (by simp))).mono ?_;rintro e w2 ⟨rfl,hT2,hk2⟩;go_wp2_with fail;go_ret;exact ⟨rfl,hT2,(hk1.to (by simp)).trans (((Jb.refl [b] w1).alloc _).trans hk2)⟩
theorem Jsl (r b:Nat) (rawv outv:Value) (s:ByteArray) (k:Nat) (w:World) (hs:s.size≤3000) (hR:JK w r b rawv outv) (hT:Jf w b s k) (hlt:k<s.size) (hq:Jr s k=34)
  (m:Nat) (L:List UInt8) (hL:(s.data.toList.drop (k+1)).takeWhile (· != 34)=L) (hm:m=k+1+L.length):
  Calls Tryz.prog 319 #[.pointer (some ⟨r,0,none⟩)] w fun e w'=>
   ((m<s.size∧e=.returned (.string ⟨L.toArray⟩)∧Jf w' b s (m+1))∨(s.size≤m∧e=.panicked Yp∧ ∃ j,Jf w' b s j))∧Jb [b] w w':=by
 have hne:=hR.ne hT;have c0:=hR.cell0;have hmf: ∀ (fn:Fn) (first cap:Array Value) (w:World),(Instr.makeFunc fn first cap).run Tryz.prog w=.ok (.func fn first cap) w:=fun _ _ _ _=>rfl;have hpass:=Ja (fun (w:World) (p:Nat) (hT:Jf w b s (k+1)) (hp:w.heap[p]?=some (.cells #[.int .u8 34] 5 (0,0))) (hne:p≠b)=>
  JbW 336 #[.pointer (some ⟨p,0,none⟩)] (· != 34) b s (k+1) w hs hT (by omega) JiP fun c w1 hk=>(Ji8 c 34 ⟨p,0,none⟩ w1 (cell_of_one (by rw [hk.block p (lt_of_block hp) (by simpa using hne)];exact hp))).mono fun _ _ ⟨he,hw⟩=>⟨he,0,hw⟩)
 have hstr:s.extract (k+1) (k+1+XO (· != 34) (s.data.toList.drop (k+1)))=⟨L.toArray⟩:=by rw [Jeo,hL]
 have hlen:k+1+XO (· != 34) (s.data.toList.drop (k+1))=m:=by rw [hm, ←hL];rfl
 rw [hstr,hlen] at hpass;clear hstr hlen hL;have hml:k+1≤m:=by omega
 clear hm;by_cases hm2:m<s.size
 ·go_enter Tryz.func319,Tryz.ntmps319;go_wp2_with fail;refine (Jep b s k _ hT hlt).mono ?_;rw [hq];rintro e w1 ⟨rfl,hT1,hk1⟩;have hR1:=hR.keeps hk1 (by simp);have hz1:=hR1.lt;have ca: ∀ o,(w1.alloc o).cell? ⟨r,0,none⟩=some (.pointer (some ⟨b,0,none⟩)):=fun o=>(JI (a:=⟨r,0,none⟩) hz1 o).trans hR1.cell0;go_wp2_with fail;have hnew:=heap_alloc_new w1 (.cells #[.int .u8 34] 5);have hb1:=hT1.lt;have ha:Jb [b] w1 (w1.alloc (.cells #[.int .u8 34] 5)):=(Jb.refl [b] w1).alloc _;refine (Q2 b s k _ hs (hT1.keeps ((Jb.refl [] w1).alloc _) (by simp)) hlt).mono ?_;rintro e w2 ⟨rfl,hT2,hk2⟩;have hnew2:w2.heap[w1.heap.size]?=some (.cells #[.int .u8 34] 5 (0,0)):=by rw [hk2.block _ (by simp) (by simp;omega)];exact hnew
  have hR2:=hR1.keeps (ha.trans hk2) (by simpa using hne);have c2:=hR2.cell0;go_wp2_with fail;refine (hpass.out _ _ hT2 hnew2 (by omega)).mono ?_;rintro e w3 ⟨rfl,hT3,hk3⟩;have hR3:=hR2.keeps hk3 (by simpa using hne);have c3:=hR3.cell0;go_wp2_with fail;refine (Q2 b s m _ hs hT3 hm2).mono ?_;rintro e w4 ⟨rfl,hT4,hk4⟩;go_wp2_with fail;go_ret;exact ⟨.inl ⟨hm2,rfl,hT4⟩,(hk1.to (by simp)).trans (((ha.trans hk2).trans hk3).trans hk4)⟩
 ·go_enter Tryz.func319,Tryz.ntmps319;go_wp2_with fail;refine (Jep b s k _ hT hlt).mono ?_;rw [hq];rintro e w1 ⟨rfl,hT1,hk1⟩;have hR1:=hR.keeps hk1 (by simp);have hz1:=hR1.lt;have ca: ∀ o,(w1.alloc o).cell? ⟨r,0,none⟩=some (.pointer (some ⟨b,0,none⟩)):=fun o=>(JI (a:=⟨r,0,none⟩) hz1 o).trans hR1.cell0;go_wp2_with fail;have hnew:=heap_alloc_new w1 (.cells #[.int .u8 34] 5);have hb1:=hT1.lt;have ha:Jb [b] w1 (w1.alloc (.cells #[.int .u8 34] 5)):=(Jb.refl [b] w1).alloc _;refine (Q2 b s k _ hs (hT1.keeps ((Jb.refl [] w1).alloc _) (by simp)) hlt).mono ?_;rintro e w2 ⟨rfl,hT2,hk2⟩;have hnew2:w2.heap[w1.heap.size]?=some (.cells #[.int .u8 34] 5 (0,0)):=by rw [hk2.block _ (by simp) (by simp;omega)];exact hnew
  have hR2:=hR1.keeps (ha.trans hk2) (by simpa using hne);have c2:=hR2.cell0;go_wp2_with fail;refine (hpass.out _ _ hT2 hnew2 (by omega)).mono ?_;rintro e w3 ⟨rfl,hT3,hk3⟩;have hR3:=hR2.keeps hk3 (by simpa using hne);have c3:=hR3.cell0;go_wp2_with fail;refine (Jtw b s m _ hT3 (by omega)).mono ?_;rintro e w4 ⟨rfl,hT4,hk4⟩;go_wp2_with fail;exact ⟨rfl,.inr ⟨by omega,rfl,_,hT4⟩,(hk1.to (by simp)).trans (((ha.trans hk2).trans hk3).trans (hk4.to (by simp)))⟩
theorem Jsm (r b:Nat) (rawv outv:Value) (s:ByteArray) (k:Nat) (w:World) (hs:s.size≤3000) (hR:JK w r b rawv outv) (hT:Jf w b s k) (hlt:k<s.size) (hq:Jr s k=39)
  (m:Nat) (L:List UInt8) (hL:(s.data.toList.drop (k+1)).takeWhile (· != 39)=L) (hm:m=k+1+L.length):
  Calls Tryz.prog 319 #[.pointer (some ⟨r,0,none⟩)] w fun e w'=>
   ((m<s.size∧e=.returned (.string ⟨L.toArray⟩)∧Jf w' b s (m+1))∨(s.size≤m∧e=.panicked Yp∧ ∃ j,Jf w' b s j))∧Jb [b] w w':=by
 have hne:=hR.ne hT;have c0:=hR.cell0;have hmf: ∀ (fn:Fn) (first cap:Array Value) (w:World),(Instr.makeFunc fn first cap).run Tryz.prog w=.ok (.func fn first cap) w:=fun _ _ _ _=>rfl;have hpass:=Ja (fun (w:World) (p:Nat) (hT:Jf w b s (k+1)) (hp:w.heap[p]?=some (.cells #[.int .u8 39] 5 (0,0))) (hne:p≠b)=>
  JbW 336 #[.pointer (some ⟨p,0,none⟩)] (· != 39) b s (k+1) w hs hT (by omega) JiP fun c w1 hk=>(Ji8 c 39 ⟨p,0,none⟩ w1 (cell_of_one (by rw [hk.block p (lt_of_block hp) (by simpa using hne)];exact hp))).mono fun _ _ ⟨he,hw⟩=>⟨he,0,hw⟩)
 have hstr:s.extract (k+1) (k+1+XO (· != 39) (s.data.toList.drop (k+1)))=⟨L.toArray⟩:=by rw [Jeo,hL]
 have hlen:k+1+XO (· != 39) (s.data.toList.drop (k+1))=m:=by rw [hm, ←hL];rfl
 rw [hstr,hlen] at hpass;clear hstr hlen hL;have hml:k+1≤m:=by omega
 clear hm;by_cases hm2:m<s.size
 ·go_enter Tryz.func319,Tryz.ntmps319;go_wp2_with fail;refine (Jep b s k _ hT hlt).mono ?_;rw [hq];rintro e w1 ⟨rfl,hT1,hk1⟩;have hR1:=hR.keeps hk1 (by simp);have hz1:=hR1.lt;have ca: ∀ o,(w1.alloc o).cell? ⟨r,0,none⟩=some (.pointer (some ⟨b,0,none⟩)):=fun o=>(JI (a:=⟨r,0,none⟩) hz1 o).trans hR1.cell0;go_wp2_with fail;have hnew:=heap_alloc_new w1 (.cells #[.int .u8 39] 5);have hb1:=hT1.lt;have ha:Jb [b] w1 (w1.alloc (.cells #[.int .u8 39] 5)):=(Jb.refl [b] w1).alloc _;refine (Q2 b s k _ hs (hT1.keeps ((Jb.refl [] w1).alloc _) (by simp)) hlt).mono ?_;rintro e w2 ⟨rfl,hT2,hk2⟩;have hnew2:w2.heap[w1.heap.size]?=some (.cells #[.int .u8 39] 5 (0,0)):=by rw [hk2.block _ (by simp) (by simp;omega)];exact hnew
  have hR2:=hR1.keeps (ha.trans hk2) (by simpa using hne);have c2:=hR2.cell0;go_wp2_with fail;refine (hpass.out _ _ hT2 hnew2 (by omega)).mono ?_;rintro e w3 ⟨rfl,hT3,hk3⟩;have hR3:=hR2.keeps hk3 (by simpa using hne);have c3:=hR3.cell0;go_wp2_with fail;refine (Q2 b s m _ hs hT3 hm2).mono ?_;rintro e w4 ⟨rfl,hT4,hk4⟩;go_wp2_with fail;go_ret;exact ⟨.inl ⟨hm2,rfl,hT4⟩,(hk1.to (by simp)).trans (((ha.trans hk2).trans hk3).trans hk4)⟩
 ·go_enter Tryz.func319,Tryz.ntmps319;go_wp2_with fail;refine (Jep b s k _ hT hlt).mono ?_;rw [hq];rintro e w1 ⟨rfl,hT1,hk1⟩;have hR1:=hR.keeps hk1 (by simp);have hz1:=hR1.lt;have ca: ∀ o,(w1.alloc o).cell? ⟨r,0,none⟩=some (.pointer (some ⟨b,0,none⟩)):=fun o=>(JI (a:=⟨r,0,none⟩) hz1 o).trans hR1.cell0;go_wp2_with fail;have hnew:=heap_alloc_new w1 (.cells #[.int .u8 39] 5);have hb1:=hT1.lt;have ha:Jb [b] w1 (w1.alloc (.cells #[.int .u8 39] 5)):=(Jb.refl [b] w1).alloc _;refine (Q2 b s k _ hs (hT1.keeps ((Jb.refl [] w1).alloc _) (by simp)) hlt).mono ?_;rintro e w2 ⟨rfl,hT2,hk2⟩;have hnew2:w2.heap[w1.heap.size]?=some (.cells #[.int .u8 39] 5 (0,0)):=by rw [hk2.block _ (by simp) (by simp;omega)];exact hnew
  have hR2:=hR1.keeps (ha.trans hk2) (by simpa using hne);have c2:=hR2.cell0;go_wp2_with fail;refine (hpass.out _ _ hT2 hnew2 (by omega)).mono ?_;rintro e w3 ⟨rfl,hT3,hk3⟩;have hR3:=hR2.keeps hk3 (by simpa using hne);have c3:=hR3.cell0;go_wp2_with fail;refine (Jtw b s m _ hT3 (by omega)).mono ?_;rintro e w4 ⟨rfl,hT4,hk4⟩;go_wp2_with fail;exact ⟨rfl,.inr ⟨by omega,rfl,_,hT4⟩,(hk1.to (by simp)).trans (((ha.trans hk2).trans hk3).trans (hk4.to (by simp)))⟩
theorem JqR (r b:Nat) (rawv outv:Value) (s:ByteArray) (k:Nat) (w:World) (hs:s.size≤3000) (hR:JK w r b rawv outv) (hT:Jf w b s k):
  Calls Tryz.prog 319 #[.pointer (some ⟨r,0,none⟩)] w fun e w'=>
   ((∃ v c,XL (s.data.toList.drop k)=some (v,c)∧e=.returned (.string ⟨v.toArray⟩)∧Jf w' b s (k+c))∨(XL (s.data.toList.drop k)=none∧e=.panicked Yp∧ ∃ j,Jf w' b s j))∧Jb [b] w w':=by
 have hl:=Js s;by_cases hlt:k<s.size
 ·have hv: ∀ q,Jr s k=q→(q=34∨q=39)→XL (s.data.toList.drop k)=if k+1+((s.data.toList.drop (k+1)).takeWhile (· != q)).length<s.size then some ((s.data.toList.drop (k+1)).takeWhile (· != q),((s.data.toList.drop (k+1)).takeWhile (· != q)).length+2) else none:=by
   intro q hq hqq;rw [Qz s k hlt,XL,hq,if_pos hqq,List.length_drop];split
   ·rw [if_pos (by omega)]
   ·rw [if_neg (by omega)]
  by_cases h34:Jr s k=34
  ·have e1:=hv 34 h34 (.inl rfl);refine (Jsl r b rawv outv s k w hs hR hT hlt h34 _ _ rfl rfl).mono fun e w' h=>⟨?_,h.2⟩;rcases h.1 with ⟨h1,he,hT'⟩ | ⟨h1,he,hT'⟩
   ·exact .inl ⟨_,_,e1.trans (if_pos h1),he,hT'.at (by omega)⟩
   ·exact .inr ⟨e1.trans (if_neg (by omega)),he,hT'⟩
  ·by_cases h39:Jr s k=39
   ·have e1:=hv 39 h39 (.inr rfl);refine (Jsm r b rawv outv s k w hs hR hT hlt h39 _ _ rfl rfl).mono fun e w' h=>⟨?_,h.2⟩;rcases h.1 with ⟨h1,he,hT'⟩ | ⟨h1,he,hT'⟩
    ·exact .inl ⟨_,_,e1.trans (if_pos h1),he,hT'.at (by omega)⟩
    ·exact .inr ⟨e1.trans (if_neg (by omega)),he,hT'⟩
   ·refine (Jl0 r b rawv outv s k w hs hR hT hlt h34 h39).mono fun e w' h=>⟨.inl ⟨_,_,?_,h.1,h.2.1⟩,h.2.2⟩;rw [Qz s k hlt,XL,if_neg (by simp [h34,h39])]
 ·have hnil:s.data.toList.drop k=[]:=List.drop_eq_nil_of_le (by omega);have c0:=hR.cell0;rw [hnil,show XL []=none from rfl];go_enter Tryz.func319,Tryz.ntmps319;go_wp2_with fail;refine (Jno b s k _ hT (by omega)).mono ?_;rintro e w1 ⟨rfl,hT1,hk1⟩;go_wp2_with fail;exact ⟨rfl,.inr ⟨trivial,rfl,_,hT1⟩,hk1.to (by simp)⟩
theorem Jpd:Jy 318:=JC Tryz.func318 (by kernel_rfl) (by kernel_rfl)
theorem JiO:Jy 292:=JC Tryz.func292 (by kernel_rfl) (by kernel_rfl)
theorem Jq8 (W:World) (g:Nat) (c:UInt8) (h:W.cell? ⟨g,0,none⟩=some (.int .u8 (c.toNat:Int))):
  (convert 107 9 (.slice (some ⟨g,0,none⟩) 1 1)).run Tryz.prog W=.ok (.string ⟨#[c]⟩) W:=
 run_convert_bytes_back W 107 9 5 ⟨g,0,none⟩ 1 [c] Tryz.underlying107 Tryz.underlying5 Tryz.underlying9 (fun j hj=>by
  have:j=0:=by simpa using hj
  subst this;simpa [Addr.add] using h)
theorem JrE {b:Nat} {w1 w2:World} {v:Value} {t:TypeId} (hk:Jb [b] (w1.alloc (.cells #[v] t)).drew w2) (hb:b<w1.heap.size):w2.cell? ⟨w1.heap.size,0,none⟩=some v:=by
 have h1:(w1.alloc (.cells #[v] t)).drew.heap[w1.heap.size]?=some (.cells #[v] t):=heap_alloc_new w1 _;have h2:w2.heap[w1.heap.size]?=some (.cells #[v] t):=by
  rw [hk.block _ (by show w1.heap.size<(w1.alloc _).heap.size;simp) (by simp;omega)];exact h1
 exact cell_of_one h2
def Qg (w:World) (g:Nat) (x y:ByteArray):Prop:=w.heap[g]?=some (.cells #[.string x,.string y] 52 (0,0))
theorem Qg.lt {w:World} {g:Nat} {x y:ByteArray} (h:Qg w g x y):g<w.heap.size:=lt_of_block h
theorem Qg.keeps {S:List Nat} {w w':World} {g:Nat} {x y:ByteArray} (h:Qg w g x y) (hk:Jb S w w') (hg:g∉S):Qg w' g x y:=by
 rw [Qg,hk.block g h.lt hg];exact h
theorem Qg.cell0 {w:World} {g:Nat} {x y:ByteArray} (h:Qg w g x y):w.cell? ⟨g,0,none⟩=some (.string x):=by
 simp [World.cell?,Qg] at h ⊢;simp [h]
theorem Qg.cell1 {w:World} {g:Nat} {x y:ByteArray} (h:Qg w g x y):w.cell? ⟨g,1,none⟩=some (.string y):=by
 simp [World.cell?,Qg] at h ⊢;simp [h]
theorem Qg.free {w:World} {g:Nat} {x y:ByteArray} (h:Qg w g x y) (j:Nat):w.frozen? ⟨g,j,none⟩=false:=by
 simp [World.frozen?,Qg] at h ⊢;simp [h]
theorem Qg.set1 {w:World} {g:Nat} {x y:ByteArray} (h:Qg w g x y) (z:ByteArray):Qg (w.setCell ⟨g,1,none⟩ (.string z)) g x z:=by
 simp [World.setCell,Qg,Array.getElem?_modify] at h ⊢;simp [h]
theorem Qg.set0 {w:World} {g:Nat} {x y:ByteArray} (h:Qg w g x y) (z:ByteArray):Qg (w.setCell ⟨g,0,none⟩ (.string z)) g z y:=by
 simp [World.setCell,Qg,Array.getElem?_modify] at h ⊢;simp [h]
theorem Jn5 (c:UInt8) (L:List UInt8):(⟨#[c]⟩:ByteArray)++⟨L.toArray⟩=⟨(c::L).toArray⟩:=WideShapes.bytes_inj (by simp)
theorem Xy {S:List Nat} {w w':World} (h:Jb S w.drew w'):Jb S w w':=⟨h.os,h.tape,h.output,h.size,h.block⟩
theorem JlA {S:List Nat} {w w':World} {o:Obj} (h:Jb S (w.alloc o) w'):Jb S w w':=((Jb.refl S w).alloc o).trans h
theorem Jf.set_other {w:World} {b:Nat} {s:ByteArray} {k:Nat} (h:Jf w b s k) {p:Addr} (hp:p.block≠b) (u:Value):Jf (w.setCell p u) b s k:=
 h.keeps ((Jb.refl [p.block] w).setCell (.inl (by simp)) u) (by simpa using Ne.symm hp)
theorem Qg.set_other {w:World} {g:Nat} {x y:ByteArray} (h:Qg w g x y) {p:Addr} (hp:p.block≠g) (u:Value):Qg (w.setCell p u) g x y:=
 h.keeps ((Jb.refl [p.block] w).setCell (.inl (by simp)) u) (by simpa using Ne.symm hp)
theorem Jta {l v:List UInt8} {m:Nat} (h:XL l=some (v,m)):v.length≤l.length:=by
 unfold XL at h;split at h
 ·simp at h
 ·rename_i c r;split at h
  ·split at h
   ·simp only [Option.some.injEq,Prod.mk.injEq] at h;have:=(List.takeWhile_sublist (l:=r) (p:=(· != c))).length_le;rw [←h.1];simp;omega
   ·simp at h
  ·simp only [Option.some.injEq,Prod.mk.injEq] at h;rw [←h.1];exact (List.takeWhile_sublist _).length_le
theorem Qc (l:List UInt8):(⟨l.toArray⟩:ByteArray).data.toList=l:=rfl
theorem Jv (l:List UInt8):(⟨l.toArray⟩:ByteArray).size=l.length:=rfl
set_option maxRecDepth 4000 in
theorem JqZ (r b:Nat) (rawv outv:Value) (s:ByteArray) (k:Nat) (w:World) (hs:s.size≤3000) (hR:JK w r b rawv outv) (hT:Jf w b s k) (hlt:k<s.size)
  (L:List UInt8) (hL:(s.data.toList.drop (k+1)).takeWhile Qj=L) (W1:List UInt8) (hW1:(s.data.toList.drop (k+1+L.length)).takeWhile JA=W1) (k2:Nat) (hk2:k2=k+1+L.length+W1.length)
  (W2:List UInt8) (hW2:(s.data.toList.drop (k2+1)).takeWhile JA=W2) (k3:Nat) (hk3:k3=k2+1+W2.length):
  Calls Tryz.prog 294 #[.pointer (some ⟨r,0,none⟩)] w fun e w'=>
   ((s.size≤k2∧e=.panicked Yp∧ ∃ j,Jf w' b s j)∨
    (k2<s.size∧Jr s k2≠61∧e=.returned (.agg #[.string ⟨(Jx (Jr s k::L)).toArray⟩,.string ⟨#[]⟩])∧Jf w' b s k2)∨
    (k2<s.size∧Jr s k2=61∧XL (s.data.toList.drop k3)=none∧e=.panicked Yp∧ ∃ j,Jf w' b s j)∨
    (k2<s.size∧Jr s k2=61∧ ∃ v m,XL (s.data.toList.drop k3)=some (v,m)∧e=.returned (.agg #[.string ⟨(Jx (Jr s k::L)).toArray⟩,.string ⟨(JR v).1.toArray⟩])∧Jf w' b s (k3+m)))∧Jb [b] w w':=by
 have hne:=hR.ne hT;have hbw:=hT.lt;have ca: ∀ o,(w.alloc o).cell? ⟨r,0,none⟩=some (.pointer (some ⟨b,0,none⟩)):=fun o=>(JI (a:=⟨r,0,none⟩) hR.lt o).trans hR.cell0;have hp:=Ja (fun w hT=>Zg 318 Qj Jpd Jn8 b s (k+1) w hs hT (by omega));have hLl:=Xa Qj s (k+1) (by omega);rw [hL] at hp hLl;have hp1:=Ja (fun w hT=>Zg 292 JA JiO Ja9 b s (k+1+L.length) w hs hT (by omega));have hLl1:=Xa JA s (k+1+L.length) (by omega);rw [hW1, ←hk2] at hp1 hLl1;have hp2:=Ja (fun w hT h=>Zg 292 JA JiO Ja9 b s (k2+1) w hs hT h);have hLl2:=fun h=>Xa JA s (k2+1) h;rw [hW2, ←hk3] at hp2 hLl2;have hLL:(Jr s k::L).length=L.length+1:=rfl;have hlow:=Ja (fun w (h:(Jr s k::L).length≤3000)=>Jfs ⟨(Jr s k::L).toArray⟩ w h);rw [Qc] at hlow;generalize hNN:Jx (Jr s k::L)=NN at *;clear hNN;have HV:=Ja (fun (w:World) hR hT=>JqR r b rawv outv s k3 w hs hR hT);have hvl:=Ja (fun v m (h:XL (s.data.toList.drop k3)=some (v,m))=>Nat.le_trans (Jta h) (show (s.data.toList.drop k3).length≤3000 by have:=Js s;rw [List.length_drop];omega));generalize XL (s.data.toList.drop k3)=V at *;have hsum: ¬ 9223372036854775807<1+L.length:=by omega
 clear hL hW1 hW2 hk2 hk3;go_enter Tryz.func294,Tryz.ntmps294;go_wp2_with fail;have hres0:Qg (w.alloc (.cells #[.string ⟨#[]⟩,.string ⟨#[]⟩] 52)) w.heap.size ⟨#[]⟩ ⟨#[]⟩:=heap_alloc_new w _;refine (Q2 b s k _ hs (hT.keeps ((Jb.refl [] w).alloc _) (by simp)) hlt).mono ?_;rintro e w1 ⟨rfl,hT1,hk1⟩;have hR1:=(hR.keeps ((Jb.refl [] w).alloc _) (by simp)).keeps hk1 (by simpa using hne);have hres1:=hres0.keeps hk1 (by simp;omega);have hw1:Jb [b] w w1:=((Jb.refl [b] w).alloc _).trans hk1;have c1:=hR1.cell0;have c1a: ∀ o,(w1.alloc o).cell? ⟨r,0,none⟩=some (.pointer (some ⟨b,0,none⟩)):=fun o=>(JI (a:=⟨r,0,none⟩) hR1.lt o).trans c1;have hb1:=hT1.lt;have hcv:=fun (W:World) (g:Nat)=>Jq8 W g (Jr s k);clear ca;go_upto_region 2 with fail
 go_cut [4] from 11 to 19 (fun u wc=>u=.string ⟨(Jr s k::L).toArray⟩∧Jf wc b s (k+1+L.length)∧Jb [b] w1 wc)
 case first=>
  go_region_law (refine Xg rfl 158 _ _ rfl JiI #[.pointer (some ⟨b,0,none⟩),.func (.func 318) #[] #[]] (by simp [Act.eval]) (hp.out _ (by first | exact hT1 | exact hT1.keeps ((Jb.refl [] w1).alloc _).drew List.not_mem_nil)) ?_;rintro e w2 ⟨rfl,hT2,hk2⟩;refine ⟨_,rfl,?_⟩;try have hnw:=JrE hk2 hb1)
  all_goals go_wp2
  all_goals go_meet
  all_goals refine ⟨by rw [Jn5],by first | exact hT2 | exact hT2.keeps ((Jb.refl [] _).alloc _) List.not_mem_nil,?_⟩
  all_goals first
   | exact Xy hk2
   | exact JlA (Xy hk2)
   | exact (Xy hk2).alloc _
 case rest=>
  obtain ⟨rfl,hTc,hkc⟩:=hcut;go_wp2_with fail;refine (hlow.out _ (by omega)).mono ?_;rintro e w3 ⟨rfl,hk3'⟩;have hRc:=hR1.keeps hkc (by simpa using hne);have hR3:=hRc.keeps hk3' List.not_mem_nil;have hT3:=hTc.keeps hk3' List.not_mem_nil;have hres3:=(hres1.keeps hkc (by simp;omega)).keeps hk3' List.not_mem_nil;have hw3:Jb [b] w w3:=(hw1.trans hkc).trans (hk3'.to (by simp));have c3a: ∀ o,(w3.alloc o).cell? ⟨r,0,none⟩=some (.pointer (some ⟨b,0,none⟩)):=fun o=>(JI (a:=⟨r,0,none⟩) hR3.lt o).trans hR3.cell0;clear c1 c1a hcv hlow hp;go_wp2_with fail;have ha3:Jb [] w3 (w3.alloc (Obj.cells #[Value.string { data:=NN.toArray },Value.string { data:=#[] }] 52)):=(Jb.refl [] w3).alloc _;have hA4:Qg (w3.alloc (Obj.cells #[Value.string { data:=NN.toArray },Value.string { data:=#[] }] 52)) w3.heap.size ⟨NN.toArray⟩ ⟨#[]⟩:=heap_alloc_new w3 _;refine (hp1.out _ (hT3.keeps ha3 List.not_mem_nil)).mono ?_;rintro e w5 ⟨rfl,hT5,hk5⟩;have hb3:=hT3.lt;have hA5:=hA4.keeps hk5 (by simp;omega);have hres5:=(hres3.keeps ha3 List.not_mem_nil).keeps hk5 (by simp;omega);have hR5:=(hR3.keeps ha3 List.not_mem_nil).keeps hk5 (by simpa using hne);have hw5:Jb [b] w w5:=(hw3.trans (ha3.to (by simp))).trans hk5;have hsz3:=hw3.size;have hb5:=hT5.lt;have hA5':=hA5.lt;have hres5':=hres5.lt;have hgg:w3.heap.size≠w.heap.size:=by have:=hres3.lt;omega
  have hbg:b≠w3.heap.size:=by omega
  generalize w3.heap.size=g at *;clear c3a hA4 ha3 hR3 hT3 hres3 hk5 hkc hRc hTc;have c5:=hR5.cell0;by_cases hend:s.size≤k2
  ·go_wp2_with fail;refine (Jno b s k2 _ hT5 hend).mono ?_;rintro e w6 ⟨rfl,hT6,hk6⟩;go_wp2_with fail;exact ⟨rfl,.inl ⟨hend,rfl,_,hT6⟩,hw5.trans (hk6.to (by simp))⟩
  ·have hlt2:k2<s.size:=by omega
   go_wp2_with fail;refine (Jep b s k2 _ hT5 hlt2).mono ?_;rintro e w6 ⟨rfl,hT6,hk6⟩;have hA6:=hA5.keeps hk6 List.not_mem_nil;have hres6:=hres5.keeps hk6 List.not_mem_nil;have hR6:=hR5.keeps hk6 List.not_mem_nil;have hw6:Jb [b] w w6:=hw5.trans (hk6.to (by simp));have ha0:=hA6.cell0;have ha1:=hA6.cell1;have hr0:=hres6.cell0;have hr1:=hres6.cell1;have hf:=hres6.free;have c6:=hR6.cell0;clear c5 hA5 hres5 hR5 hT5 hk6;by_cases heq:Jr s k2=61
   ·have hbq:(((Jr s k2).toNat:Int)==61)=true:=by rw [heq];rfl
    go_wp2_with fail;refine (Q2 b s k2 _ hs hT6 hlt2).mono ?_;rintro e w7 ⟨rfl,hT7,hk7⟩;have hA7:=hA6.keeps hk7 (by simpa using Ne.symm hbg);have hres7:=hres6.keeps hk7 (by simp;omega);have hR7:=hR6.keeps hk7 (by simpa using hne);have hw7:Jb [b] w w7:=hw6.trans hk7;have c7:=hR7.cell0;clear c6 ha0 ha1 hr0 hr1 hf hA6 hres6 hR6 hT6;go_wp2_with fail;refine (hp2.out _ hT7 (by omega)).mono ?_;rintro e w8 ⟨rfl,hT8,hk8⟩;have hA8:=hA7.keeps hk8 (by simpa using Ne.symm hbg);have hres8:=hres7.keeps hk8 (by simp;omega);have hR8:=hR7.keeps hk8 (by simpa using hne);have hw8:Jb [b] w w8:=hw7.trans hk8;have c8:=hR8.cell0;clear c7 hA7 hres7 hR7 hT7;go_wp2_with fail;refine (HV.out _ hR8 hT8).mono ?_;rintro e w9 ⟨⟨v,m,hv,rfl,hT9⟩ | ⟨hv,rfl,j,hT9⟩,hk9⟩
    ·have hA9:=hA8.keeps hk9 (by simpa using Ne.symm hbg);have hres9:=hres8.keeps hk9 (by simp;omega);have hw9:Jb [b] w w9:=hw8.trans hk9;clear c8 hA8 hres8 hR8 hT8;go_wp2_with fail;refine (Jmn ⟨v.toArray⟩ _ (hvl.out v m hv)).mono ?_;rw [Qc];rintro e wA ⟨rfl,hkA⟩;have hAA:=hA9.keeps hkA List.not_mem_nil;have hresA:=hres9.keeps hkA List.not_mem_nil;have hTA:=hT9.keeps hkA List.not_mem_nil;have hwA:Jb [b] w wA:=hw9.trans (hkA.to (by simp));clear hA9 hres9 hT9;have fA:=hAA.free;have hc1:=hAA.cell1;have hc0:=hAA.cell0;have hAB:=hAA.set1 ⟨(JR v).1.toArray⟩;have hresB:=hresA.set_other (p:=⟨g,1,none⟩) hgg (.string ⟨(JR v).1.toArray⟩);have hTB:=hTA.set_other (p:=⟨g,1,none⟩) (Ne.symm hbg) (.string ⟨(JR v).1.toArray⟩);have hwB:Jb [b] w (wA.setCell ⟨g,1,none⟩ (.string ⟨(JR v).1.toArray⟩)):=hwA.setCell (.inr (by show w.heap.size≤g;omega)) _;have ha0:=hAB.cell0;have ha1:=hAB.cell1;have hf:=hresB.free;have hB0:=hresB.cell0;have hB1:=hresB.cell1;have hB0':=hresA.cell0;have hB1':=hresA.cell1;have hfA:=hresA.free;go_wp2_with fail;refine bodyPost_ret (v:=.agg #[.string ⟨NN.toArray⟩,.string ⟨(JR v).1.toArray⟩]) ?_ rfl ?_
     ·have q:=(hresB.set0 ⟨NN.toArray⟩).set1 ⟨(JR v).1.toArray⟩;have q0:=q.cell0;have q1:=q.cell1;generalize (((wA.setCell ⟨g,1,none⟩ (.string ⟨(JR v).1.toArray⟩)).setCell { block:=w.heap.size,off:=0 } (Value.string { data:=NN.toArray })).setCell { block:=w.heap.size,off:=1 } (Value.string ⟨(JR v).1.toArray⟩))=wF at *;simp [results,Tryz.results294,go_sem,q0,q1]
     ·exact ⟨.inr (.inr (.inr ⟨hlt2,heq,v,m,hv,rfl,(hTB.set_other (by show w.heap.size≠b;omega) _).set_other (by show w.heap.size≠b;omega) _⟩)),(hwB.setCell (.inr (Nat.le_refl _)) _).setCell (.inr (Nat.le_refl _)) _⟩
    ·clear c8;go_wp2_with fail;exact ⟨rfl,.inr (.inr (.inl ⟨hlt2,heq,hv,rfl,j,hT9⟩)),hw8.trans hk9⟩
   ·have hbq:(((Jr s k2).toNat:Int)==61)=false:=by
     rw [←Z0 (d:=61) (k:=61) rfl];simpa using heq
    go_wp2_with fail;refine bodyPost_ret (v:=.agg #[.string ⟨NN.toArray⟩,.string ⟨#[]⟩]) ?_ rfl ?_
    ·have q:=(hres6.set0 ⟨NN.toArray⟩).set1 ⟨#[]⟩;have q0:=q.cell0;have q1:=q.cell1;generalize ((w6.setCell { block:=w.heap.size,off:=0 } (Value.string { data:=NN.toArray })).setCell { block:=w.heap.size,off:=1 } (Value.string { data:=#[] }))=wF at *;simp [results,Tryz.results294,go_sem,q0,q1]
    ·exact ⟨.inr (.inl ⟨hlt2,heq,rfl,(hT6.set_other (by show w.heap.size≠b;omega) _).set_other (by show w.heap.size≠b;omega) _⟩),(hw6.setCell (.inr (Nat.le_refl _)) _).setCell (.inr (Nat.le_refl _)) _⟩
end Go.Proofs.YtlcljanibjdejaaGreat
namespace Go.Proofs.YtlcljanibjdejaaGreat
open Go.RowKit Go.Maps
abbrev Jw:=List UInt8 × List UInt8
def Xm (l:List UInt8):Option (Jw × Nat):=
 match l with
 | []=>none
 | c::r=>
   match l.drop (1+(r.takeWhile Qj).length+((l.drop (1+(r.takeWhile Qj).length)).takeWhile JA).length) with
   | []=>none
   | d::q=>if d=61 then
      match XL (q.drop (q.takeWhile JA).length) with
      | none=>none
      | some (v,m)=>some ((Jx (c::r.takeWhile Qj),(JR v).1),1+(r.takeWhile Qj).length+((l.drop (1+(r.takeWhile Qj).length)).takeWhile JA).length+1+(q.takeWhile JA).length+m)
     else some ((Jx (c::r.takeWhile Qj),[]),1+(r.takeWhile Qj).length+((l.drop (1+(r.takeWhile Qj).length)).takeWhile JA).length)
theorem Q4 (l:List UInt8) (a b:Nat):(l.drop a).drop b=l.drop (a+b):=List.drop_drop ..
theorem JdU (c:UInt8) (r L W1:List UInt8) (hL:r.takeWhile Qj=L) (hW1:((c::r).drop (1+L.length)).takeWhile JA=W1):
  Xm (c::r)=match (c::r).drop (1+L.length+W1.length) with
  | []=>none
  | d::q=>if d=61 then
     match XL (q.drop (q.takeWhile JA).length) with
     | none=>none
     | some (v,m)=>some ((Jx (c::L),(JR v).1),1+L.length+W1.length+1+(q.takeWhile JA).length+m)
    else some ((Jx (c::L),[]),1+L.length+W1.length):=by
 subst hL;subst hW1;rfl
theorem JqY (r b:Nat) (rawv outv:Value) (s:ByteArray) (k:Nat) (w:World) (hs:s.size≤3000) (hR:JK w r b rawv outv) (hT:Jf w b s k) (hlt:k<s.size):
  Calls Tryz.prog 294 #[.pointer (some ⟨r,0,none⟩)] w fun e w'=>
   ((∃ n v m,Xm (s.data.toList.drop k)=some ((n,v),m)∧e=.returned (.agg #[.string ⟨n.toArray⟩,.string ⟨v.toArray⟩])∧Jf w' b s (k+m))∨
    (Xm (s.data.toList.drop k)=none∧e=.panicked Yp∧ ∃ j,Jf w' b s j))∧Jb [b] w w':=by
 have hl:=Js s;refine (JqZ r b rawv outv s k w hs hR hT hlt _ rfl _ rfl _ rfl _ rfl _ rfl).mono fun e w' h=>⟨?_,h.2⟩;generalize hL:(s.data.toList.drop (k+1)).takeWhile Qj=L at h;generalize hW1:(s.data.toList.drop (k+1+L.length)).takeWhile JA=W1 at h
 have e0:Xm (s.data.toList.drop k)=match s.data.toList.drop (k+(1+L.length+W1.length)) with
  | []=>none
  | d::q=>if d=61 then
     match XL (q.drop (q.takeWhile JA).length) with
     | none=>none
     | some (v,m)=>some ((Jx (Jr s k::L),(JR v).1),1+L.length+W1.length+1+(q.takeWhile JA).length+m)
    else some ((Jx (Jr s k::L),[]),1+L.length+W1.length):=by
  rw [←Q4,Qz s k hlt];refine JdU _ _ L W1 hL ?_;rw [←Qz s k hlt,Q4, ←Nat.add_assoc];exact hW1
 rw [e0];have hk2:k+1+L.length+W1.length=k+(1+L.length+W1.length):=by omega
 rcases h.1 with ⟨h1,he,hT'⟩ | ⟨h1,h2,he,hT'⟩ | ⟨h1,h2,h3,he,hT'⟩ | ⟨h1,h2,v,m,h3,he,hT'⟩
 ·exact .inr ⟨by rw [List.drop_eq_nil_of_le (by omega)],he,hT'⟩
 ·refine .inl ⟨_,_,_,?_,he,hT'.at hk2⟩;rw [←hk2,Qz s _ h1];simp only [if_neg h2]
 ·refine .inr ⟨?_,he,hT'⟩;rw [←hk2,Qz s _ h1];simp only [if_pos h2];rw [Q4,h3]
 ·refine .inl ⟨_,_,1+L.length+W1.length+1+((s.data.toList.drop (k+1+L.length+W1.length+1)).takeWhile JA).length+m,?_,he,hT'.at ?_⟩
  ·rw [←hk2,Qz s _ h1];simp only [if_pos h2];rw [Q4,h3]
  ·omega
theorem Jn7 {l:List UInt8} {p:Jw} {m:Nat} (h:Xm l=some (p,m)):1≤m:=by
 unfold Xm at h;split at h
 ·simp at h
 ·split at h
  ·simp at h
  ·split at h
   ·split at h
    ·simp at h
    ·simp only [Option.some.injEq,Prod.mk.injEq] at h;omega
   ·simp only [Option.some.injEq,Prod.mk.injEq] at h;omega
theorem Jsi {l v:List UInt8} {m:Nat} (h:XL l=some (v,m)):m≤l.length:=by
 unfold XL at h;split at h
 ·simp at h
 ·rename_i c r;split at h
  ·split at h
   ·simp only [Option.some.injEq,Prod.mk.injEq] at h;simp;omega
   ·simp at h
  ·simp only [Option.some.injEq,Prod.mk.injEq] at h;rw [←h.2];exact (List.takeWhile_sublist _).length_le
theorem Jiz {l:List UInt8} {p:Jw} {m:Nat} (h:Xm l=some (p,m)):m≤l.length∧p.1.length≤l.length:=by
 unfold Xm at h;split at h
 ·simp at h
 ·rename_i c r;have h1:=(List.takeWhile_sublist (l:=r) (p:=Qj)).length_le;generalize r.takeWhile Qj=L at *;generalize ((c::r).drop (1+L.length)).takeWhile JA=W1 at *;split at h
  ·simp at h
  ·rename_i d q hd;have h2:=congrArg List.length hd;simp only [List.length_drop,List.length_cons] at h2;have h3:=(List.takeWhile_sublist (l:=q) (p:=JA)).length_le;split at h
   ·split at h
    ·simp at h
    ·rename_i v m' hv;have h4:=Jsi hv;rw [List.length_drop] at h4;simp only [Option.some.injEq,Prod.mk.injEq] at h;rw [←h.1];simp [Jx];omega
   ·simp only [Option.some.injEq,Prod.mk.injEq] at h;rw [←h.1];simp [Jx];omega
def JM (l:List UInt8):Nat→Nat→List Jw→Option (List Jw × Nat)
 | 0,_,_=>none
 | f+1,k,acc=>
   match l.drop (k+((l.drop k).takeWhile XB).length) with
   | []=>none
   | d::q=>if d=62 then some (acc,k+((l.drop k).takeWhile XB).length) else
     match Xm (d::q) with
     | none=>none
     | some (p,m)=>JM l f (k+((l.drop k).takeWhile XB).length+m) (if p.1∈acc.map (·.1)∨JB p.1=false then acc else acc++[p])
theorem Jtq:Keyed Tryz.prog 9:=string_keyed Tryz.underlying9
theorem JtF (w:World):(zeroValue 182).run Tryz.prog w=.ok (.agg #[]) w:=by kernel_rfl
def XQ (w:World) (g:Nat) (met:List (List UInt8)):Prop:=
 ∃ D:DataW Unit,w.ownsMap Tryz.prog 9 unitElem g met.length D∧ ∀ n:List UInt8,has D (.string n)=decide (n∈met)
theorem XQ.lt {w:World} {g:Nat} {met:List (List UInt8)} (h:XQ w g met):g<w.heap.size:=by
 obtain ⟨D,h,_⟩:=h;exact h.lt
theorem XQ.keeps {S:List Nat} {w w':World} {g:Nat} {met:List (List UInt8)} (h:XQ w g met) (hk:Jb S w w') (hg:g∉S):XQ w' g met:=by
 have hlt:=h.lt;obtain ⟨D,⟨es,c,hb,F,hz,hD⟩,hh⟩:=h;exact ⟨D,⟨es,c,by rw [hk.block g hlt hg];exact hb,F,hz,hD⟩,hh⟩
theorem XQ.made (w:World):XQ (w.alloc (.map #[] 0)) w.heap.size []:=
 ⟨_,World.ownsMap_made w _ _ _,fun n=>by simp [Maps.has]⟩
theorem XQ.look {w:World} {g:Nat} {met:List (List UInt8)} (h:XQ w g met) (n:List UInt8) (hn:n.length≤maxLen):
  (Instr.lookup 219 (.map (some g)) (.string ⟨n.toArray⟩) true).run Tryz.prog w=.ok (.tuple #[.agg #[],.bool (decide (n∈met))]) w:=by
 obtain ⟨D,ho,hh⟩:=h;obtain ⟨v,ps,hr,hv⟩:=ho.look_ok Jtq Tryz.underlying219 (JtF w) unitElem_mk (WideMaps.keyOf_string_mk Tryz.underlying9 (s:=⟨n.toArray⟩) hn);obtain ⟨rfl,_⟩:=unitElem_inv hv;rw [hr,hh]
theorem XQ.add {w:World} {g:Nat} {met:List (List UInt8)} (h:XQ w g met) (n:List UInt8) (hn:n.length≤maxLen) (hm:met.length<maxLen):
  ∃ w',(Instr.mapUpdate 219 (.map (some g)) (.string ⟨n.toArray⟩) (.agg #[])).run Tryz.prog w=.ok () w'∧XQ w' g (met++[n])∧Jb [g] w w':=by
 obtain ⟨D,ho,hh⟩:=h;obtain ⟨w',hr,ho',hg⟩:=ho.update Jtq Tryz.underlying219 hm (WideMaps.keyOf_string_mk Tryz.underlying9 (s:=⟨n.toArray⟩) hn) unitElem_mk;refine ⟨w',hr,⟨_,by simpa using ho',fun n'=>?_⟩,Z7 hg⟩;by_cases hnn:n'=n
 ·subst hnn;rw [has_put_same ho.isMap (by exact trivial)];simp
 ·rw [has_put_other (by simpa using hnn),hh];simp [hnn]
theorem Jpb:Jy 293:=JC Tryz.func293 (by kernel_rfl) (by kernel_rfl)
def Jj (l:List Jw):List Value:=l.flatMap fun p=>[.string ⟨p.1.toArray⟩,.string ⟨p.2.toArray⟩]
theorem JeJ (l:List Jw) (p:Jw):Jj (l++[p])=Jj l++[.string ⟨p.1.toArray⟩,.string ⟨p.2.toArray⟩]:=by simp [Jj]
theorem JeK (l:List Jw):(Jj l).length=l.length * 2:=by
 induction l with
 | nil=>rfl
 | cons p l ih=>
   have e:Jj (p::l)=[.string ⟨p.1.toArray⟩,.string ⟨p.2.toArray⟩]++Jj l:=by simp [Jj]
   rw [e,List.length_append,ih];simp;omega
theorem Y5 {l:List UInt8} {f k:Nat} {acc:List Jw} {R:Option (List Jw × Nat)} (h:JM l (f+1) k acc=R) (k1:Nat) (hk1:k+((l.drop k).takeWhile XB).length=k1):
  R=match l.drop k1 with
  | []=>none
  | d::q=>if d=62 then some (acc,k1) else
    match Xm (d::q) with
    | none=>none
    | some (p,m)=>JM l f (k1+m) (if p.1∈acc.map (·.1)∨JB p.1=false then acc else acc++[p]):=by
 subst hk1;rw [←h];rfl
theorem Jps:(Tryz.prog.info? 52).map (fun i=>(i.zero,i.size,i.bytes))=some (some (.agg #[.string ⟨#[]⟩,.string ⟨#[]⟩]),2,32):=by kernel_rfl
theorem Jov (x y:ByteArray):(Value.agg #[.string x,.string y]).cells.size=2:=by kernel_rfl
set_option maxRecDepth 4000 in
theorem Job (r b:Nat) (rawv outv:Value) (s:ByteArray) (k0:Nat) (w:World) (hs:s.size≤3000) (hR:JK w r b rawv outv) (hT:Jf w b s k0) (hk0:k0≤s.size):
  Calls Tryz.prog 230 #[.pointer (some ⟨r,0,none⟩)] w fun e w'=>
   ((∃ l k' v,JM s.data.toList (s.size+1) k0 []=some (l,k')∧e=.returned v∧w'.ownsRow (w.heap.size+1) 52 2 v l.length (Jj l)∧l.length≤k'∧k'<s.size∧Jr s k'=62∧Jf w' b s k')∨
    (JM s.data.toList (s.size+1) k0 []=none∧e=.panicked Yp∧ ∃ j,Jf w' b s j))∧Jb [b] w w':=by
 have hne:=hR.ne hT;have hbw:=hT.lt;have hl:=Js s;obtain ⟨R,hRR⟩: ∃ R,JM s.data.toList (s.size+1) k0 []=R:=⟨_,rfl⟩;rw [hRR];have HR0:=Ja hRR;clear hRR;have hmm:=@run_makeMap Tryz.prog;obtain ⟨i0,hi,hz0,hz1,hz2⟩:=info_parts Jps;go_enter Tryz.func230,Tryz.ntmps230;go_wp2_with fail;have hset0:XQ (w.alloc (.map #[] 0)) w.heap.size []:=XQ.made w;have hk0':Jb [b] w (w.alloc (.map #[] 0)):=(Jb.refl [b] w).alloc _
 go_loopg [3] (s.size+1) (fun g v wr=> ∃ (k:Nat) (acc:List Jw),k≤s.size∧s.size+1≤g+k∧wr.ownsRow (w.heap.size+1) 52 2 v acc.length (Jj acc)∧Jf wr b s k∧JK wr r b rawv outv∧XQ wr w.heap.size (acc.map (·.1))∧Jb [b] w wr∧acc.length≤k∧w.heap.size+1≤wr.heap.size∧Hid (JM s.data.toList g k acc=R))
 case atStart=>exact ⟨k0,[],hk0,by omega,⟨rfl,.inl ⟨rfl,rfl⟩⟩,hT.keeps ((Jb.refl [] w).alloc _) List.not_mem_nil,hR.keeps ((Jb.refl [] w).alloc _) List.not_mem_nil,hset0,hk0',Nat.zero_le _,by simp,HR0⟩
 case round=>
  obtain ⟨k,acc,hk,hg,ho,hT1,hR1,hset,hkp,hal,hws,hF⟩:=hrel;clear HR0 hset0 hk0';obtain ⟨f,rfl⟩: ∃ f,gk=f+1:=⟨gk - 1,by omega⟩;have hp:=Ja (fun w hT=>Zg 293 XB Jpb Jr3 b s k w hs hT hk);have hLl:=Xa XB s k hk;have HF:=Ja (Y5 hF.out);generalize (s.data.toList.drop k).takeWhile XB=L at *;generalize hk1:k+L.length=k1 at *;have HF1:=Ja (HF.out k1 rfl);have hkk:k≤k1:=by omega
  clear HF hF hk1;have c1:=hR1.cell0;go_wp2_with fail;refine (hp.out _ hT1).mono ?_;rintro e w2 ⟨rfl,hT2,hk2⟩;have hR2:=hR1.keeps hk2 (by simpa using hne);have hset2:=hset.keeps hk2 (by simp;omega);have ho2:=hk2.owns ho (fun g hg=>by have:=(ho.lt g hg).1;simp;omega);have hkp2:=hkp.trans hk2;have hws2:=Nat.le_trans hws hk2.size;clear c1 hp ho hT1 hR1 hset hkp hk2 hws;have c2:=hR2.cell0;by_cases hend:s.size≤k1
  ·go_wp2_with fail;refine (Jno b s k1 _ hT2 hend).mono ?_;rintro e w3 ⟨rfl,hT3,hk3⟩;have hRn:R=none:=by have:=HF1.out;rwa [List.drop_eq_nil_of_le (by omega)] at this
   have HRn:=Ja hRn;clear hRn;go_wp2_with fail;exact ⟨rfl,.inr ⟨HRn.out,rfl,_,hT3⟩,hkp2.trans (hk3.to (by simp))⟩
  ·have hlt:k1<s.size:=by omega
   go_wp2_with fail;refine (Jep b s k1 _ hT2 hlt).mono ?_;rintro e w3 ⟨rfl,hT3,hk3⟩;have hR3:=hR2.keeps hk3 List.not_mem_nil;have hset3:=hset2.keeps hk3 List.not_mem_nil;have ho3:=hk3.owns ho2 (fun g hg=>List.not_mem_nil);have hkp3:Jb [b] w w3:=hkp2.trans (hk3.to (by simp));have hws3:=Nat.le_trans hws2 hk3.size;clear c2 ho2 hT2 hR2 hset2 hkp2 hk3 hws2;have HF2:=HF1.out;rw [Qz s k1 hlt] at HF2;by_cases hgt:Jr s k1=62
   ·have hbq:(((Jr s k1).toNat:Int)==62)=true:=by rw [hgt];rfl
    simp only [if_pos hgt] at HF2;have HF3:=Ja HF2;clear HF2 HF1;go_wp2_with fail;go_ret;exact ⟨.inl ⟨acc,k1,_,HF3.out,rfl,ho3,by omega,hlt,hgt,hT3⟩,hkp3⟩
   ·have hbq:(((Jr s k1).toNat:Int)==62)=false:=by
     rw [←Z0 (d:=62) (k:=62) rfl];simpa using hgt
    simp only [if_neg hgt] at HF2;rw [←Qz s k1 hlt] at HF2;have HF3:=Ja HF2;clear HF2 HF1;go_wp2_with fail;refine (JqY r b rawv outv s k1 _ hs hR3 hT3 hlt).mono ?_;rintro e w4 ⟨⟨n,v,m,ha,rfl,hT4⟩ | ⟨ha,rfl,j,hT4⟩,hk4⟩
    ·have HF4:=HF3.out;rw [ha] at HF4;have hm1:=Jn7 ha;have hm2:=(Jiz ha).1;have hm3:n.length≤_:=(Jiz ha).2;rw [List.length_drop] at hm2 hm3;have HF5:=Ja HF4;clear HF4 HF3 ha;have hR4:=hR3.keeps hk4 (by simpa using hne);have hset4:=hset3.keeps hk4 (by simp;omega);have ho4:=hk4.owns ho3 (fun g hg=>by have:=(ho3.lt g hg).1;simp;omega);have hkp4:Jb [b] w w4:=hkp3.trans hk4;have hws4:=Nat.le_trans hws3 hk4.size;clear ho3 hT3 hR3 hset3 hkp3 hk4 hws3;have hb4:=hT4.lt;have hlook:=fun o=>(hset4.keeps ((Jb.refl [] w4).alloc o) List.not_mem_nil).look n (by unfold maxLen;omega);generalize hmm:acc.map (·.1)=met at *;have hk5:Jb [] w4 ((w4.alloc (.cells #[.string ⟨n.toArray⟩,.string ⟨v.toArray⟩] 52)).alloc (.cells #[] 182)):=((Jb.refl [] w4).alloc _).alloc _;have hA5:Qg ((w4.alloc (.cells #[.string ⟨n.toArray⟩,.string ⟨v.toArray⟩] 52)).alloc (.cells #[] 182)) w4.heap.size ⟨n.toArray⟩ ⟨v.toArray⟩:=
      (show Qg (w4.alloc (.cells #[.string ⟨n.toArray⟩,.string ⟨v.toArray⟩] 52)) w4.heap.size ⟨n.toArray⟩ ⟨v.toArray⟩ from heap_alloc_new w4 _).keeps ((Jb.refl [] _).alloc _) List.not_mem_nil
     by_cases htw:n∈met
     ·have hd:decide (n∈met)=true:=by simpa using htw
      rw [hd] at hlook;have HF6:=HF5.out;simp only [htw,true_or,if_true] at HF6;have HF7:=Ja HF6.symm;clear HF6 HF5;go_wp2_with fail
      go_roundg f
      case measure=>omega
      case rel=>exact ⟨k1+m,acc,by omega,by omega,hk5.owns ho4 (fun g hg=>List.not_mem_nil),hT4.keeps hk5 List.not_mem_nil,hR4.keeps hk5 List.not_mem_nil,hmm ▸ hset4.keeps hk5 List.not_mem_nil,hkp4.trans (hk5.to (by simp)),by omega,Nat.le_trans hws4 hk5.size,HF7⟩
     ·have hd:decide (n∈met)=false:=by simpa using htw
      rw [hd] at hlook;have hnm:=Ja (fun w=>JcF ⟨n.toArray⟩ w (by rw [Jv];omega));rw [Qc] at hnm;have a0:=hA5.cell0;cases hin:JB n
      ·rw [hin] at hnm;have HF6:=HF5.out;simp only [hin,or_true,if_true] at HF6;have HF7:=Ja HF6.symm;clear HF6 HF5;go_wp2_with fail;refine (hnm.out _).mono ?_;rintro e w6 ⟨rfl,rfl⟩;go_wp2_with fail
       go_roundg f
       case measure=>omega
       case rel=>exact ⟨k1+m,acc,by omega,by omega,hk5.owns ho4 (fun g hg=>List.not_mem_nil),hT4.keeps hk5 List.not_mem_nil,hR4.keeps hk5 List.not_mem_nil,hmm ▸ hset4.keeps hk5 List.not_mem_nil,hkp4.trans (hk5.to (by simp)),by omega,Nat.le_trans hws4 hk5.size,HF7⟩
      ·rw [hin] at hnm;have hcond: ¬ ((n,v).1∈met∨JB (n,v).1=false):=by simp [hin,htw]
       have HF6:R=JM s.data.toList f (k1+m) (acc++[(n,v)]):=HF5.out.trans (by show JM _ _ _ (if _ then _ else _)=_;rw [if_neg hcond]);have HF7:=Ja HF6.symm;clear HF6 HF5;have hml:met.length<maxLen:=by rw [←hmm,List.length_map];unfold maxLen;omega
       obtain ⟨w6,hup,hset6,hk6⟩:=(hset4.keeps hk5 List.not_mem_nil).add n (by unfold maxLen;omega) hml;have hz4:=hset4.lt;have hA6:=hA5.keeps hk6 (by simp;omega);have hR6:=(hR4.keeps hk5 List.not_mem_nil).keeps hk6 (by have:=hR.lt;simp;omega);have hT6:=(hT4.keeps hk5 List.not_mem_nil).keeps hk6 (by simp;omega);have ho6:=hk6.owns (hk5.owns ho4 (fun g hg=>List.not_mem_nil)) (fun g hg=>by have:=(ho4.lt g hg).1;simp;omega);have hkp6:Jb [b] w w6:=(((hkp4.to (T:=[b,w.heap.size]) (by simp)).trans (hk5.to (by simp))).trans (hk6.to (by simp))).mono fun i hi hlt=>by simp at hi ⊢;omega
       have hws6:w.heap.size+1≤w6.heap.size:=Nat.le_trans (Nat.le_trans hws4 hk5.size) hk6.size;have b0:=hA6.cell0;have b1:=hA6.cell1;have q:=heap_alloc_new w6 (.cells #[.string ⟨n.toArray⟩,.string ⟨v.toArray⟩] 52);go_wp2_with fail;refine (hnm.out _).mono ?_;rintro e w6 ⟨rfl,rfl⟩;go_wp2_with (at_builtin;refine wpList_append_own _ rfl _ _ 43 rfl (w.heap.size+1) 52 i0 _ 2 32 Tryz.underlying43 hi hz0 hz1 hz2 (Jov _ _) (by decide) _ _ _ rfl (ho6.alloc _) ⟨w6.heap.size,0,none⟩ 1 1 [.string ⟨n.toArray⟩,.string ⟨v.toArray⟩] rfl rfl ?c1 ?c2 ?c3 ?c4 ?c5 ?_)
       case c1=>
        intro j u hj;rw [ZY];have qq:Qg (w6.alloc (.cells #[.string ⟨n.toArray⟩,.string ⟨v.toArray⟩] 52)) w6.heap.size ⟨n.toArray⟩ ⟨v.toArray⟩:=q
        match j,hj with
        | 0,hj=>simp at hj;subst hj;exact qq.cell0
        | 1,hj=>simp at hj;subst hj;exact qq.cell1
       case c2=>intro u hu;simp at hu;rcases hu with rfl | rfl<;>rfl
       case c3=>unfold maxLen;omega
       case c4=>omega
       case c5=>simp;omega
       intro v7 w7 ho7 hg7 _;have hk7:Jb u3.ownBlock.toList w6 w7:=((Jb.refl _ w6).alloc _).grown hg7 fun i e=>.inl (by simp [e]);have hro: ∀ g,g∈u3.ownBlock.toList→w.heap.size+1≤g:=fun g hg=>(ho6.lt g (by simpa using hg)).1;have hT7:=hT6.keeps hk7 (fun h=>by have:=hro _ h;omega);have hR7:=hR6.keeps hk7 (fun h=>by have:=hro _ h;have:=hR.lt;omega);have hset7:=hset6.keeps hk7 (fun h=>by have:=hro _ h;omega);have hkp7:Jb [b] w w7:=((hkp6.to (T:=b::u3.ownBlock.toList) (by simp)).trans (hk7.to (fun i hi=>by simp at hi ⊢;exact .inr hi))).mono fun i hi hlt=>by
        rcases List.mem_cons.1 hi with rfl | hi
        ·simp
        ·have:=hro _ hi;omega
       have ho7':w7.ownsRow (w.heap.size+1) 52 2 v7 (acc++[(n,v)]).length (Jj (acc++[(n,v)])):=by
        rw [JeJ,List.length_append];exact ho7
       have hset7':XQ w7 w.heap.size ((acc++[(n,v)]).map (·.1)):=by
        rw [List.map_append,hmm];exact hset7
       go_wp2_with fail
       go_roundg f
       case measure=>omega
       case rel=>exact ⟨k1+m,acc++[(n,v)],by omega,by omega,ho7',hT7,hR7,hset7',hkp7,by rw [List.length_append];simp;omega,Nat.le_trans hws6 hk7.size,HF7⟩
    ·have hRn:R=none:=by have:=HF3.out;rwa [ha] at this
     have HRn:=Ja hRn;clear hRn;go_wp2_with fail;exact ⟨rfl,.inr ⟨HRn.out,rfl,_,hT4⟩,hkp3.trans hk4⟩
structure Tok where
 kind:Int
 name:List UInt8
 attrs:List Jw
 text:List UInt8
deriving DecidableEq
def QS (p:Tok × Value):List Value:=[.int .i64 p.1.kind,.string ⟨p.1.name.toArray⟩,p.2,.string ⟨p.1.text.toArray⟩]
def JT (l:List (Tok × Value)):List Value:=l.flatMap QS
theorem Jc9 (l:List (Tok × Value)) (p:Tok × Value):JT (l++[p])=JT l++QS p:=by simp [JT]
def J6 (w:World) (B:Nat) (p:Tok × Value):Prop:=w.ownsRow B 52 2 p.2 p.1.attrs.length (Jj p.1.attrs)
structure Rd (w:World) (B r b:Nat) (rawv outv:Value) (raw:List UInt8) (l:List (Tok × Value)):Prop where
 reader:JK w r b rawv outv
 raw:w.ownsRow B 5 1 rawv raw.length (Lib.byteCells raw)
 out:w.ownsRow B 117 4 outv l.length (JT l)
 attrs: ∀ p∈l,J6 w B p
 max:JW w
 pos:0<B
 hr:B≤r
 hb:B≤b
theorem Jt {w:World} {B:Nat} {e:TypeId} {z:Nat} {v:Value} {n:Nat} {xs:List Value} (h:w.ownsRow B e z v n xs) {b:Nat} {cs:Array Value} {t:TypeId} (hT:w.heap[b]?=some (.cells cs t (0,0))) (he:e≠t):v.ownBlock≠some b:=by
 intro hv;rcases h.2 with ⟨rfl,_⟩ | ⟨g,cap,cur,rfl,_,hg,_⟩
 ·simp [Value.ownBlock] at hv
 ·simp only [Value.ownBlock,Option.some.injEq] at hv;rw [hv,hT] at hg;simp at hg;exact he hg.2.symm
theorem Qk {w:World} {B:Nat} {e:TypeId} {z:Nat} {v:Value} {n:Nat} {xs:List Value} (h:w.ownsRow B e z v n xs) {B':Nat} {e':TypeId} {z':Nat} {v':Value} {n':Nat} {xs':List Value} (h':w.ownsRow B' e' z' v' n' xs') (he:e≠e') {g:Nat} (hg:v.ownBlock=some g) (hg':v'.ownBlock=some g):False:=by
 rcases h'.2 with ⟨rfl,_⟩ | ⟨g',cap,cur,rfl,_,hb,_⟩
 ·simp [Value.ownBlock] at hg'
 ·simp only [Value.ownBlock,Option.some.injEq] at hg';subst hg';exact Jt h hb he hg
theorem Rd.keeps {w w':World} {B r b:Nat} {rawv outv:Value} {raw:List UInt8} {l:List (Tok × Value)} {S:List Nat} (h:Rd w B r b rawv outv raw l) (hk:Jb S w w') (hr:r∉S) (hraw: ∀ g,rawv.ownBlock=some g→g∉S) (hout: ∀ g,outv.ownBlock=some g→g∉S)
  (hat: ∀ p∈l, ∀ g,p.2.ownBlock=some g→g∉S) (h0:0∉S):Rd w' B r b rawv outv raw l:=
 ⟨h.reader.keeps hk hr,hk.owns h.raw hraw,hk.owns h.out hout,fun p hp=>hk.owns (h.attrs p hp) (hat p hp),h.max.keeps hk h0,h.pos,h.hr,h.hb⟩
theorem Rd.keepsNil {w w':World} {B r b:Nat} {rawv outv:Value} {raw:List UInt8} {l:List (Tok × Value)} (h:Rd w B r b rawv outv raw l) (hk:Jb [] w w'):Rd w' B r b rawv outv raw l:=
 h.keeps hk List.not_mem_nil (fun _ _=>List.not_mem_nil) (fun _ _=>List.not_mem_nil) (fun _ _ _ _=>List.not_mem_nil) List.not_mem_nil
theorem Rd.keepsText {w w':World} {B r b:Nat} {rawv outv:Value} {raw:List UInt8} {l:List (Tok × Value)} (h:Rd w B r b rawv outv raw l) {s:ByteArray} {k:Nat} (hT:Jf w b s k) (hk:Jb [b] w w'):Rd w' B r b rawv outv raw l:=by
 refine h.keeps hk (by simpa using h.reader.ne hT) (fun g hg=>?_) (fun g hg=>?_) (fun p hp g hg=>?_) ?_
 ·intro hm;simp at hm;subst hm;exact Jt h.raw hT (by decide) hg
 ·intro hm;simp at hm;subst hm;exact Jt h.out hT (by decide) hg
 ·intro hm;simp at hm;subst hm;exact Jt (h.attrs p hp) hT (by decide) hg
 ·have:=h.pos;have:=h.hb;simp;omega
theorem Rd.ne {w:World} {B r b:Nat} {rawv outv:Value} {raw:List UInt8} {l:List (Tok × Value)} (h:Rd w B r b rawv outv raw l) {s:ByteArray} {k:Nat} (hT:Jf w b s k):r≠b:=h.reader.ne hT
theorem Rd.b0 {w:World} {B r b:Nat} {rawv outv:Value} {raw:List UInt8} {l:List (Tok × Value)} (h:Rd w B r b rawv outv raw l):0∉[b]:=by
 have:=h.pos;have:=h.hb;simp;omega
theorem Jpa:Jy 291:=JC Tryz.func291 (by kernel_rfl) (by kernel_rfl)
theorem Jd4 {p l:List UInt8} (h:Lib.hasPrefix l p=true):Xx p l=some p.length:=by
 have e:Lib.index l p=0:=by
  unfold Lib.index;cases l with
  | nil=>simp_all [Lib.hasPrefix]
  | cons c l=>
    have h':p<+:c::l:=by unfold Lib.hasPrefix at h;simpa using h
    simp [h']
 unfold Xx;rw [e];simp
theorem Jgt (r b:Nat) (rawv outv:Value) (s p:ByteArray) (k:Nat) (w:World) (hs:s.size≤3000) (hp:p.size≤3000) (hR:JK w r b rawv outv) (hT:Jf w b s k) (hM:JW w) (hk:k+p.size≤s.size) (hst:Ju s k p.data.toList=true)
  (N:List UInt8) (hN:(s.data.toList.drop (k+p.size)).takeWhile QJ=N):
  Calls Tryz.prog 229 #[.pointer (some ⟨r,0,none⟩),.string p] w fun e w'=>
   e=.returned (.string ⟨(Jx N).toArray⟩)∧Jf w' b s (k+p.size+N.length)∧Jb [b] w w':=by
 have hne:=hR.ne hT;have c0:=hR.cell0;have hend:Xx p.data.toList (s.data.toList.drop k)=some p.data.toList.length:=Jd4 hst;have hpt:=Ja (Jas b s k p w hs hp hT (by omega) hM);rw [hend] at hpt;have hps:=Ja (fun w hT=>Zg 291 QJ Jpa Jr7 b s (k+p.size) w hs hT hk);have hLl:=Xa QJ s (k+p.size) hk;rw [hN] at hps hLl;have hlow:=Ja (fun w=>Jfs ⟨N.toArray⟩ w (by rw [Jv];omega));rw [Qc] at hlow;generalize Jx N=NN at *;clear hN hend hst;go_enter Tryz.func229,Tryz.ntmps229;go_wp2_with fail;refine hpt.out.mono ?_;rintro e w1 ⟨⟨m,hm,rfl,hT1⟩ | ⟨hm,_⟩,hk1⟩
 ·simp only [Option.some.injEq] at hm;have hT1':Jf w1 b s (k+p.size):=hT1.at (by rw [←hm];rfl);clear hT1 hm hpt;have hR1:=hR.keeps hk1 (by simpa using hne);have c1:=hR1.cell0;go_wp2_with fail;refine (hps.out _ hT1').mono ?_;rintro e w2 ⟨rfl,hT2,hk2⟩;go_wp2_with fail;refine (hlow.out _).mono ?_;rintro e w3 ⟨rfl,hk3⟩;go_wp2_with fail;go_ret;exact ⟨rfl,hT2.keeps hk3 List.not_mem_nil,(hk1.trans hk2).trans (hk3.to (by simp))⟩
 ·simp at hm
theorem JjH (r b:Nat) (rawv outv:Value) (s p:ByteArray) (k:Nat) (w:World) (hs:s.size≤3000) (hp:p.size≤3000) (hR:JK w r b rawv outv) (hT:Jf w b s k) (hk:k≤s.size):
  Calls Tryz.prog 152 #[.pointer (some ⟨r,0,none⟩),.string p] w fun e w'=>
   e=.returned (.bool (Ju s k p.data.toList&&(decide (k+p.size<s.size)&&J2 (Jr s (k+p.size)))))∧Jf w' b s k∧Jb [] w w':=by
 have c0:=hR.cell0;have hbg:=Ja (JdW b s k p w hT hk);have hah:=Ja (fun w hT=>Jn4 b s k p.size w hs hT hk hp);generalize (decide (k+p.size<s.size)&&J2 (Jr s (k+p.size)))=q at *;cases hst:Ju s k p.data.toList
 ·rw [hst] at hbg;rw [Bool.false_and];go_enter Tryz.func152,Tryz.ntmps152;go_wp2_with fail;refine hbg.out.mono ?_;rintro e w1 ⟨rfl,n,rfl⟩;go_wp2_with fail;go_ret;exact ⟨rfl,hT,(Jb.refl _ _).drewN _⟩
 ·rw [hst] at hbg;rw [Bool.true_and];go_enter Tryz.func152,Tryz.ntmps152;go_wp2_with fail;refine hbg.out.mono ?_;rintro e w1 ⟨rfl,n,rfl⟩;have c1:(w.drewN n).cell? ⟨r,0,none⟩=some (.pointer (some ⟨b,0,none⟩)):=c0;go_wp2_with fail;refine (hah.out (w.drewN n) hT).mono ?_;rintro e w2 ⟨rfl,n2,rfl⟩;go_wp2_with fail;go_ret;exact ⟨rfl,hT,(Jb.refl _ _).drewN _⟩
theorem JoP:Jy 160:=JC Tryz.func160 (by kernel_rfl) (by kernel_rfl)
theorem JdK:(Tryz.prog.info? 117).map (fun i=>(i.zero,i.size,i.bytes))=some (some (.agg #[.int .i64 0,.string ⟨#[]⟩,.slice none 0 0,.string ⟨#[]⟩]),4,64):=by kernel_rfl
def XG (t:List UInt8):Tok:=⟨1,[],[],t⟩
def Qf (r:Nat) (rawv outv:Value):List Nat:=r::(rawv.ownBlock.toList++outv.ownBlock.toList)
theorem J9 (w:World) (cs:Array Value) (t:TypeId) (j:Nat) (u:Value) (h:cs.toList[j]?=some u):(w.alloc (.cells cs t)).cell? ((⟨w.heap.size,0,none⟩:Addr).add j)=some u:=by
 rw [ZY];have hh:=heap_alloc_new w (.cells cs t);have h':cs[j]?=some u:=by simpa using h
 simp only [World.cell?];rw [hh];exact h'
theorem JK.blk {w:World} {r b:Nat} {rawv outv:Value} (h:JK w r b rawv outv):w.heap[r]?=some (.cells #[.pointer (some ⟨b,0,none⟩),rawv,outv] 109 (0,0)):=h
theorem Jg {w:World} {B:Nat} {e:TypeId} {z:Nat} {v:Value} {n:Nat} {xs:List Value} (h:w.ownsRow B e z v n xs): ∃ o c,v=.slice o n c:=by
 rcases h.2 with ⟨rfl,h0⟩ | ⟨g,cap,cur,rfl,_⟩
 ·exact ⟨none,0,by rw [h0]⟩
 ·exact ⟨_,_,rfl⟩
theorem JK.set2 {w:World} {r b:Nat} {rawv outv:Value} (h:JK w r b rawv outv) (v:Value):JK (w.setCell ⟨r,2,none⟩ v) r b rawv v:=by
 simp [World.setCell,JK,Array.getElem?_modify] at h ⊢;simp [h]
theorem JK.set1 {w:World} {r b:Nat} {rawv outv:Value} (h:JK w r b rawv outv) (v:Value):JK (w.setCell ⟨r,1,none⟩ v) r b v outv:=by
 simp [World.setCell,JK,Array.getElem?_modify] at h ⊢;simp [h]
theorem X3 {w:World} {B:Nat} {e:TypeId} {z:Nat} {v:Value} {n:Nat} {xs:List Value} (h:w.ownsRow B e z v n xs) {a:Addr} (ha:v.ownBlock≠some a.block) (u:Value):(w.setCell a u).ownsRow B e z v n xs:=
 ((Jb.refl [a.block] w).setCell (.inl (by simp)) u).owns h (fun g hg=>by
   intro hm;simp at hm;subst hm;exact ha hg)
theorem Rd.outReader {w w3:World} {B r b:Nat} {rawv outv:Value} {raw:List UInt8} {l:List (Tok × Value)} (h:Rd w B r b rawv outv raw l) (hk:Jb outv.ownBlock.toList w w3):JK w3 r b rawv outv:=
 h.reader.keeps hk (fun hm=>Jt h.out h.reader.blk (by decide) (by simpa using hm))
theorem Rd.grow {w w3:World} {B r b:Nat} {rawv outv:Value} {raw:List UInt8} {l:List (Tok × Value)} (h:Rd w B r b rawv outv raw l) (hk:Jb outv.ownBlock.toList w w3) {v3:Value} {p:Tok × Value} (ho:w3.ownsRow B 117 4 v3 (l.length+1) (JT l++QS p)) (hp:J6 w3 B p):
  Rd (w3.setCell ⟨r,2,none⟩ v3) B r b rawv v3 raw (l++[p])∧Jb (Qf r rawv outv) w (w3.setCell ⟨r,2,none⟩ v3):=by
 have hR3:=h.outReader hk;have hraw3:=hk.owns h.raw (fun g hg hm=>Qk h.raw h.out (by decide) hg (by simpa using hm));have hat3: ∀ q∈l,J6 w3 B q:=fun q hq=>hk.owns (h.attrs q hq) (fun g hg hm=>Qk (h.attrs q hq) h.out (by decide) hg (by simpa using hm));have hpos:=h.pos;have hk':Jb (Qf r rawv outv) w (w3.setCell ⟨r,2,none⟩ v3):=(hk.to (fun i hi=>by simp [Qf] at hi ⊢;exact .inr (.inr hi))).setCell (.inl (by simp [Qf])) _;refine ⟨⟨hR3.set2 v3,X3 hraw3 (Jt hraw3 hR3.blk (by decide)) _,?_,?_,?_,h.pos,h.hr,h.hb⟩,hk'⟩
 ·rw [Jc9,List.length_append];exact X3 ho (Jt ho hR3.blk (by decide)) _
 ·intro q hq;rcases List.mem_append.1 hq with hq | hq
  ·exact X3 (hat3 q hq) (Jt (hat3 q hq) hR3.blk (by decide)) _
  ·simp at hq;subst hq;exact X3 hp (Jt hp hR3.blk (by decide)) _
 ·refine h.max.keeps hk' ?_;intro hm;have:=h.hr;simp [Qf] at hm;rcases hm with hm | hm | hm
  ·omega
  ·have:=(h.raw.lt _ hm).1;omega
  ·have:=(h.out.lt _ hm).1;omega
theorem JaN {P:Program} {ops:Array Oper} {o:Oper} {a:Act} {w:World} {K:Act→World→Prop} {Q:Exit→Act→World→Prop} {E:Prop} (hg:o.guard=none) (s x:Operand) (t:TypeId)
  (ho:o.op=.call { callee:=.builtin .append,args:=#[s,x],argTypes:=#[t,t] })
  (base:Nat) (e:TypeId) (i:TypeInfo) (z:Value) (size bytes:Nat) (ht:P.underlying t=some (.slice e)) (hi:P.info? e=some i) (hz:i.zero=some z)
  (hsize:i.size=size) (hby:i.bytes=bytes) (hzs:z.cells.size=size) (hsz:0<size)
  (v:Value) (n:Nat) (xs:List Value) (hs:a.eval s=v) (hown:w.ownsRow base e size v n xs)
  (ad:Addr) (m c:Nat) (news:List Value) (hx:a.eval x=.slice (some ad) m c) (hl:news.length=m * size) (hnews: ∀ j u,news[j]?=some u→w.cell? (ad.add j)=some u) (h1: ∀ u∈news,u.oneCell'=true)
  (h63:n+m≤maxLen) (hbytes:(n+m) * bytes≤140737488355328) (hbase:base≤w.heap.size)
  (h: ∀ v' w',w'.ownsRow base e size v' (n+m) (xs++news)→w.grownBy w' v.ownBlock→(v'.ownBlock=v.ownBlock∨v'.ownBlock=some w.heap.size)→K (a.put o.dst v') w'):
  if Region.wanted o (yielded ops a.tmps)=true then Oper.wp P o a w K Q else E:=by
 refine JcQ hg ?_;obtain ⟨v',w',hr,h2,h3,_,h5⟩:=run_append_own_at (P:=P) w base t o.type e i z size bytes ht hi hz hsize hby hzs hsz v n xs hown ad m c news hl hnews h1 h63 hbytes hbase;unfold Oper.wp execOp;simp only [ho,resolve,invoke,builtin,Sem.run_bind,Sem.run_pure,Result.andThen_ok,List.map_toArray,List.map_cons,List.map_nil,hs,hx,hr];exact h v' w' h2 h3 h5
def ZX (w:World) (S T:List Nat):Prop:= ∀ i,i∈S→i<w.heap.size→i∈T
theorem ZX.refl (w:World) (S:List Nat):ZX w S S:=fun _ h _=>h
theorem Jb.within {S T:List Nat} {a w w':World} (h:Jb T a w) (k:Jb S w w') (hS:ZX a S T):Jb T a w':=
 ((h.to (T:=S++T) (by simp;exact fun _ h=>.inr h)).trans (k.to (by simp;exact fun _ h=>.inl h))).mono fun i hi hlt=>by
   rcases List.mem_append.1 hi with hi | hi
   ·exact hS i hi hlt
   ·exact hi
theorem Jn0 {w:World} {r:Nat} {rawv outv outv':Value} {n:Nat} (h:outv'.ownBlock=outv.ownBlock∨outv'.ownBlock=some n) (hn:w.heap.size≤n):ZX w (Qf r rawv outv') (Qf r rawv outv):=by
 intro i hi hlt;simp [Qf] at hi ⊢;rcases hi with hi | hi | hi
 ·exact .inl hi
 ·exact .inr (.inl hi)
 ·rcases h with h | h
  ·rw [h] at hi;exact .inr (.inr hi)
  ·rw [h] at hi;simp at hi;omega
theorem Jn1 {w:World} {r:Nat} {rawv rawv' outv:Value} {n:Nat} (h:rawv'.ownBlock=rawv.ownBlock∨rawv'.ownBlock=some n) (hn:w.heap.size≤n):ZX w (Qf r rawv' outv) (Qf r rawv outv):=by
 intro i hi hlt;simp [Qf] at hi ⊢;rcases hi with hi | hi | hi
 ·exact .inl hi
 ·rcases h with h | h
  ·rw [h] at hi;exact .inr (.inl hi)
  ·rw [h] at hi;simp at hi;omega
 ·exact .inr (.inr hi)
theorem Rd.touch0 {w:World} {B r b:Nat} {rawv outv:Value} {raw:List UInt8} {l:List (Tok × Value)} (h:Rd w B r b rawv outv raw l):0∉Qf r rawv outv:=by
 intro hm;have:=h.hr;have:=h.pos;simp [Qf] at hm;rcases hm with hm | hm | hm
 ·omega
 ·have:=(h.raw.lt _ hm).1;omega
 ·have:=(h.out.lt _ hm).1;omega
theorem Rd.touch_lt {w:World} {B r b:Nat} {rawv outv:Value} {raw:List UInt8} {l:List (Tok × Value)} (h:Rd w B r b rawv outv raw l): ∀ i,i∈Qf r rawv outv→i<w.heap.size:=by
 intro i hm;simp [Qf] at hm;rcases hm with hm | hm | hm
 ·rw [hm];exact h.reader.lt
 ·exact (h.raw.lt _ hm).2
 ·exact (h.out.lt _ hm).2
theorem Rd.setRaw {w w3:World} {B r b:Nat} {rawv outv:Value} {raw:List UInt8} {l:List (Tok × Value)} (h:Rd w B r b rawv outv raw l) (hk:Jb rawv.ownBlock.toList w w3) {v3:Value} {raw3:List UInt8} (ho:w3.ownsRow B 5 1 v3 raw3.length (Lib.byteCells raw3)):
  Rd (w3.setCell ⟨r,1,none⟩ v3) B r b v3 outv raw3 l∧Jb (Qf r rawv outv) w (w3.setCell ⟨r,1,none⟩ v3):=by
 have hR3:JK w3 r b rawv outv:=h.reader.keeps hk (fun hm=>Jt h.raw h.reader.blk (by decide) (by simpa using hm));have hout3:=hk.owns h.out (fun g hg hm=>Qk h.out h.raw (by decide) hg (by simpa using hm));have hat3: ∀ q∈l,J6 w3 B q:=fun q hq=>hk.owns (h.attrs q hq) (fun g hg hm=>Qk (h.attrs q hq) h.raw (by decide) hg (by simpa using hm));have hk':Jb (Qf r rawv outv) w (w3.setCell ⟨r,1,none⟩ v3):=(hk.to (fun i hi=>by simp [Qf] at hi ⊢;exact .inr (.inl hi))).setCell (.inl (by simp [Qf])) _;exact ⟨⟨hR3.set1 v3,X3 ho (Jt ho hR3.blk (by decide)) _,X3 hout3 (Jt hout3 hR3.blk (by decide)) _,fun q hq=>X3 (hat3 q hq) (Jt (hat3 q hq) hR3.blk (by decide)) _,h.max.keeps hk' h.touch0,h.pos,h.hr,h.hb⟩,hk'⟩
theorem JkH {w:World} {B:Nat} {e:TypeId} {z g cap n:Nat} {xs:List Value} (h:w.ownsRow B e z (.slice (some ⟨g,0,none⟩) n cap) n xs):w.ownsRow B e z (.slice (some ⟨g,0,none⟩) 0 cap) 0 []:=by
 rcases h.2 with ⟨h1,_⟩ | ⟨g',cap',cur,he,h2,h3,h4,h5,h6,h7⟩
 ·simp at h1
 ·simp at he;obtain ⟨rfl,rfl⟩:=he;exact ⟨by simp,.inr ⟨g,cap,cur,rfl,h2,h3,Nat.zero_le _,h5,h6,by simp⟩⟩
set_option maxRecDepth 4000 in
theorem Jj8 (B r b:Nat) (rawv outv:Value) (raw:List UInt8) (l:List (Tok × Value)) (w:World) (h:Rd w B r b rawv outv raw l) (hB:B≤w.heap.size) (hne:raw≠[]) (hraw:raw.length≤3000) (hl:l.length≤100000):
  Calls Tryz.prog 81 #[.pointer (some ⟨r,0,none⟩)] w fun e w'=>
   e=.returned (.tuple #[])∧ ∃ rawv' outv',Rd w' B r b rawv' outv' [] (l++[(XG (JR raw).1,.slice none 0 0)])∧Jb (Qf r rawv outv) w w'∧ZX w (Qf r rawv' outv') (Qf r rawv outv):=by
 have hlen:((raw.length:Int)==0)=false:=by
  have:raw.length≠0:=fun e=>hne (List.eq_nil_of_length_eq_zero e);simp;omega
 have c1:=h.reader.cell1;have c2:=h.reader.cell2;obtain ⟨g,cap,cur,hrv,hgb,hgc,hcap1,hcap2,hcur1,hcur2⟩: ∃ g cap cur,rawv=.slice (some ⟨g,0,none⟩) raw.length cap∧B≤g∧w.heap[g]?=some (.cells cur 5 (0,0))∧raw.length≤cap∧cap≤maxLen∧cur.size=cap * 1∧cur.toList.take (raw.length * 1)=Lib.byteCells raw:=by
  rcases h.raw.2 with ⟨_,h0⟩ | h'
  ·exact absurd (List.eq_nil_of_length_eq_zero h0) hne
  ·exact h'
 subst hrv;have hcv:(convert 107 9 (.slice (some ⟨g,0,none⟩) raw.length cap)).run Tryz.prog w.drew=.ok (.string ⟨raw.toArray⟩) w.drew:=Jar (w:=w.drew) h.raw.drew 0;have htak:=Ja (fun w=>Jmn ⟨raw.toArray⟩ w hraw);rw [Qc] at htak;obtain ⟨T,hTT⟩: ∃ T,(JR raw).1=T:=⟨_,rfl⟩;rw [hTT] at htak ⊢;clear hTT;obtain ⟨i0,hi,hz0,hz1,hz2⟩:=info_parts JdK;clear hcur1 hcur2;go_enter Tryz.func81,Tryz.ntmps81;go_upto_region 1 with fail
 go_cut [] from 8 to 23 (fun wc=> ∃ outv',Rd wc B r b (.slice (some ⟨g,0,none⟩) raw.length cap) outv' raw (l++[(XG T,.slice none 0 0)])∧Jb (Qf r (.slice (some ⟨g,0,none⟩) raw.length cap) outv) w wc∧ZX w (Qf r (.slice (some ⟨g,0,none⟩) raw.length cap) outv') (Qf r (.slice (some ⟨g,0,none⟩) raw.length cap) outv))
 case first=>
  go_region_law (first
   | (refine Xg rfl 160 _ _ rfl JoP #[.string ⟨raw.toArray⟩] (by simp [Act.eval]) (htak.out _) ?_;rintro e w2 ⟨rfl,hk2⟩;refine ⟨_,rfl,?_⟩;have hR2:=h.reader.keeps (Xy hk2) List.not_mem_nil;have d2:=hR2.cell2;have d2a: ∀ o,(w2.alloc o).cell? ⟨r,2,none⟩=some outv:=fun o=>(JI (a:=⟨r,2,none⟩) hR2.lt o).trans d2)
   | (refine JaN rfl _ _ 26 rfl B 117 i0 _ 4 64 Tryz.underlying26 hi hz0 hz1 hz2 (by kernel_rfl) (by decide) outv l.length (JT l) rfl (((Xy hk2).owns h.out (fun _ _=>List.not_mem_nil)).alloc _) ⟨w2.heap.size,0,none⟩ 1 1 (QS (XG T,.slice none 0 0)) rfl rfl (J9 w2 _ 117) (by intro u hu;simp [QS] at hu;rcases hu with rfl | rfl | rfl | rfl<;>rfl) (by unfold maxLen;omega) (by omega) (Nat.le_trans hB (Nat.le_trans hk2.size (by simp))) ?_;intro v3 w3 ho3 hg3 hw3;obtain ⟨o3,c3,rfl⟩:=Jg ho3;have hk3:Jb outv.ownBlock.toList w w3:=((Xy hk2).up.alloc _).grown hg3 (fun i e=>.inl (by simp [e]));have hR3:=h.outReader hk3;have d3:=hR3.cell2;have f3:=hR3.free))
  all_goals go_wp2
  all_goals go_meet
  all_goals exact ⟨_,(h.grow hk3 ho3 (World.ownsRow_nil _ _ _ _)).1,(h.grow hk3 ho3 (World.ownsRow_nil _ _ _ _)).2,Jn0 hw3 (Nat.le_trans hk2.size (by simp))⟩
 case rest=>
  obtain ⟨outv',h',hk',hw'⟩:=hcut;have e1:=h'.reader.cell1;have f1:=h'.reader.free;clear c1 c2 hcv;go_wp2_with fail
  go_end0
  exact ⟨rfl,_,_,(h'.setRaw (Jb.refl _ _) (raw3:=[]) (JkH h'.raw)).1,hk'.setCell (.inl (by simp [Qf])) _,fun i hi hlt=>hw' i (by simpa [Qf,Value.ownBlock] using hi) hlt⟩
def X2 (raw:List UInt8):List (Tok × Value):=if raw=[] then [] else [(XG (JR raw).1,.slice none 0 0)]
theorem Jgh (B r b:Nat) (rawv outv:Value) (raw:List UInt8) (l:List (Tok × Value)) (w:World) (h:Rd w B r b rawv outv raw l) (hB:B≤w.heap.size) (hraw:raw.length≤3000) (hl:l.length≤100000):
  Calls Tryz.prog 81 #[.pointer (some ⟨r,0,none⟩)] w fun e w'=>
   e=.returned (.tuple #[])∧ ∃ rawv' outv',Rd w' B r b rawv' outv' [] (l++X2 raw)∧Jb (Qf r rawv outv) w w'∧ZX w (Qf r rawv' outv') (Qf r rawv outv):=by
 by_cases hne:raw=[]
 ·subst hne;have c1:=h.reader.cell1;obtain ⟨o,c,ho⟩:=Jg h.raw;subst ho;have e0:X2 []=[]:=rfl;rw [e0,List.append_nil];go_enter Tryz.func81,Tryz.ntmps81;go_wp2_with fail;refine bodyPost_ret (v:=.tuple #[]) (by simp [results,Tryz.results81]) rfl ?_;exact ⟨rfl,_,_,h,Jb.refl _ _,ZX.refl _ _⟩
 ·have e0:X2 raw=[(XG (JR raw).1,.slice none 0 0)]:=if_neg hne;rw [e0];exact Jj8 B r b rawv outv raw l w h hB hne hraw hl
def QI (w:World) (g:Nat) (p:Tok × Value):Prop:=w.heap[g]?=some (.cells #[.int .i64 p.1.kind,.string ⟨p.1.name.toArray⟩,p.2,.string ⟨p.1.text.toArray⟩] 117 (0,0))
theorem QI.cell (j:Nat) {w:World} {g:Nat} {p:Tok × Value} (h:QI w g p):w.cell? ⟨g,j,none⟩=(#[.int .i64 p.1.kind,.string ⟨p.1.name.toArray⟩,p.2,.string ⟨p.1.text.toArray⟩]:Array Value)[j]?:=by
 unfold World.cell?;simp only;rw [show w.heap[g]?=_ from h];simp
theorem QI.lt {w:World} {g:Nat} {p:Tok × Value} (h:QI w g p):g<w.heap.size:=lt_of_block h
theorem QI.keeps {S:List Nat} {w w':World} {g:Nat} {p:Tok × Value} (h:QI w g p) (hk:Jb S w w') (hg:g∉S):QI w' g p:=by
 rw [QI,hk.block g h.lt hg];exact h
theorem J6.touch {w w':World} {B r b:Nat} {rawv outv:Value} {raw:List UInt8} {l:List (Tok × Value)} (h:Rd w B r b rawv outv raw l) {p:Tok × Value} (hp:J6 w B p) (hk:Jb (Qf r rawv outv) w w'):J6 w' B p:=by
 refine hk.owns hp (fun g hg hm=>?_);simp [Go.Proofs.YtlcljanibjdejaaGreat.Qf] at hm;rcases hm with rfl | hm | hm
 ·exact Jt hp h.reader.blk (by decide) hg
 ·exact Qk hp h.raw (by decide) hg hm
 ·exact Qk hp h.out (by decide) hg hm
theorem YZ {p:Tok × Value} {o:Option Addr} {n c:Nat} (h:p.2=.slice o n c): ∀ u∈QS p,u.oneCell'=true:=by
 intro u hu;simp [QS,h] at hu;rcases hu with rfl | rfl | rfl | rfl<;>rfl
theorem J6.form {w:World} {B:Nat} {p:Tok × Value} (hp:J6 w B p): ∃ o n c,p.2=.slice o n c:=by
 obtain ⟨o,c,h⟩:=Jg hp;exact ⟨o,_,c,h⟩
set_option maxRecDepth 4000 in
theorem Jmk (B r b:Nat) (rawv outv:Value) (raw:List UInt8) (l:List (Tok × Value)) (w:World) (h:Rd w B r b rawv outv raw l) (hB:B≤w.heap.size) (hraw:raw.length≤3000) (hl:l.length≤90000)
  (kd:Int) (nm tx:List UInt8) (at':List Jw) (o:Option Addr) (n c:Nat) (hp:J6 w B (⟨kd,nm,at',tx⟩,.slice o n c)):
  Calls Tryz.prog 232 #[.pointer (some ⟨r,0,none⟩),.agg #[.int .i64 kd,.string ⟨nm.toArray⟩,.slice o n c,.string ⟨tx.toArray⟩]] w fun e w'=>
   e=.returned (.tuple #[])∧ ∃ rawv' outv',Rd w' B r b rawv' outv' [] (l++X2 raw++[(⟨kd,nm,at',tx⟩,.slice o n c)])∧Jb (Qf r rawv outv) w w':=by
 have hel:(l++X2 raw).length≤100000:=by
  unfold X2;split<;>simp<;>omega
 obtain ⟨i0,hi,hz0,hz1,hz2⟩:=info_parts JdK;have ha:Jb [] w (w.alloc (.cells #[.int .i64 kd,.string ⟨nm.toArray⟩,.slice o n c,.string ⟨tx.toArray⟩] 117)):=(Jb.refl [] w).alloc _;have hbx:QI (w.alloc (.cells #[.int .i64 kd,.string ⟨nm.toArray⟩,.slice o n c,.string ⟨tx.toArray⟩] 117)) w.heap.size (⟨kd,nm,at',tx⟩,.slice o n c):=heap_alloc_new w _;have het:=Ja (Jgh B r b rawv outv raw l _ (h.keepsNil ha) (Nat.le_trans hB ha.size) hraw (by omega));have hpa:J6 (w.alloc (.cells #[.int .i64 kd,.string ⟨nm.toArray⟩,.slice o n c,.string ⟨tx.toArray⟩] 117)) B (⟨kd,nm,at',tx⟩,.slice o n c):=ha.owns hp (fun _ _=>List.not_mem_nil);have hpt:=Ja (fun w' (hk:Jb (Qf r rawv outv) (w.alloc (.cells #[.int .i64 kd,.string ⟨nm.toArray⟩,.slice o n c,.string ⟨tx.toArray⟩] 117)) w')=>hpa.touch (h.keepsNil ha) hk);have htl:=h.touch_lt;generalize hll:l++X2 raw=ll at *;clear hll hpa;go_enter Tryz.func232,Tryz.ntmps232;go_wp2_with fail;refine het.out.mono ?_;rintro e w1 ⟨rfl,rawv',outv',h1,hk1,hw1⟩;have hp1:=hpt.out _ hk1;have hbx1:=hbx.keeps hk1 (fun hm=>by have:=htl _ hm;omega);have hw1':ZX w (Qf r rawv' outv') (Qf r rawv outv):=fun i hi hlt=>hw1 i hi (by have:=ha.size;omega);have hka:Jb (Qf r rawv outv) w w1:=(ha.to (by simp)).trans hk1;have hB1:B≤w1.heap.size:=Nat.le_trans (Nat.le_trans hB ha.size) hk1.size;clear het hpt hk1 hw1 hbx ha;have c2:=h1.reader.cell2;have c2a: ∀ o,(w1.alloc o).cell? ⟨r,2,none⟩=some outv':=fun o=>(JI (a:=⟨r,2,none⟩) h1.reader.lt o).trans c2;have b0:=hbx1.cell 0;have b1:=hbx1.cell 1;have b2:=hbx1.cell 2;have b3:=hbx1.cell 3;simp at b0 b1 b2 b3;go_upto_region 2 with fail
 go_region_law (refine JaN rfl _ _ 26 rfl B 117 i0 _ 4 64 Tryz.underlying26 hi hz0 hz1 hz2 (by kernel_rfl) (by decide) outv' ll.length (JT ll) rfl ((h1.out.alloc _).drew) ⟨w1.heap.size,0,none⟩ 1 1 (QS (⟨kd,nm,at',tx⟩,.slice o n c)) rfl rfl (J9 w1 _ 117) (YZ rfl) (by unfold maxLen;omega) (by omega) (Nat.le_trans hB1 (by simp)) ?_;intro v3 w3 ho3 hg3 hw3;obtain ⟨o3,c3,rfl⟩:=Jg ho3;have hk3:Jb outv'.ownBlock.toList w1 w3:=(((Jb.refl _ w1).alloc _).drew).grown hg3 (fun i e=>.inl (by simp [e]));have hR3:=h1.outReader hk3;have d3:=hR3.cell2;have f3:=hR3.free)
 all_goals go_wp2
 all_goals go_end0
 all_goals exact ⟨rfl,_,_,(h1.grow hk3 ho3 (hk3.owns hp1 (fun g hg hm=>Qk hp1 h1.out (by decide) hg (by simpa using hm)))).1,hka.within (h1.grow hk3 ho3 (hk3.owns hp1 (fun g hg hm=>Qk hp1 h1.out (by decide) hg (by simpa using hm)))).2 hw1'⟩
end Go.Proofs.YtlcljanibjdejaaGreat
