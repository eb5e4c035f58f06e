/- ShelfTells holds: the law returns true for every input, and each argument reads behind the call as it read before; no condition. A part of its proof. -/
import Derived.Test.YtlcljanibjdejaaGreatSt16
set_option maxHeartbeats 64000000
namespace Go.Proofs.YtlcljanibjdejaaGreat
def Jac (l:List UInt8):List UInt8 × Nat × Bool:=
 match QK l with
 | some (n,m)=>if Q3 n then (Lib.encodeRune n,1+m,true) else ([239,191,189],1+m,false)
 | none=>([],0,false)
theorem Ja0 (s:ByteArray) (k:Nat) (hk:k<s.size) (hc:Jr s k=38) (p:List UInt8):Ju s k (38::p)=p.isPrefixOf (s.data.toList.drop (k+1)):=by
 rw [Ju,Qz s k hk,hc];simp
theorem JbC {l p:List UInt8} {n:Nat} (h:(p++[59]).isPrefixOf l=true) (hp: ∀ c∈p,QT c=true) (ht:QU p=some n) (hs:Q3 n=true):Jac l=(Lib.encodeRune n,p.length+2,true):=by
 obtain ⟨r,rfl⟩:=List.isPrefixOf_iff_prefix.1 h;unfold Jac;rw [List.append_assoc,List.singleton_append,Jgs hp ht];simp [hs];omega
theorem Jjb {l:List UInt8} (h:QK l=none):Jac l=([],0,false):=by
 unfold Jac;rw [h]
def JfO (s:ByteArray) (k fr base most:Nat):Prop:=
 ∃ pre,s.data.toList.drop (k+1)=pre++s.data.toList.drop fr∧(∀ c∈pre,QT c=true)∧fr=k+1+pre.length∧base≤16∧
  QU (pre++nm (s.data.toList.drop fr))=YF base most (nm (s.data.toList.drop fr))∧ ∀ j,QU (pre++(s.data.toList.drop fr).take j)=YF base most ((s.data.toList.drop fr).take j)
theorem JtP (s:ByteArray) (k:Nat) (h:List.isPrefixOf [35,120] (s.data.toList.drop (k+1))=true):JfO s k (k+3) 16 6:=by
 obtain ⟨r,hr⟩:=List.isPrefixOf_iff_prefix.1 h;have e:s.data.toList.drop (k+3)=r:=by
  have:s.data.toList.drop (k+3)=(s.data.toList.drop (k+1)).drop 2:=by rw [List.drop_drop]
  rw [this, ←hr];simp
 refine ⟨[35,120],by rw [e,hr],by decide,rfl,by omega,JqL _,fun j=>JqL _⟩
theorem Jpn (l:List UInt8) (h:l.head?≠some 120) (j:Nat):(l.take j).head?≠some 120:=by
 cases l with
 | nil=>simp
 | cons c l=>cases j<;>simp_all
theorem JsF (l:List UInt8) (h:l.head?≠some 120):(nm l).head?≠some 120:=by
 cases l with
 | nil=>simp [nm]
 | cons c l=>
   unfold nm;rw [List.takeWhile_cons];split
   ·simpa using h
   ·simp
theorem JtO (s:ByteArray) (k:Nat) (h:List.isPrefixOf [35] (s.data.toList.drop (k+1))=true) (h2:List.isPrefixOf [35,120] (s.data.toList.drop (k+1))=false):JfO s k (k+2) 10 7:=by
 obtain ⟨r,hr⟩:=List.isPrefixOf_iff_prefix.1 h;have e:s.data.toList.drop (k+2)=r:=by
  have:s.data.toList.drop (k+2)=(s.data.toList.drop (k+1)).drop 1:=by rw [List.drop_drop]
  rw [this, ←hr];simp
 have hh:r.head?≠some 120:=by
  cases r with
  | nil=>simp
  | cons c r=>
    rw [←hr] at h2;intro hc;simp at hc;subst hc;simp at h2
 refine ⟨[35],by rw [e,hr],by decide,rfl,by omega,?_,fun j=>?_⟩
 ·rw [e];exact JqK _ (JsF r hh)
 ·rw [e];exact JqK _ (Jpn r hh j)
def JaA (s:ByteArray) (fr base j:Nat):Option Nat:=XK base 0 ((s.data.toList.drop fr).take j)
theorem Jgd (s:ByteArray) (fr base j m:Nat) (hk:fr+j<s.size) (h:JaA s fr base j=some m) (hd: ¬ base≤QZ s[fr+j]):JaA s fr base (j+1)=some (m * base+QZ s[fr+j]):=by
 have hl:j<(s.data.toList.drop fr).length:=by rw [List.length_drop];have:=Js s;omega
 unfold JaA at h ⊢;rw [List.take_succ_eq_append_getElem hl,Jfv,h,Option.bind_some];have e:(s.data.toList.drop fr)[j]=s[fr+j]:=by simp;rfl
 rw [e,if_neg hd]
theorem JiC {s:ByteArray} {fr base j m most:Nat} (hb:1≤base) (hj:j≤most) (h:JaA s fr base j=some m):m<base ^ most:=by
 have:=JfY base _ _ _ h;have h2:base ^ ((s.data.toList.drop fr).take j).length≤base ^ most:=Nat.pow_le_pow_right hb (by rw [List.length_take];omega);simp at this;simp at h2;omega
theorem JcN {s:ByteArray} {k fr base most j m:Nat} (hN:JfO s k fr base most) (hm:JaA s fr base j=some m) (hj:fr+j≤s.size)
  (hexit:s.size≤fr+j∨base≤QZ (Jr s (fr+j))∨most<j) (hbad:j=0∨most<j∨s.size≤fr+j∨Jr s (fr+j)≠59):Jac (s.data.toList.drop (k+1))=([],0,false):=by
 obtain ⟨pre,h1,h2,h3,h4,h5,h6⟩:=hN;have hl:=Js s;refine Jjb ?_;rw [h1];have e:s.data.toList.drop fr=(s.data.toList.drop fr).take j++(s.data.toList.drop fr).drop j:=(List.take_append_drop j _).symm;have ed:(s.data.toList.drop fr).drop j=s.data.toList.drop (fr+j):=List.drop_drop;have el:((s.data.toList.drop fr).take j).length=j:=by rw [List.length_take,List.length_drop];omega
 rw [e];refine JlQ (base:=base) (most:=most) (n:=m) h2 h4 hm (by rw [←e];exact h5) ?_ ?_
 ·rw [ed,el];by_cases hz:s.size≤fr+j
  ·exact .inl (List.drop_eq_nil_of_le (by omega))
  ·rcases hexit with h | h | h
   ·omega
   ·exact .inr (.inl ⟨_,_,Qz s (fr+j) (by omega),h⟩)
   ·exact .inr (.inr h)
 ·rw [ed,el];rcases hbad with h | h | h | h
  ·subst h;exact .inl (by simp)
  ·exact .inr (.inl h)
  ·exact .inr (.inr (.inl (List.drop_eq_nil_of_le (by omega))))
  ·by_cases hz:s.size≤fr+j
   ·exact .inr (.inr (.inl (List.drop_eq_nil_of_le (by omega))))
   ·exact .inr (.inr (.inr ⟨_,_,Qz s (fr+j) (by omega),h⟩))
theorem Jkw {s:ByteArray} {k fr base most j m:Nat} (hN:JfO s k fr base most) (hm:JaA s fr base j=some m) (hj:fr+j<s.size) (h0:1≤j) (hmost:j≤most) (hc:Jr s (fr+j)=59):
  QK (s.data.toList.drop (k+1))=some (m,fr+j - k):=by
 obtain ⟨pre,h1,h2,h3,h4,h5,h6⟩:=hN;have hl:=Js s;have el:((s.data.toList.drop fr).take j).length=j:=by rw [List.length_take,List.length_drop];omega
 have e:s.data.toList.drop fr=(s.data.toList.drop fr).take j++59::s.data.toList.drop (fr+j+1):=by
  conv=>lhs;rw [←List.take_append_drop j (s.data.toList.drop fr),List.drop_drop,Qz s (fr+j) hj,hc]
 rw [h1,e,Jqt (base:=base) (most:=most) (n:=m) h2 h4 hm (by omega) (by omega) (h6 j),el];simp;omega
theorem Jja {s:ByteArray} {k m c:Nat} (h:QK (s.data.toList.drop (k+1))=some (m,c)):Jac (s.data.toList.drop (k+1))=if Q3 m then (Lib.encodeRune m,1+c,true) else ([239,191,189],1+c,false):=by
 unfold Jac;rw [h]
end Go.Proofs.YtlcljanibjdejaaGreat
namespace Go.Proofs.YtlcljanibjdejaaGreat
open Go.RowKit
theorem Jd1 (W:World) (g:Nat) (hg:g=W.heap.size) (xs:List Int):
  (convert 107 9 (.slice (some ⟨g,0,none⟩) xs.length xs.length)).run Tryz.prog (W.alloc (.cells (xs.map (Value.int .u8)).toArray 5))=.ok (.string (strOfNums xs)) (W.alloc (.cells (xs.map (Value.int .u8)).toArray 5)):=by
 subst hg;refine run_convert_bytes_arg _ 107 5 Tryz.underlying107 Tryz.underlying5 W.heap.size 0 xs.length xs.length xs rfl ?_ 9 Tryz.underlying9;intro i hi;unfold World.cell?;rw [show (⟨W.heap.size,0+i,none⟩:Addr).block=W.heap.size from rfl,heap_alloc_new W (.cells (xs.map (Value.int .u8)).toArray 5)];simp [hi]
theorem JsR (n:Nat) (h0:1≤n) (h1:n<128) (w:World):
  Calls Tryz.prog 264 #[.int .i64 n] w fun e w'=>e=.returned (.string (strOfNums [(n:Int)]))∧Jb [] w w':=by
 have hc:=fun x0=>Jd1 w (w.heap.size) rfl [x0];simp only [List.map_cons,List.map_nil,List.length_cons,List.length_nil,Nat.zero_add] at hc;have b1:decide ((128:Int)≤(n:Int))=false:=by simp;omega
 have b2:decide ((2048:Int)≤(n:Int))=false:=by simp;omega
 have b3:decide ((65536:Int)≤(n:Int))=false:=by simp;omega
 go_enter Tryz.func264,Tryz.ntmps264
 go_wp2
 go_ret;exact ⟨rfl,((Jb.refl [] w).alloc _)⟩
theorem JsS (n:Nat) (h0:128≤n) (h1:n<2048) (w:World):
  Calls Tryz.prog 264 #[.int .i64 n] w fun e w'=>e=.returned (.string (strOfNums [192+(n:Int) / 64,128+(n:Int) % 64]))∧Jb [] w w':=by
 have hc:=fun (o1:Obj) x0 x1=>Jd1 (w.alloc o1) (w.heap.size+1) (by simp) [x0,x1];simp only [List.map_cons,List.map_nil,List.length_cons,List.length_nil,Nat.zero_add,Nat.reduceAdd] at hc;have b1:decide ((128:Int)≤(n:Int))=true:=by simp;omega
 have b2:decide ((2048:Int)≤(n:Int))=false:=by simp;omega
 have b3:decide ((65536:Int)≤(n:Int))=false:=by simp;omega
 go_enter Tryz.func264,Tryz.ntmps264
 go_wp2
 go_ret;exact ⟨rfl,(((Jb.refl [] w).alloc _).alloc _)⟩
theorem Jqp (n:Nat) (h0:2048≤n) (h1:n<65536) (w:World):
  Calls Tryz.prog 264 #[.int .i64 n] w fun e w'=>e=.returned (.string (strOfNums [224+(n:Int) / 4096,128+(n:Int) / 64 % 64,128+(n:Int) % 64]))∧Jb [] w w':=by
 have hc:=fun (o1:Obj) (o2:Obj) x0 x1 x2=>Jd1 ((w.alloc o1).alloc o2) (w.heap.size+2) (by simp) [x0,x1,x2];simp only [List.map_cons,List.map_nil,List.length_cons,List.length_nil,Nat.zero_add,Nat.reduceAdd] at hc;have b1:decide ((128:Int)≤(n:Int))=true:=by simp;omega
 have b2:decide ((2048:Int)≤(n:Int))=true:=by simp;omega
 have b3:decide ((65536:Int)≤(n:Int))=false:=by simp;omega
 go_enter Tryz.func264,Tryz.ntmps264
 go_wp2
 go_ret;exact ⟨rfl,((((Jb.refl [] w).alloc _).alloc _).alloc _)⟩
theorem JrT (n:Nat) (h0:65536≤n) (h1:n<1114112) (w:World):
  Calls Tryz.prog 264 #[.int .i64 n] w fun e w'=>e=.returned (.string (strOfNums [240+(n:Int) / 262144,128+(n:Int) / 4096 % 64,128+(n:Int) / 64 % 64,128+(n:Int) % 64]))∧Jb [] w w':=by
 have hc:=fun (o1:Obj) (o2:Obj) (o3:Obj) x0 x1 x2 x3=>Jd1 (((w.alloc o1).alloc o2).alloc o3) (w.heap.size+3) (by simp) [x0,x1,x2,x3];simp only [List.map_cons,List.map_nil,List.length_cons,List.length_nil,Nat.zero_add,Nat.reduceAdd] at hc;have b1:decide ((128:Int)≤(n:Int))=true:=by simp;omega
 have b2:decide ((2048:Int)≤(n:Int))=true:=by simp;omega
 have b3:decide ((65536:Int)≤(n:Int))=true:=by simp;omega
 go_enter Tryz.func264,Tryz.ntmps264
 go_wp2
 go_ret;exact ⟨rfl,(((((Jb.refl [] w).alloc _).alloc _).alloc _).alloc _)⟩
theorem JrU (r:Int):strOfNums (Lib.encodeRuneZ r)=⟨(Lib.encodeRune r).toArray⟩:=rfl
theorem Jml (n:Nat) (h:Q3 n=true) (w:World):
  Calls Tryz.prog 264 #[.int .i64 n] w fun e w'=>e=.returned (.string ⟨(Lib.encodeRune n).toArray⟩)∧Jb [] w w':=by
 have hs:0<n∧n≤1114111∧¬ (55296≤n∧n≤57343):=by
  simp only [Q3,Bool.and_eq_true,decide_eq_true_eq,Bool.not_eq_true',Bool.and_eq_false_iff,decide_eq_false_iff_not] at h;omega
 rw [←JrU];rcases (show n<128∨(128≤n∧n<2048)∨(2048≤n∧n<65536)∨65536≤n from by omega) with h1 | h1 | h1 | h1
 ·rw [Lib.encodeRuneZ_one (by omega) (by omega)];exact JsR n (by omega) h1 w
 ·rw [Lib.encodeRuneZ_two (by omega) (by omega)];exact JsS n h1.1 h1.2 w
 ·rw [Lib.encodeRuneZ_three (by omega)];exact Jqp n h1.1 h1.2 w
 ·rw [Lib.encodeRuneZ_four (by omega) (by omega)];exact JrT n h1 (by omega) w
theorem JfR (a b:ByteArray):(a++b).data.toList=a.data.toList++b.data.toList:=by simp
theorem Jcc (l:List UInt8) (t:ByteArray) (r:List UInt8) (h:r=l++t.data.toList):Value.string ((⟨l.toArray⟩:ByteArray)++t)=Value.string ⟨r.toArray⟩:=by
 have:(⟨l.toArray⟩:ByteArray)++t=⟨r.toArray⟩:=WideShapes.bytes_inj (by rw [JfR,h]);rw [this]
theorem Jc6 (s:ByteArray) (k:Nat) (hk:k<s.size):(s.extract k (k+1)).data.toList=[s[k]]:=by
 have hl:k<s.data.toList.length:=by simpa using hk
 rw [Lib.extract_data,Nat.add_sub_cancel_left,List.drop_eq_getElem_cons hl];simp;rfl
theorem Ji5 (s:ByteArray) (w:World) (hs:s.size≤2000000):
  Calls Tryz.prog 63 #[.string s] w fun e w'=>e=.returned (.string ⟨(J0 s.data.toList).toArray⟩)∧w'=w:=by
 rw [←Ji6];go_enter Tryz.func63,Tryz.ntmps63;go_wp2_with fail
 go_loop [3,4] (fun o i=> ∃ k:Nat,k≤s.size∧i=.int .i64 k∧o=.string ⟨(ZV s k).toArray⟩) (fun _ i=>s.size - (intOf i).toNat)
 case atStart=>exact ⟨0,Nat.zero_le _,rfl,by rw [JhP]⟩
 case round=>
  obtain ⟨k,hk,rfl,rfl⟩:=hrel;have hlen:=Ji7 s k;have hlen2:(⟨(ZV s k).toArray⟩:ByteArray).size=(ZV s k).length:=by simp [ByteArray.size]
  by_cases hlt:k<s.size
  ·have HS:=Ja (JhO s k hlt);by_cases h1:s[k]=38
   ·have h1':(s[k].toNat:Int)=38:=by rw [h1];rfl
    have HB:=Ja (show Yy s[k]=Yy 38 from by rw [h1]);clear h1
    go_wp2
    go_round
    case rel=>exact ⟨k+1,by omega,by go_num,Jcc _ _ _ (by rw [HS.out,HB.out];rfl)⟩
    case measure=>simp [intOf];omega
   by_cases h2:s[k]=60
   ·have h2':(s[k].toNat:Int)=60:=by rw [h2];rfl
    have HB:=Ja (show Yy s[k]=Yy 60 from by rw [h2]);clear h1 h2
    go_wp2
    go_round
    case rel=>exact ⟨k+1,by omega,by go_num,Jcc _ _ _ (by rw [HS.out,HB.out];rfl)⟩
    case measure=>simp [intOf];omega
   by_cases h3:s[k]=62
   ·have h3':(s[k].toNat:Int)=62:=by rw [h3];rfl
    have HB:=Ja (show Yy s[k]=Yy 62 from by rw [h3]);clear h1 h2 h3
    go_wp2
    go_round
    case rel=>exact ⟨k+1,by omega,by go_num,Jcc _ _ _ (by rw [HS.out,HB.out];rfl)⟩
    case measure=>simp [intOf];omega
   by_cases h4:s[k]=34
   ·have h4':(s[k].toNat:Int)=34:=by rw [h4];rfl
    have HB:=Ja (show Yy s[k]=Yy 34 from by rw [h4]);clear h1 h2 h3 h4
    go_wp2
    go_round
    case rel=>exact ⟨k+1,by omega,by go_num,Jcc _ _ _ (by rw [HS.out,HB.out];rfl)⟩
    case measure=>simp [intOf];omega
   have e1:((s[k].toNat:Int)==38)=false:=X0 (d:=38) rfl h1;have e2:((s[k].toNat:Int)==60)=false:=X0 (d:=60) rfl h2;have e3:((s[k].toNat:Int)==62)=false:=X0 (d:=62) rfl h3;have e4:((s[k].toNat:Int)==34)=false:=X0 (d:=34) rfl h4;have HB:=Ja (show Yy s[k]=[s[k]] from by simp [Yy,h1,h2,h3,h4]);clear h1 h2 h3 h4
   go_wp2
   go_round
   case rel=>exact ⟨k+1,by omega,by go_num,Jcc _ _ _ (by rw [HS.out,HB.out,Jc6 s k hlt])⟩
   case measure=>simp [intOf];omega
  ·have he:k=s.size:=by omega
   subst he
   go_wp2
   go_ret;exact ⟨rfl,rfl⟩
def JbE (a:List UInt8 × Nat × Bool):Ending:=.returned (.tuple #[.string ⟨a.1.toArray⟩,.int .i64 a.2.1,.bool a.2.2])
theorem JsU (s:ByteArray) (k:Nat) (hs:s.size≤3000) (hk:k<s.size) (b1:Ju s k [38,97,109,112,59]=true) (w:World):
  Calls Tryz.prog 189 #[.string s,.int .i64 k] w fun e w'=>e=JbE ([38],5,true)∧Jb [] w w':=by
 go_enter Tryz.func189,Tryz.ntmps189;go_wp2_with (go_at_call 108;refine (QQ s k _ hs (by omega) (Nat.le_of_ble_eq_true rfl) _).mono ?_;rintro e w' ⟨rfl,rfl⟩)
 go_ret3
 exact ⟨rfl,Jb.refl _ _⟩
theorem JsV (s:ByteArray) (k:Nat) (hs:s.size≤3000) (hk:k<s.size) (b1:Ju s k [38,97,109,112,59]=false) (b2:Ju s k [38,108,116,59]=true) (w:World):
  Calls Tryz.prog 189 #[.string s,.int .i64 k] w fun e w'=>e=JbE ([60],4,true)∧Jb [] w w':=by
 go_enter Tryz.func189,Tryz.ntmps189;go_wp2_with (go_at_call 108;refine (QQ s k _ hs (by omega) (Nat.le_of_ble_eq_true rfl) _).mono ?_;rintro e w' ⟨rfl,rfl⟩)
 go_ret3
 exact ⟨rfl,Jb.refl _ _⟩
theorem JsW (s:ByteArray) (k:Nat) (hs:s.size≤3000) (hk:k<s.size) (b1:Ju s k [38,97,109,112,59]=false) (b2:Ju s k [38,108,116,59]=false) (b3:Ju s k [38,103,116,59]=true) (w:World):
  Calls Tryz.prog 189 #[.string s,.int .i64 k] w fun e w'=>e=JbE ([62],4,true)∧Jb [] w w':=by
 go_enter Tryz.func189,Tryz.ntmps189;go_wp2_with (go_at_call 108;refine (QQ s k _ hs (by omega) (Nat.le_of_ble_eq_true rfl) _).mono ?_;rintro e w' ⟨rfl,rfl⟩)
 go_ret3
 exact ⟨rfl,Jb.refl _ _⟩
theorem JsX (s:ByteArray) (k:Nat) (hs:s.size≤3000) (hk:k<s.size) (b1:Ju s k [38,97,109,112,59]=false) (b2:Ju s k [38,108,116,59]=false) (b3:Ju s k [38,103,116,59]=false) (b4:Ju s k [38,113,117,111,116,59]=true) (w:World):
  Calls Tryz.prog 189 #[.string s,.int .i64 k] w fun e w'=>e=JbE ([34],6,true)∧Jb [] w w':=by
 go_enter Tryz.func189,Tryz.ntmps189;go_wp2_with (go_at_call 108;refine (QQ s k _ hs (by omega) (Nat.le_of_ble_eq_true rfl) _).mono ?_;rintro e w' ⟨rfl,rfl⟩)
 go_ret3
 exact ⟨rfl,Jb.refl _ _⟩
theorem JsY (s:ByteArray) (k:Nat) (hs:s.size≤3000) (hk:k<s.size) (b1:Ju s k [38,97,109,112,59]=false) (b2:Ju s k [38,108,116,59]=false) (b3:Ju s k [38,103,116,59]=false) (b4:Ju s k [38,113,117,111,116,59]=false) (b5:Ju s k [38,97,112,111,115,59]=true) (w:World):
  Calls Tryz.prog 189 #[.string s,.int .i64 k] w fun e w'=>e=JbE ([39],6,true)∧Jb [] w w':=by
 go_enter Tryz.func189,Tryz.ntmps189;go_wp2_with (go_at_call 108;refine (QQ s k _ hs (by omega) (Nat.le_of_ble_eq_true rfl) _).mono ?_;rintro e w' ⟨rfl,rfl⟩)
 go_ret3
 exact ⟨rfl,Jb.refl _ _⟩
theorem JsZ (s:ByteArray) (k:Nat) (hs:s.size≤3000) (hk:k<s.size) (b1:Ju s k [38,97,109,112,59]=false) (b2:Ju s k [38,108,116,59]=false) (b3:Ju s k [38,103,116,59]=false) (b4:Ju s k [38,113,117,111,116,59]=false) (b5:Ju s k [38,97,112,111,115,59]=false) (b6:Ju s k [38,35]=false) (w:World):
  Calls Tryz.prog 189 #[.string s,.int .i64 k] w fun e w'=>e=JbE ([],0,false)∧Jb [] w w':=by
 go_enter Tryz.func189,Tryz.ntmps189;go_wp2_with (go_at_call 108;refine (QQ s k _ hs (by omega) (Nat.le_of_ble_eq_true rfl) _).mono ?_;rintro e w' ⟨rfl,rfl⟩)
 go_ret3
 exact ⟨rfl,Jb.refl _ _⟩
theorem Ji9 (c:UInt8) (base:Nat) (hb:base=10∨base=16) (h:base≤QZ c) (w:World):
  Calls Tryz.prog 263 #[.int .u8 c.toNat,.int .i64 base] w fun e w'=>e=.returned (.int .i64 (-1))∧w'=w:=
 (JhQ c base hb w).mono fun _ _ ⟨he,hw⟩=>⟨he.trans (by rw [if_pos h]),hw⟩
theorem JhR (c:UInt8) (base:Nat) (hb:base=10∨base=16) (h: ¬ base≤QZ c) (w:World):
  Calls Tryz.prog 263 #[.int .u8 c.toNat,.int .i64 base] w fun e w'=>e=.returned (.int .i64 (QZ c))∧w'=w:=
 (JhQ c base hb w).mono fun _ _ ⟨he,hw⟩=>⟨he.trans (by rw [if_neg h]),hw⟩
theorem Zm {a:ByteArray} {x y:Int} {b:Bool} (h:x=y):Ending.returned (.tuple #[.string a,.int .i64 x,.bool b])=.returned (.tuple #[.string a,.int .i64 y,.bool b]):=by rw [h]
theorem Jal (n a b:Int) (r:Bool) (h:(decide (a≤n)&&decide (n≤b))=r) (w:World):
 Calls Tryz.prog 128 #[.int .i64 n,.int .i64 a,.int .i64 b] w fun e w'=>e=.returned (.bool r)∧w'=w:=h ▸ Xu n a b w
theorem Jr1 (s:ByteArray) (k:Nat) (hs:s.size≤3000) (b1:Ju s k [38,97,109,112,59]=false) (b2:Ju s k [38,108,116,59]=false) (b3:Ju s k [38,103,116,59]=false) (b4:Ju s k [38,113,117,111,116,59]=false) (b5:Ju s k [38,97,112,111,115,59]=false) (b6:Ju s k [38,35]=true) (b7:Ju s k [38,35,120]=true) (hz:k+3≤s.size) (hN:Hid (JfO s k (k+3) 16 6)) (R:List UInt8 × Nat × Bool) (hR:Hid (Jac (s.data.toList.drop (k+1))=R)) (w:World):
  Calls Tryz.prog 189 #[.string s,.int .i64 k] w fun e w'=>e=JbE R∧Jb [] w w':=by
 go_enter Tryz.func189,Tryz.ntmps189;go_wp2_with (go_at_call 108;refine (QQ s k _ hs (by omega) (Nat.le_of_ble_eq_true rfl) _).mono ?_;rintro e w' ⟨rfl,rfl⟩);clear b1 b2 b3 b4 b5 b6 b7
 go_loop [10,11] (fun n t=> ∃ j m:Nat,j≤6+1∧k+3+j≤s.size∧t=.int .i64 ((k+3+j:Nat):Int)∧n=.int .i64 (m:Nat)∧Hid (JaA s (k+3) 16 j=some m)) (fun _ t=>s.size - (intOf t).toNat)
 case atStart=>exact ⟨0,0,by omega,by omega,by go_num,rfl,by simp [Hid,JaA,XK]⟩
 case round=>
  obtain ⟨j,m,hj,hjs,rfl,rfl,hm⟩:=hrel;have hlt:m<268435456:=JiC (by omega) hj hm.out;by_cases hin:k+3+j<s.size
  ·by_cases hd:16≤QZ s[k+3+j]
   ·have hdig:=Ja (fun w=>Ji9 s[k+3+j] 16 (by simp) hd w);have hdb:16≤QZ (Jr s (k+3+j)):=by rw [Q0 s _ hin];exact hd
    by_cases hgood:1≤j∧j≤6∧Jr s (k+3+j)=59
    ·obtain ⟨g1,g2,g3⟩:=hgood;have hc:((s[k+3+j].toNat:Int) != 59)=false:=by rw [←Q0 s _ hin,g3];rfl
     have hc2:((s[k+3+j].toNat:Int)==59)=true:=by rw [←Q0 s _ hin,g3];rfl
     have t1:(((k:Int)+3+(j:Int))==(k:Int)+3)=false:=by simp;omega
     have t2:(((k:Int)+3+(j:Int))==(s.size:Int))=false:=by simp;omega
     have hg:=Jkw hN.out hm.out hin g1 g2 g3;have e1:=hR.out.symm.trans (Jja hg);clear hg hd hdb g3 hR hm hN;cases hst:Q3 m
     ·rw [hst] at e1;have HR:Hid (R=([239,191,189],1+(k+3+j - k),false)):=e1;clear e1;rcases (show m<1∨(1≤m∧55296≤m∧m≤57343)∨1114111<m from by
       simp only [Q3,Bool.and_eq_false_iff,decide_eq_false_iff_not,Bool.not_eq_false',Bool.and_eq_true,decide_eq_true_eq] at hst;omega) with q | q | q
      ·clear hst;go_wp2_with (go_at_call 263;refine (hdig.out _).mono ?_;rintro e w' ⟨rfl,rfl⟩)
       go_ret3
       rw [HR.out];exact ⟨Zm (by dsimp only;omega),Jb.refl _ _⟩
      ·clear hst;have hbt:=Ja (fun w=>Jal (m:Int) 55296 57343 true (by simp;omega) w);go_wp2_with (first | (go_at_call 263;refine (hdig.out _).mono ?_;rintro e w' ⟨rfl,rfl⟩) | (go_at_call 128;refine (hbt.out _).mono ?_;rintro e w' ⟨rfl,rfl⟩))
       go_ret3
       rw [HR.out];exact ⟨Zm (by dsimp only;omega),Jb.refl _ _⟩
      ·clear hst;have hbt:=Ja (fun w=>Jal (m:Int) 55296 57343 false (by simp;omega) w);have hbig:decide ((1114111:Int)<(m:Int))=true:=by simp;omega
       go_wp2_with (first | (go_at_call 263;refine (hdig.out _).mono ?_;rintro e w' ⟨rfl,rfl⟩) | (go_at_call 128;refine (hbt.out _).mono ?_;rintro e w' ⟨rfl,rfl⟩))
       go_ret3
       rw [HR.out];exact ⟨Zm (by dsimp only;omega),Jb.refl _ _⟩
     ·rw [hst] at e1;have HR:Hid (R=(Lib.encodeRune m,1+(k+3+j - k),true)):=e1;clear e1;have q:1≤m∧m≤1114111∧¬ (55296≤m∧m≤57343):=by
       simp only [Q3,Bool.and_eq_true,decide_eq_true_eq,Bool.not_eq_true',Bool.and_eq_false_iff,decide_eq_false_iff_not] at hst;omega
      have hrow:=Ja (fun w=>Jml m hst w);clear hst;have hbt:=Ja (fun w=>Jal (m:Int) 55296 57343 false (by simp;omega) w);have hbig:decide ((1114111:Int)<(m:Int))=false:=by simp;omega
      have hm0:((m:Int)==0)=false:=by simp;omega
      clear q;go_wp2_with (first | (go_at_call 263;refine (hdig.out _).mono ?_;rintro e w' ⟨rfl,rfl⟩) | (go_at_call 128;refine (hbt.out _).mono ?_;rintro e w' ⟨rfl,rfl⟩));refine (hrow.out _).mono ?_;rintro e w1 ⟨rfl,hk1⟩;go_wp2_with fail
      go_ret3
      rw [HR.out];exact ⟨Zm (by dsimp only;omega),hk1⟩
    ·have hq:j<1∨6<j∨1≤j∧j≤6∧Jr s (k+3+j)≠59:=by
      by_cases q1:j<1
      ·exact .inl q1
      ·by_cases q2:6<j
       ·exact .inr (.inl q2)
       ·exact .inr (.inr ⟨by omega,by omega,fun q3=>hgood ⟨by omega,by omega,q3⟩⟩)
     have HR:=Ja (hR.out.symm.trans (JcN hN.out hm.out hjs (.inr (.inl hdb)) (by
      rcases hq with q | q | q
      ·exact .inl (by omega)
      ·exact .inr (.inl q)
      ·exact .inr (.inr (.inr q.2.2)))))
     clear hd hdb hR hm hN hgood;rcases hq with q | q | ⟨q1,q2,q3⟩
     ·go_wp2_with (go_at_call 263;refine (hdig.out _).mono ?_;rintro e w' ⟨rfl,rfl⟩)
      go_ret3
      rw [HR.out];exact ⟨rfl,Jb.refl _ _⟩
     ·go_wp2_with (go_at_call 263;refine (hdig.out _).mono ?_;rintro e w' ⟨rfl,rfl⟩)
      go_ret3
      rw [HR.out];exact ⟨rfl,Jb.refl _ _⟩
     ·have hc:((s[k+3+j].toNat:Int) != 59)=true:=by
       rw [←Q0 s _ hin];have:=YM (Jr s (k+3+j)) 59;rw [show ((59:UInt8).toNat:Int)=59 from rfl] at this;rw [this];simpa using q3
      clear q3;go_wp2_with (go_at_call 263;refine (hdig.out _).mono ?_;rintro e w' ⟨rfl,rfl⟩)
      go_ret3
      rw [HR.out];exact ⟨rfl,Jb.refl _ _⟩
   ·have hdig:=Ja (fun w=>JhR s[k+3+j] 16 (by simp) hd w);have hdl:=JfT s[k+3+j];by_cases hmost:j≤6
    ·have hnext:=Ja (Jgd s (k+3) 16 j m hin hm.out hd);clear hd hR hN hm;go_wp2_with (go_at_call 263;refine (hdig.out _).mono ?_;rintro e w' ⟨rfl,rfl⟩)
     go_round
     case rel=>exact ⟨j+1,m * 16+QZ s[k+3+j],by omega,by omega,by go_num,by go_num,hnext⟩
     case measure=>simp [intOf];omega
    ·have HR:=Ja (hR.out.symm.trans (JcN hN.out hm.out hjs (.inr (.inr (by omega))) (.inr (.inl (by omega)))));clear hd hR hm hN;go_wp2_with (go_at_call 263;refine (hdig.out _).mono ?_;rintro e w' ⟨rfl,rfl⟩)
     go_ret3
     rw [HR.out];exact ⟨rfl,Jb.refl _ _⟩
  ·have HR:=Ja (hR.out.symm.trans (JcN hN.out hm.out hjs (.inl (by omega)) (.inr (.inr (.inl (by omega))))));clear hR hm hN
   go_wp2
   all_goals
    go_ret3
    rw [HR.out];exact ⟨rfl,Jb.refl _ _⟩
theorem Jr0 (s:ByteArray) (k:Nat) (hs:s.size≤3000) (b1:Ju s k [38,97,109,112,59]=false) (b2:Ju s k [38,108,116,59]=false) (b3:Ju s k [38,103,116,59]=false) (b4:Ju s k [38,113,117,111,116,59]=false) (b5:Ju s k [38,97,112,111,115,59]=false) (b6:Ju s k [38,35]=true) (b7:Ju s k [38,35,120]=false) (hz:k+2≤s.size) (hN:Hid (JfO s k (k+2) 10 7)) (R:List UInt8 × Nat × Bool) (hR:Hid (Jac (s.data.toList.drop (k+1))=R)) (w:World):
  Calls Tryz.prog 189 #[.string s,.int .i64 k] w fun e w'=>e=JbE R∧Jb [] w w':=by
 go_enter Tryz.func189,Tryz.ntmps189;go_wp2_with (go_at_call 108;refine (QQ s k _ hs (by omega) (Nat.le_of_ble_eq_true rfl) _).mono ?_;rintro e w' ⟨rfl,rfl⟩);clear b1 b2 b3 b4 b5 b6 b7
 go_loop [10,11] (fun n t=> ∃ j m:Nat,j≤7+1∧k+2+j≤s.size∧t=.int .i64 ((k+2+j:Nat):Int)∧n=.int .i64 (m:Nat)∧Hid (JaA s (k+2) 10 j=some m)) (fun _ t=>s.size - (intOf t).toNat)
 case atStart=>exact ⟨0,0,by omega,by omega,by go_num,rfl,by simp [Hid,JaA,XK]⟩
 case round=>
  obtain ⟨j,m,hj,hjs,rfl,rfl,hm⟩:=hrel;have hlt:m<100000000:=JiC (by omega) hj hm.out;by_cases hin:k+2+j<s.size
  ·by_cases hd:10≤QZ s[k+2+j]
   ·have hdig:=Ja (fun w=>Ji9 s[k+2+j] 10 (by simp) hd w);have hdb:10≤QZ (Jr s (k+2+j)):=by rw [Q0 s _ hin];exact hd
    by_cases hgood:1≤j∧j≤7∧Jr s (k+2+j)=59
    ·obtain ⟨g1,g2,g3⟩:=hgood;have hc:((s[k+2+j].toNat:Int) != 59)=false:=by rw [←Q0 s _ hin,g3];rfl
     have hc2:((s[k+2+j].toNat:Int)==59)=true:=by rw [←Q0 s _ hin,g3];rfl
     have t1:(((k:Int)+2+(j:Int))==(k:Int)+2)=false:=by simp;omega
     have t2:(((k:Int)+2+(j:Int))==(s.size:Int))=false:=by simp;omega
     have hg:=Jkw hN.out hm.out hin g1 g2 g3;have e1:=hR.out.symm.trans (Jja hg);clear hg hd hdb g3 hR hm hN;cases hst:Q3 m
     ·rw [hst] at e1;have HR:Hid (R=([239,191,189],1+(k+2+j - k),false)):=e1;clear e1;rcases (show m<1∨(1≤m∧55296≤m∧m≤57343)∨1114111<m from by
       simp only [Q3,Bool.and_eq_false_iff,decide_eq_false_iff_not,Bool.not_eq_false',Bool.and_eq_true,decide_eq_true_eq] at hst;omega) with q | q | q
      ·clear hst;go_wp2_with (go_at_call 263;refine (hdig.out _).mono ?_;rintro e w' ⟨rfl,rfl⟩)
       go_ret3
       rw [HR.out];exact ⟨Zm (by dsimp only;omega),Jb.refl _ _⟩
      ·clear hst;have hbt:=Ja (fun w=>Jal (m:Int) 55296 57343 true (by simp;omega) w);go_wp2_with (first | (go_at_call 263;refine (hdig.out _).mono ?_;rintro e w' ⟨rfl,rfl⟩) | (go_at_call 128;refine (hbt.out _).mono ?_;rintro e w' ⟨rfl,rfl⟩))
       go_ret3
       rw [HR.out];exact ⟨Zm (by dsimp only;omega),Jb.refl _ _⟩
      ·clear hst;have hbt:=Ja (fun w=>Jal (m:Int) 55296 57343 false (by simp;omega) w);have hbig:decide ((1114111:Int)<(m:Int))=true:=by simp;omega
       go_wp2_with (first | (go_at_call 263;refine (hdig.out _).mono ?_;rintro e w' ⟨rfl,rfl⟩) | (go_at_call 128;refine (hbt.out _).mono ?_;rintro e w' ⟨rfl,rfl⟩))
       go_ret3
       rw [HR.out];exact ⟨Zm (by dsimp only;omega),Jb.refl _ _⟩
     ·rw [hst] at e1;have HR:Hid (R=(Lib.encodeRune m,1+(k+2+j - k),true)):=e1;clear e1;have q:1≤m∧m≤1114111∧¬ (55296≤m∧m≤57343):=by
       simp only [Q3,Bool.and_eq_true,decide_eq_true_eq,Bool.not_eq_true',Bool.and_eq_false_iff,decide_eq_false_iff_not] at hst;omega
      have hrow:=Ja (fun w=>Jml m hst w);clear hst;have hbt:=Ja (fun w=>Jal (m:Int) 55296 57343 false (by simp;omega) w);have hbig:decide ((1114111:Int)<(m:Int))=false:=by simp;omega
      have hm0:((m:Int)==0)=false:=by simp;omega
      clear q;go_wp2_with (first | (go_at_call 263;refine (hdig.out _).mono ?_;rintro e w' ⟨rfl,rfl⟩) | (go_at_call 128;refine (hbt.out _).mono ?_;rintro e w' ⟨rfl,rfl⟩));refine (hrow.out _).mono ?_;rintro e w1 ⟨rfl,hk1⟩;go_wp2_with fail
      go_ret3
      rw [HR.out];exact ⟨Zm (by dsimp only;omega),hk1⟩
    ·have hq:j<1∨7<j∨1≤j∧j≤7∧Jr s (k+2+j)≠59:=by
      by_cases q1:j<1
      ·exact .inl q1
      ·by_cases q2:7<j
       ·exact .inr (.inl q2)
       ·exact .inr (.inr ⟨by omega,by omega,fun q3=>hgood ⟨by omega,by omega,q3⟩⟩)
     have HR:=Ja (hR.out.symm.trans (JcN hN.out hm.out hjs (.inr (.inl hdb)) (by
      rcases hq with q | q | q
      ·exact .inl (by omega)
      ·exact .inr (.inl q)
      ·exact .inr (.inr (.inr q.2.2)))))
     clear hd hdb hR hm hN hgood;rcases hq with q | q | ⟨q1,q2,q3⟩
     ·go_wp2_with (go_at_call 263;refine (hdig.out _).mono ?_;rintro e w' ⟨rfl,rfl⟩)
      go_ret3
      rw [HR.out];exact ⟨rfl,Jb.refl _ _⟩
     ·go_wp2_with (go_at_call 263;refine (hdig.out _).mono ?_;rintro e w' ⟨rfl,rfl⟩)
      go_ret3
      rw [HR.out];exact ⟨rfl,Jb.refl _ _⟩
     ·have hc:((s[k+2+j].toNat:Int) != 59)=true:=by
       rw [←Q0 s _ hin];have:=YM (Jr s (k+2+j)) 59;rw [show ((59:UInt8).toNat:Int)=59 from rfl] at this;rw [this];simpa using q3
      clear q3;go_wp2_with (go_at_call 263;refine (hdig.out _).mono ?_;rintro e w' ⟨rfl,rfl⟩)
      go_ret3
      rw [HR.out];exact ⟨rfl,Jb.refl _ _⟩
   ·have hdig:=Ja (fun w=>JhR s[k+2+j] 10 (by simp) hd w);have hdl:=JfT s[k+2+j];by_cases hmost:j≤7
    ·have hnext:=Ja (Jgd s (k+2) 10 j m hin hm.out hd);clear hd hR hN hm;go_wp2_with (go_at_call 263;refine (hdig.out _).mono ?_;rintro e w' ⟨rfl,rfl⟩)
     go_round
     case rel=>exact ⟨j+1,m * 10+QZ s[k+2+j],by omega,by omega,by go_num,by go_num,hnext⟩
     case measure=>simp [intOf];omega
    ·have HR:=Ja (hR.out.symm.trans (JcN hN.out hm.out hjs (.inr (.inr (by omega))) (.inr (.inl (by omega)))));clear hd hR hm hN;go_wp2_with (go_at_call 263;refine (hdig.out _).mono ?_;rintro e w' ⟨rfl,rfl⟩)
     go_ret3
     rw [HR.out];exact ⟨rfl,Jb.refl _ _⟩
  ·have HR:=Ja (hR.out.symm.trans (JcN hN.out hm.out hjs (.inl (by omega)) (.inr (.inr (.inl (by omega))))));clear hR hm hN
   go_wp2
   all_goals
    go_ret3
    rw [HR.out];exact ⟨rfl,Jb.refl _ _⟩
theorem JnJ (s:ByteArray) (k:Nat) (hs:s.size≤3000) (hk:k<s.size) (hc:Jr s k=38) (w:World):
  Calls Tryz.prog 189 #[.string s,.int .i64 k] w fun e w'=>e=JbE (Jac (s.data.toList.drop (k+1)))∧Jb [] w w':=by
 have e1:=Ja0 s k hk hc [97,109,112,59];have e2:=Ja0 s k hk hc [108,116,59];have e3:=Ja0 s k hk hc [103,116,59];have e4:=Ja0 s k hk hc [113,117,111,116,59];have e5:=Ja0 s k hk hc [97,112,111,115,59];have e6:=Ja0 s k hk hc [35];have e7:=Ja0 s k hk hc [35,120];cases b1:Ju s k [38,97,109,112,59] with
 | true=>
   rw [e1] at b1;rw [JbC (p:=[97,109,112]) (n:=38) b1 (by decide) (by decide) (by decide)];rw [←e1] at b1;exact JsU s k hs hk b1 w
 | false=>
 cases b2:Ju s k [38,108,116,59] with
 | true=>
   rw [e2] at b2;rw [JbC (p:=[108,116]) (n:=60) b2 (by decide) (by decide) (by decide)];rw [←e2] at b2;exact JsV s k hs hk b1 b2 w
 | false=>
 cases b3:Ju s k [38,103,116,59] with
 | true=>
   rw [e3] at b3;rw [JbC (p:=[103,116]) (n:=62) b3 (by decide) (by decide) (by decide)];rw [←e3] at b3;exact JsW s k hs hk b1 b2 b3 w
 | false=>
 cases b4:Ju s k [38,113,117,111,116,59] with
 | true=>
   rw [e4] at b4;rw [JbC (p:=[113,117,111,116]) (n:=34) b4 (by decide) (by decide) (by decide)];rw [←e4] at b4;exact JsX s k hs hk b1 b2 b3 b4 w
 | false=>
 cases b5:Ju s k [38,97,112,111,115,59] with
 | true=>
   rw [e5] at b5;rw [JbC (p:=[97,112,111,115]) (n:=39) b5 (by decide) (by decide) (by decide)];rw [←e5] at b5;exact JsY s k hs hk b1 b2 b3 b4 b5 w
 | false=>
 cases b6:Ju s k [38,35] with
 | false=>
   rw [Jjb (JnK (e1 ▸ b1) (e2 ▸ b2) (e3 ▸ b3) (e4 ▸ b4) (e5 ▸ b5) (e6 ▸ b6))];exact JsZ s k hs hk b1 b2 b3 b4 b5 b6 w
 | true=>
 cases b7:Ju s k [38,35,120] with
 | true=>
   have hz:k+3≤s.size:=by
    have:=(List.isPrefixOf_iff_prefix.1 b7).length_le;rw [List.length_drop,Js] at this;simp at this;omega
   exact Jr1 s k hs b1 b2 b3 b4 b5 b6 b7 hz (JtP s k (e7 ▸ b7)) _ rfl w
 | false=>
   have hz:k+2≤s.size:=by
    have:=(List.isPrefixOf_iff_prefix.1 b6).length_le;rw [List.length_drop,Js] at this;simp at this;omega
   exact Jr0 s k hs b1 b2 b3 b4 b5 b6 b7 hz (JtO s k (e6 ▸ b6) (e7 ▸ b7)) _ rfl w
theorem JmP {s:ByteArray} {k:Nat} {o:List UInt8} {r:Bool} (h:JcR s k o r) (hk:k<s.size) (hc:Jr s k≠38):JcR s (k+1) (o++[s[k]]) r:=by
 have e:=JaO (Jr s k) (s.data.toList.drop (k+1)) hc;rw [←Qz s k hk] at e;refine ⟨?_,?_⟩
 ·rw [h.1,e,Q0 s k hk];simp
 ·have:=h.2;simp only [List.length_append,List.length_cons,List.length_nil];omega
theorem JlY {s:ByteArray} {k:Nat} (hk:k<s.size) (hc:Jr s k=38):
  JV (s.data.toList.drop k)=if (Jac (s.data.toList.drop (k+1))).2.1=0 then ([38],1,false) else Jac (s.data.toList.drop (k+1)):=by
 unfold JV Jac;rw [List.drop_drop];cases hs:QK (s.data.toList.drop (k+1)) with
 | none=>simp;rw [Qz s k hk,hc];simp
 | some x=>
   obtain ⟨n,m⟩:=x;have e:Lib.encodeRune 65533=[239,191,189]:=by decide
   cases hst:Q3 n
   ·simp [hst,e]
   ·simp [hst]
theorem Jqj (l:List UInt8) (h:(Jac l).2.1=0):(Jac l).2.2=false:=by
 unfold Jac at h ⊢;cases hs:QK l with
 | none=>rfl
 | some x=>
   obtain ⟨n,m⟩:=x;rw [hs] at h;cases hst:Q3 n<;>simp [hst] at h
theorem JbD (s:ByteArray) (w:World) (hs:s.size≤3000):
  Calls Tryz.prog 106 #[.string s] w fun e w'=>e=.returned (.tuple #[.string ⟨(JR s.data.toList).1.toArray⟩,.bool (JR s.data.toList).2])∧Jb [] w w':=by
 obtain ⟨T,hTk⟩: ∃ T,JR s.data.toList=T:=⟨_,rfl⟩;rw [hTk];have HT:=Ja hTk;clear hTk;go_enter Tryz.func106,Tryz.ntmps106;go_wp2_with fail
 go_loopw [4,5,6] (fun u v t wr=> ∃ (k:Nat) (o:List UInt8) (rt:Bool),k≤s.size∧u=.string ⟨o.toArray⟩∧v=.bool rt∧t=.int .i64 k∧Jb [] w wr∧Hid (JcR s k o rt))
  (fun _ _ t _=>s.size - (intOf t).toNat)
 case atStart=>exact ⟨0,[],true,Nat.zero_le _,rfl,rfl,rfl,Jb.refl _ _,Jhj s⟩
 case round=>
  obtain ⟨k,o,rt,hk,rfl,rfl,rfl,hkp,hD⟩:=hrel;have hol:(⟨o.toArray⟩:ByteArray).size=o.length:=by simp [ByteArray.size]
  have hon:o.length≤100000:=by have:=hD.out.2;omega
  by_cases hlt:k<s.size
  ·by_cases hc:Jr s k=38
   ·have HS:=JiE hD.out hlt hc;rw [JlY hlt hc] at HS;have hc':((s[k].toNat:Int) != 38)=false:=by rw [←Q0 s k hlt,hc];rfl
    have hsig:=Ja (fun w=>JnJ s k hs hlt hc w);have hzero:=Jqj (s.data.toList.drop (k+1));clear hD hc;generalize Jac (s.data.toList.drop (k+1))=R at *;obtain ⟨t,c,ok⟩:=R;have htl:(⟨t.toArray⟩:ByteArray).size=t.length:=by simp [ByteArray.size]
    by_cases h0:c=0
    ·subst h0;have hok:ok=false:=hzero rfl;subst hok;clear hzero;simp only [if_true] at HS;obtain ⟨HD0,hp1,hp2⟩:=HS;have HD:=Ja HD0;clear HD0 hp1;cases rt
     all_goals
      go_wp2_with fail;refine (hsig.out _).mono ?_;unfold JbE;rintro e w1 ⟨rfl,hk1⟩;go_wp2_with fail;go_roundw
      case rel=>exact ⟨k+1,o++[38],_,by omega,Jcc _ _ _ rfl,rfl,by go_num,hkp.trans hk1,HD⟩
      case measure=>simp [intOf];omega
    ·rw [if_neg h0] at HS;obtain ⟨HD0,hp1,hp2⟩:=HS;have HD:=Ja HD0;have h0':((c:Int)==0)=false:=by simp;omega
     have htn:t.length≤20000:=by
      have:=HD0.2;simp only [List.length_append] at this hp2;omega
     clear HD0 h0 hzero;simp only at hp1 hp2;cases rt
     all_goals
      go_wp2_with fail;refine (hsig.out _).mono ?_;unfold JbE;rintro e w1 ⟨rfl,hk1⟩;go_wp2_with fail;go_roundw
      case rel=>exact ⟨k+c,o++t,_,by omega,Jcc _ _ _ rfl,rfl,by go_num,hkp.trans hk1,HD⟩
      case measure=>simp [intOf];omega
   ·have hD':=Ja (JmP hD.out hlt hc);have hne:((s[k].toNat:Int) != 38)=true:=by
     rw [←Q0 s k hlt];have:=YM (Jr s k) 38;rw [show ((38:UInt8).toNat:Int)=38 from rfl] at this;rw [this];simpa using hc
    clear hD hc
    go_wp2
    go_roundw
    case rel=>exact ⟨k+1,o++[s[k]],rt,by omega,Jcc _ _ _ (by rw [Jc6 s k hlt]),rfl,by go_num,hkp,hD'⟩
    case measure=>simp [intOf];omega
  ·have HE:=Ja (HT.out.symm.trans (Jj5 hD.out (by omega)))
   go_wp2
   go_ret2
   rw [HE.out];exact ⟨rfl,hkp⟩
end Go.Proofs.YtlcljanibjdejaaGreat
namespace Go.Proofs.YtlcljanibjdejaaGreat
open Go.RowKit Go.Maps
theorem ZM {c d:UInt8} {k:Int} (hd:(d.toNat:Int)=k) (h:c≠d):((c.toNat:Int) != k)=true:=by
 have:=X0 hd h;simp only [bne,this];rfl
set_option maxRecDepth 4000 in
theorem JjW (s:ByteArray) (k0:Nat) (w:World) (hs:s.size≤3000) (hk0:k0≤s.size):
  Calls Tryz.prog 111 #[.string s,.int .i64 k0] w fun e w'=>
   ((∃ l k' v,JM s.data.toList (s.size+1) k0 []=some (l,k')∧e=.returned (.tuple #[v,.int .i64 (k'+1:Nat)])∧w'.ownsRow w.heap.size 52 2 v l.length (Jj l)∧l.length≤k'∧k'<s.size)∨
    (JM s.data.toList (s.size+1) k0 []=none∧e=.returned (.tuple #[.slice none 0 0,.int .i64 (-1)])))∧Jb [] w w':=by
 have hl:=Js s;obtain ⟨R,hRR⟩: ∃ R,JM s.data.toList (s.size+1) k0 []=R:=⟨_,rfl⟩;rw [hRR];have HR0:=Ja hRR;clear hRR;obtain ⟨i0,hi,hz0,hz1,hz2⟩:=info_parts Jps;go_enter Tryz.func111,Tryz.ntmps111;go_wp2_with fail
 go_loopg [1,6] (s.size+1) (fun g i v wr=> ∃ (k:Nat) (acc:List Jw),k≤s.size∧s.size+1≤g+k∧i=.int .i64 k∧wr.ownsRow w.heap.size 52 2 v acc.length (Jj acc)∧Jb [] w wr∧acc.length≤k∧Hid (JM s.data.toList g k acc=R))
 case atStart=>exact ⟨k0,[],hk0,by omega,rfl,⟨rfl,.inl ⟨rfl,rfl⟩⟩,Jb.refl _ _,Nat.zero_le _,HR0⟩
 case round=>
  obtain ⟨k,acc,hk,hg,rfl,ho,hkp,hal,hF⟩:=hrel;clear HR0;obtain ⟨f,rfl⟩: ∃ f,gk=f+1:=⟨gk - 1,by omega⟩;obtain ⟨oo,oc,rfl⟩:=JfD ho;generalize wr=W at *;have hk1a:=Q5 XB s k;have hk1b:=Jae XB hk;obtain ⟨k1,hk1⟩: ∃ k1,JG XB s k=k1:=⟨_,rfl⟩;rw [hk1] at hk1a hk1b;have HK1:=Ja hk1;clear hk1;go_upto_block 2 with fail
  go_cut [1] (fun s1 wx=>s1=.int .i64 k1∧W=wx)
  case first=>as_aux_lemma=>
   go_wp2_with fail;go_loopw [1] (fun i wq=> ∃ j:Nat,j≤s.size∧i=.int .i64 j∧W=wq∧Hid (JG XB s j=k1)) (fun i _=>s.size - (intOf i).toNat)
   case atStart=>exact ⟨k,hk,by go_num,rfl,HK1⟩
   case round=>
    obtain ⟨j,hj,rfl,rfl,hH⟩:=hrel;by_cases hlt:j<s.size
    ·have hw:=Ja (fun w=>YI s[j] w);have hb256:s[j].toNat<256:=UInt8.toNat_lt s[j];cases hwb:JA s[j]
     ·rw [hwb] at hw;by_cases h47:s[j]=47
      ·have e47:((s[j].toNat:Int)==47)=true:=by rw [h47];rfl
       have hH2:Hid (JG XB s (j+1)=k1):=by rw [←hH.out];exact (YG hlt (by rw [h47];rfl)).symm
       clear hH hwb h47;go_wp2_with (go_at_call 109;refine (hw.out _).mono ?_;rintro e w9 ⟨rfl,rfl⟩);go_roundw
       case rel=>exact ⟨j+1,by omega,by go_num,by first | rfl | trivial,hH2⟩
       case measure=>simp [intOf];omega
      ·have e47:((s[j].toNat:Int)==47)=false:=X0 (d:=47) rfl h47;have hjt:Hid (j=k1):=by rw [Hid, ←hH.out];exact (QP hlt (by simp [XB,hwb,h47])).symm
       clear hH hwb h47;go_wp2_with (go_at_call 109;refine (hw.out _).mono ?_;rintro e w9 ⟨rfl,rfl⟩);go_meet
       case rel=>exact ⟨by rw [hjt.out],by first | rfl | trivial⟩
     ·rw [hwb] at hw;have hH2:Hid (JG XB s (j+1)=k1):=by rw [←hH.out];exact (YG hlt (by simp [XB,hwb])).symm
      clear hH hwb;go_wp2_with (go_at_call 109;refine (hw.out _).mono ?_;rintro e w9 ⟨rfl,rfl⟩);go_roundw
      case rel=>exact ⟨j+1,by omega,by go_num,by first | rfl | trivial,hH2⟩
      case measure=>simp [intOf];omega
    ·have hjt:Hid (j=k1):=by rw [Hid, ←hH.out];exact (Zo (by omega)).symm
     clear hH;go_wp2_with fail;go_meet
     case rel=>exact ⟨by rw [hjt.out],by first | rfl | trivial⟩
  case rest=>
   obtain ⟨rfl,hwc⟩:=hcut;subst hwc;by_cases hend:s.size≤k1
   ·have hRn:=Jqn hF.out HK1.out hend;have HRn:=Ja hRn;have hbe:((k1:Int)==(s.size:Int))=true:=by simp;omega
    clear hF HK1 hRn;go_wp2_with fail
    go_ret2
    exact ⟨.inr ⟨HRn.out,rfl⟩,hkp⟩
   ·have hlt:k1<s.size:=by omega
    have hbe:((k1:Int)==(s.size:Int))=false:=by simp;omega
    by_cases hgt:s[k1]=62
    ·have e62:((s[k1].toNat:Int)==62)=true:=by rw [hgt];rfl
     have hRs:=JrS hF.out HK1.out hlt hgt;have HRs:=Ja hRs;clear hF HK1 hgt hRs;go_wp2_with fail
     go_ret2
     exact ⟨.inl ⟨acc,k1,_,HRs.out,rfl,ho,by omega,hlt⟩,hkp⟩
    ·have e62:((s[k1].toNat:Int)==62)=false:=X0 (d:=62) rfl hgt;have HR:=Ja (JnF hF.out HK1.out hlt hgt);have hkk:k≤k1:=hk1a;clear hF HK1 hgt;have hk2a:=Q5 Qj s (k1+1);have hk2b:=Jae Qj (s:=s) (k:=k1+1) (by omega);obtain ⟨k2,hk2⟩: ∃ k2,JG Qj s (k1+1)=k2:=⟨_,rfl⟩;rw [hk2] at hk2a hk2b;have HK2:=Ja hk2;clear hk2;go_upto_block 4 with fail
     go_cut [1] (fun s1 wx=>s1=.int .i64 k2∧W=wx)
     case first=>as_aux_lemma=>
      go_wp2_with fail;go_loopw [1] (fun i wq=> ∃ j:Nat,j≤s.size∧i=.int .i64 j∧W=wq∧Hid (JG Qj s j=k2)) (fun i _=>s.size - (intOf i).toNat)
      case atStart=>exact ⟨k1+1,by omega,by go_num,rfl,HK2⟩
      case round=>
       obtain ⟨j,hj,rfl,rfl,hH⟩:=hrel;by_cases hlt:j<s.size
       ·have hw:=Ja (fun w=>YI s[j] w);have hb256:s[j].toNat<256:=UInt8.toNat_lt s[j];cases hwb:JA s[j]
        ·rw [hwb] at hw;by_cases h47:s[j]=47
         ·have e47:((s[j].toNat:Int) != 47)=false:=by rw [h47];rfl
          have hjt:Hid (j=k2):=by rw [Hid, ←hH.out];exact (QP hlt (by rw [h47];rfl)).symm
          clear hH hwb h47;go_wp2_with (go_at_call 109;refine (hw.out _).mono ?_;rintro e w9 ⟨rfl,rfl⟩);go_meet
          case rel=>exact ⟨by rw [hjt.out],by first | rfl | trivial⟩
         ·have e47:((s[j].toNat:Int) != 47)=true:=ZM (d:=47) rfl h47;by_cases h62:s[j]=62
          ·have e62:((s[j].toNat:Int) != 62)=false:=by rw [h62];rfl
           have hjt:Hid (j=k2):=by rw [Hid, ←hH.out];exact (QP hlt (by rw [h62];rfl)).symm
           clear hH hwb h47 h62;go_wp2_with (go_at_call 109;refine (hw.out _).mono ?_;rintro e w9 ⟨rfl,rfl⟩);go_meet
           case rel=>exact ⟨by rw [hjt.out],by first | rfl | trivial⟩
          ·have e62:((s[j].toNat:Int) != 62)=true:=ZM (d:=62) rfl h62;by_cases h61:s[j]=61
           ·have e61:((s[j].toNat:Int) != 61)=false:=by rw [h61];rfl
            have hjt:Hid (j=k2):=by rw [Hid, ←hH.out];exact (QP hlt (by rw [h61];rfl)).symm
            clear hH hwb h47 h62 h61;go_wp2_with (go_at_call 109;refine (hw.out _).mono ?_;rintro e w9 ⟨rfl,rfl⟩);go_meet
            case rel=>exact ⟨by rw [hjt.out],by first | rfl | trivial⟩
           ·have e61:((s[j].toNat:Int) != 61)=true:=ZM (d:=61) rfl h61;have hH2:Hid (JG Qj s (j+1)=k2):=by rw [←hH.out];exact (YG hlt (by simp [Qj,hwb,h47,h62,h61])).symm
            clear hH hwb h47 h62 h61;go_wp2_with (go_at_call 109;refine (hw.out _).mono ?_;rintro e w9 ⟨rfl,rfl⟩);go_roundw
            case rel=>exact ⟨j+1,by omega,by go_num,by first | rfl | trivial,hH2⟩
            case measure=>simp [intOf];omega
        ·rw [hwb] at hw;have hjt:Hid (j=k2):=by rw [Hid, ←hH.out];exact (QP hlt (by simp [Qj,hwb])).symm
         clear hH hwb;go_wp2_with (go_at_call 109;refine (hw.out _).mono ?_;rintro e w9 ⟨rfl,rfl⟩);go_meet
         case rel=>exact ⟨by rw [hjt.out],by first | rfl | trivial⟩
       ·have hjt:Hid (j=k2):=by rw [Hid, ←hH.out];exact (Zo (by omega)).symm
        clear hH;go_wp2_with fail;go_meet
        case rel=>exact ⟨by rw [hjt.out],by first | rfl | trivial⟩
     case rest=>
      obtain ⟨rfl,hwc⟩:=hcut;subst hwc;have hfold:=Ja (fun w=>Jea (s.extract k1 k2) w (by simp;omega));obtain ⟨n,hn⟩: ∃ n,Jx (s.extract k1 k2).data.toList=n:=⟨_,rfl⟩;rw [hn] at hfold;have HN:=Ja hn;have hnl:n.length≤3000:=by rw [←hn];simp [Jx];omega
      clear hn;go_upto_block 6 with (go_at_call 110;refine (hfold.out _).mono ?_;rintro e w3 ⟨rfl,hk3⟩);have hA:Qg (w3.alloc (.cells #[.string ⟨n.toArray⟩,.string ⟨#[]⟩] 52)) w3.heap.size ⟨n.toArray⟩ ⟨#[]⟩:=heap_alloc_new w3 _;have hkA:Jb [] w3 (w3.alloc (.cells #[.string ⟨n.toArray⟩,.string ⟨#[]⟩] 52)):=(Jb.refl [] w3).alloc _;have hk3a:=Q5 JA s k2;have hk3b:=Jae JA hk2b;obtain ⟨k3,hk3e⟩: ∃ k3,JG JA s k2=k3:=⟨_,rfl⟩;rw [hk3e] at hk3a hk3b;have HK3:=Ja hk3e;clear hk3e hfold
      go_cut [1] (fun s1 wx=>s1=.int .i64 k3∧Qg wx w3.heap.size ⟨n.toArray⟩ ⟨#[]⟩∧Jb [] w3 wx)
      case first=>as_aux_lemma=>
       go_wp2_with fail;go_loopw [1] (fun i wq=> ∃ j:Nat,j≤s.size∧i=.int .i64 j∧Qg wq w3.heap.size ⟨n.toArray⟩ ⟨#[]⟩∧Jb [] w3 wq∧Hid (JG JA s j=k3)) (fun i _=>s.size - (intOf i).toNat)
       case atStart=>exact ⟨k2,hk2b,by go_num,hA,hkA,HK3⟩
       case round=>
        obtain ⟨j,hj,rfl,hA2,hkq,hH⟩:=hrel;by_cases hlt:j<s.size
        ·have hw:=Ja (fun w=>YI s[j] w);have hb256:s[j].toNat<256:=UInt8.toNat_lt s[j];cases hwb:JA s[j]
         ·rw [hwb] at hw;have hjt:Hid (j=k3):=by rw [Hid, ←hH.out];exact (QP hlt (hwb)).symm
          clear hH hwb;go_wp2_with (go_at_call 109;refine (hw.out _).mono ?_;rintro e w9 ⟨rfl,rfl⟩);go_meet
          case rel=>exact ⟨by rw [hjt.out],hA2,hkq⟩
         ·rw [hwb] at hw;have hH2:Hid (JG JA s (j+1)=k3):=by rw [←hH.out];exact (YG hlt (hwb)).symm
          clear hH hwb;go_wp2_with (go_at_call 109;refine (hw.out _).mono ?_;rintro e w9 ⟨rfl,rfl⟩);go_roundw
          case rel=>exact ⟨j+1,by omega,by go_num,hA2,hkq,hH2⟩
          case measure=>simp [intOf];omega
        ·have hjt:Hid (j=k3):=by rw [Hid, ←hH.out];exact (Zo (by omega)).symm
         clear hH;go_wp2_with fail;go_meet
         case rel=>exact ⟨by rw [hjt.out],hA2,hkq⟩
      case rest=>
       obtain ⟨rfl,hA4,hk4⟩:=hcut;generalize wc=W4 at *;have ho4:=(hk3.trans hk4).owns ho (fun _ _=>List.not_mem_nil);have hkp4:Jb [] w W4:=hkp.trans (hk3.trans hk4);have hgw:w.heap.size≤w3.heap.size:=(hkp.trans hk3).size;have hne:Hid (∀ b,(Value.slice oo acc.length oc).ownBlock=some b→b<w3.heap.size):=fun b hb=>Nat.lt_of_lt_of_le (ho.lt b hb).2 hk3.size;clear hA hkA ho hk4;generalize w3.heap.size=g at *;obtain ⟨B,hB⟩: ∃ B,decide (k3<s.size∧Jr s k3=61)=B:=⟨_,rfl⟩;have HB:=Ja hB;clear hB;go_upto_region 15 with fail
       go_cut [103] (fun s103 wx=>s103=.bool B∧W4=wx)
       case first=>as_aux_lemma=>
        by_cases h3:k3<s.size
        ·have hb256:s[k3].toNat<256:=UInt8.toNat_lt s[k3];by_cases h61:s[k3]=61
         ·have e61:((s[k3].toNat:Int)==61)=true:=by rw [h61];rfl
          have hBt:Hid (B=true):=by rw [Hid, ←HB.out];simp [h3,Zp s k3 h3,h61]
          clear h61;go_wp2_with fail;go_meet
          case rel=>exact ⟨by rw [hBt.out],rfl⟩
         ·have e61:((s[k3].toNat:Int)==61)=false:=X0 (d:=61) rfl h61;have hBt:Hid (B=false):=by rw [Hid, ←HB.out];simp [Zp s k3 h3,h61]
          clear h61;go_wp2_with fail;go_meet
          case rel=>exact ⟨by rw [hBt.out],rfl⟩
        ·have hBt:Hid (B=false):=by rw [Hid, ←HB.out];simp;omega
         go_wp2_with fail;go_meet
         case rel=>exact ⟨by rw [hBt.out],rfl⟩
       case rest=>
        obtain ⟨rfl,hwc⟩:=hcut;subst hwc;go_upto_if 103 with fail
        go_cut [1] (fun s1 wx=> ∃ (k':Nat) (V:List UInt8),s1=.int .i64 k'∧k3≤k'∧k'≤s.size∧Qg wx g ⟨n.toArray⟩ ⟨V.toArray⟩∧Jb [g] W4 wx∧Hid (JM s.data.toList f k' (Yg acc (n,V))=R))
        case first=>as_aux_lemma=>
         cases B
         ·have HX:=Ja (JtD hlt HK2.out HK3.out HR.out HN.out HB.out);clear HB HR;go_wp2_with fail;go_meet
          case rel=>exact ⟨k3,[],rfl,Nat.le_refl _,hk3b,hA4,Jb.refl _ _,HX⟩
         ·have hBo:=HB.out;simp only [decide_eq_true_eq] at hBo;have h3:k3<s.size:=hBo.1;have h61:s[k3]=61:=by rw [←Zp s k3 h3];exact hBo.2
          have H61:=Ja h61;clear hBo HB h61;have hk4a:=Q5 JA s (k3+1);have hk4b:=Jae JA (s:=s) (k:=k3+1) (by omega);obtain ⟨k4,hk4⟩: ∃ k4,JG JA s (k3+1)=k4:=⟨_,rfl⟩;rw [hk4] at hk4a hk4b;have HK4:=Ja hk4;clear hk4;go_upto_block 8 with fail
          go_cut [1] (fun s1 wx=>s1=.int .i64 k4∧W4=wx)
          case first=>as_aux_lemma=>
           go_wp2_with fail;go_loopw [1] (fun i wq=> ∃ j:Nat,j≤s.size∧i=.int .i64 j∧W4=wq∧Hid (JG JA s j=k4)) (fun i _=>s.size - (intOf i).toNat)
           case atStart=>exact ⟨k3+1,by omega,by go_num,rfl,HK4⟩
           case round=>
            obtain ⟨j,hj,rfl,rfl,hH⟩:=hrel;by_cases hlt:j<s.size
            ·have hw:=Ja (fun w=>YI s[j] w);have hb256:s[j].toNat<256:=UInt8.toNat_lt s[j];cases hwb:JA s[j]
             ·rw [hwb] at hw;have hjt:Hid (j=k4):=by rw [Hid, ←hH.out];exact (QP hlt (hwb)).symm
              clear hH hwb;go_wp2_with (go_at_call 109;refine (hw.out _).mono ?_;rintro e w9 ⟨rfl,rfl⟩);go_meet
              case rel=>exact ⟨by rw [hjt.out],by first | rfl | trivial⟩
             ·rw [hwb] at hw;have hH2:Hid (JG JA s (j+1)=k4):=by rw [←hH.out];exact (YG hlt (hwb)).symm
              clear hH hwb;go_wp2_with (go_at_call 109;refine (hw.out _).mono ?_;rintro e w9 ⟨rfl,rfl⟩);go_roundw
              case rel=>exact ⟨j+1,by omega,by go_num,by first | rfl | trivial,hH2⟩
              case measure=>simp [intOf];omega
            ·have hjt:Hid (j=k4):=by rw [Hid, ←hH.out];exact (Zo (by omega)).symm
             clear hH;go_wp2_with fail;go_meet
             case rel=>exact ⟨by rw [hjt.out],by first | rfl | trivial⟩
          case rest=>
           obtain ⟨rfl,hwc⟩:=hcut;subst hwc;by_cases h4:k4<s.size
           ·have hb256:s[k4].toNat<256:=UInt8.toNat_lt s[k4];by_cases q34:s[k4]=34
            ·as_aux_lemma=>
             have hq:s[k4]=34∨s[k4]=39:=.inl q34;have hvq:=Jjk h4 hq;have hnx:=Ja (fun w=>Zv s (s.extract k4 (k4+1)) (k4+1) w hs (by simp;omega) (by simp;omega) (by omega));rw [Jc6 s k4 h4] at hnx;obtain ⟨E,hE⟩: ∃ E,QF s.data.toList [s[k4]] (k4+1)=E:=⟨_,rfl⟩;rw [hE] at hnx hvq;have e34:((s[k4].toNat:Int)==34)=true:=by rw [q34];rfl
             by_cases hneg:E<0
             ·rw [if_pos hneg] at hvq;have HRn:=Ja (Jjl hlt HK2.out HK3.out HR.out h3 H61.out HK4.out hvq);have hnegb:decide (E<0)=true:=by simpa using hneg
              clear hvq hq hE q34;go_wp2_with fail;refine (hnx.out _).mono ?_;rintro e w9 ⟨rfl,rfl⟩;go_wp2_with fail
              go_ret2
              exact ⟨.inr ⟨HRn.out,rfl⟩,hkp4⟩
             ·rw [if_neg hneg] at hvq;obtain ⟨m,hm,hm1,hm2⟩:=Zu (l:=s.data.toList) (p:=[s[k4]]) (k:=k4+1) (by rw [hE];omega) (by simp);rw [hE] at hm;rw [Js] at hm2;have hm2':m+1≤s.size:=by simpa using hm2
              clear hm2 hE;subst hm;rw [Int.toNat_natCast] at hvq;have htk:=Ja (fun w=>JbD (s.extract (k4+1) m) w (by simp;omega));obtain ⟨T,hT⟩: ∃ T,JR (s.extract (k4+1) m).data.toList=T:=⟨_,rfl⟩;rw [hT] at htk;obtain ⟨V,VB⟩:=T;have HX:=Ja (Jix (k':=m+1) hlt HK2.out HK3.out HR.out HN.out h3 H61.out HK4.out hvq (show (JR (s.extract (k4+1) m).data.toList).1=V from by rw [hT]) (by omega));clear hvq hq hT q34;go_wp2_with fail;refine (hnx.out _).mono ?_;rintro e w9 ⟨rfl,h9⟩;obtain rfl:W4=w9:=h9.symm;go_wp2_with fail;refine (htk.out _).mono ?_;rintro e w5 ⟨rfl,hk5⟩;have hA5:=hA4.keeps hk5 List.not_mem_nil;have c1:=hA5.cell1;have f1:=hA5.free 1;have hA6:=hA5.set1 ⟨V.toArray⟩;have hk6:Jb [g] W4 (w5.setCell ⟨g,1,none⟩ (.string ⟨V.toArray⟩)):=(hk5.to (by simp)).trans ((Jb.refl [g] w5).setCell (.inl (by simp)) _);go_wp2_with fail;go_meet
              case rel=>exact ⟨m+1,V,by go_num,by omega,by omega,hA6,hk6,HX⟩
            ·by_cases q39:s[k4]=39
             ·as_aux_lemma=>
              have hq:s[k4]=34∨s[k4]=39:=.inr q39;have hvq:=Jjk h4 hq;have hnx:=Ja (fun w=>Zv s (s.extract k4 (k4+1)) (k4+1) w hs (by simp;omega) (by simp;omega) (by omega));rw [Jc6 s k4 h4] at hnx;obtain ⟨E,hE⟩: ∃ E,QF s.data.toList [s[k4]] (k4+1)=E:=⟨_,rfl⟩;rw [hE] at hnx hvq;have e34:((s[k4].toNat:Int)==34)=false:=X0 (d:=34) rfl q34;have e39:((s[k4].toNat:Int)==39)=true:=by rw [q39];rfl
              by_cases hneg:E<0
              ·rw [if_pos hneg] at hvq;have HRn:=Ja (Jjl hlt HK2.out HK3.out HR.out h3 H61.out HK4.out hvq);have hnegb:decide (E<0)=true:=by simpa using hneg
               clear hvq hq hE q34 q39;go_wp2_with fail;refine (hnx.out _).mono ?_;rintro e w9 ⟨rfl,rfl⟩;go_wp2_with fail
               go_ret2
               exact ⟨.inr ⟨HRn.out,rfl⟩,hkp4⟩
              ·rw [if_neg hneg] at hvq;obtain ⟨m,hm,hm1,hm2⟩:=Zu (l:=s.data.toList) (p:=[s[k4]]) (k:=k4+1) (by rw [hE];omega) (by simp);rw [hE] at hm;rw [Js] at hm2;have hm2':m+1≤s.size:=by simpa using hm2
               clear hm2 hE;subst hm;rw [Int.toNat_natCast] at hvq;have htk:=Ja (fun w=>JbD (s.extract (k4+1) m) w (by simp;omega));obtain ⟨T,hT⟩: ∃ T,JR (s.extract (k4+1) m).data.toList=T:=⟨_,rfl⟩;rw [hT] at htk;obtain ⟨V,VB⟩:=T;have HX:=Ja (Jix (k':=m+1) hlt HK2.out HK3.out HR.out HN.out h3 H61.out HK4.out hvq (show (JR (s.extract (k4+1) m).data.toList).1=V from by rw [hT]) (by omega));clear hvq hq hT q34 q39;go_wp2_with fail;refine (hnx.out _).mono ?_;rintro e w9 ⟨rfl,h9⟩;obtain rfl:W4=w9:=h9.symm;go_wp2_with fail;refine (htk.out _).mono ?_;rintro e w5 ⟨rfl,hk5⟩;have hA5:=hA4.keeps hk5 List.not_mem_nil;have c1:=hA5.cell1;have f1:=hA5.free 1;have hA6:=hA5.set1 ⟨V.toArray⟩;have hk6:Jb [g] W4 (w5.setCell ⟨g,1,none⟩ (.string ⟨V.toArray⟩)):=(hk5.to (by simp)).trans ((Jb.refl [g] w5).setCell (.inl (by simp)) _);go_wp2_with fail;go_meet
               case rel=>exact ⟨m+1,V,by go_num,by omega,by omega,hA6,hk6,HX⟩
             ·as_aux_lemma=>
              have hk5a:=Q5 Ys s k4;have hk5b:=Jae Ys hk4b;obtain ⟨k5,hk5e⟩: ∃ k5,JG Ys s k4=k5:=⟨_,rfl⟩;rw [hk5e] at hk5a hk5b;have HK5:=Ja hk5e;have e34:((s[k4].toNat:Int)==34)=false:=X0 (d:=34) rfl q34;have e39:((s[k4].toNat:Int)==39)=false:=X0 (d:=39) rfl q39;have hvq:=JqQ h4 q34 q39;rw [hk5e] at hvq;have htk:=Ja (fun w=>JbD (s.extract k4 k5) w (by simp;omega));obtain ⟨T,hT⟩: ∃ T,JR (s.extract k4 k5).data.toList=T:=⟨_,rfl⟩;rw [hT] at htk;obtain ⟨V,VB⟩:=T;have HX:=Ja (Jix (k':=k5) hlt HK2.out HK3.out HR.out HN.out h3 H61.out HK4.out hvq (show (JR (s.extract k4 k5).data.toList).1=V from by rw [hT]) (by omega));clear hvq hT hk5e q34 q39;go_upto_block 10 with fail
              go_cut [1] (fun s1 wx=>s1=.int .i64 k5∧W4=wx)
              case first=>as_aux_lemma=>
               go_wp2_with fail;go_loopw [1] (fun i wq=> ∃ j:Nat,j≤s.size∧i=.int .i64 j∧W4=wq∧Hid (JG Ys s j=k5)) (fun i _=>s.size - (intOf i).toNat)
               case atStart=>exact ⟨k4,hk4b,by go_num,rfl,HK5⟩
               case round=>
                obtain ⟨j,hj,rfl,rfl,hH⟩:=hrel;by_cases hlt:j<s.size
                ·have hw:=Ja (fun w=>YI s[j] w);have hb256:s[j].toNat<256:=UInt8.toNat_lt s[j];cases hwb:JA s[j]
                 ·rw [hwb] at hw;by_cases h62:s[j]=62
                  ·have e62:((s[j].toNat:Int) != 62)=false:=by rw [h62];rfl
                   have hjt:Hid (j=k5):=by rw [Hid, ←hH.out];exact (QP hlt (by rw [h62];rfl)).symm
                   clear hH hwb h62;go_wp2_with (go_at_call 109;refine (hw.out _).mono ?_;rintro e w9 ⟨rfl,rfl⟩);go_meet
                   case rel=>exact ⟨by rw [hjt.out],by first | rfl | trivial⟩
                  ·have e62:((s[j].toNat:Int) != 62)=true:=ZM (d:=62) rfl h62;have hH2:Hid (JG Ys s (j+1)=k5):=by rw [←hH.out];exact (YG hlt (by simp [Ys,hwb,h62])).symm
                   clear hH hwb h62;go_wp2_with (go_at_call 109;refine (hw.out _).mono ?_;rintro e w9 ⟨rfl,rfl⟩);go_roundw
                   case rel=>exact ⟨j+1,by omega,by go_num,by first | rfl | trivial,hH2⟩
                   case measure=>simp [intOf];omega
                 ·rw [hwb] at hw;have hjt:Hid (j=k5):=by rw [Hid, ←hH.out];exact (QP hlt (by simp [Ys,hwb])).symm
                  clear hH hwb;go_wp2_with (go_at_call 109;refine (hw.out _).mono ?_;rintro e w9 ⟨rfl,rfl⟩);go_meet
                  case rel=>exact ⟨by rw [hjt.out],by first | rfl | trivial⟩
                ·have hjt:Hid (j=k5):=by rw [Hid, ←hH.out];exact (Zo (by omega)).symm
                 clear hH;go_wp2_with fail;go_meet
                 case rel=>exact ⟨by rw [hjt.out],by first | rfl | trivial⟩
              case rest=>
               obtain ⟨rfl,hwc⟩:=hcut;subst hwc;go_wp2_with fail;refine (htk.out _).mono ?_;rintro e w5 ⟨rfl,hk5⟩;have hA5:=hA4.keeps hk5 List.not_mem_nil;have c1:=hA5.cell1;have f1:=hA5.free 1;have hA6:=hA5.set1 ⟨V.toArray⟩;have hk6:Jb [g] W4 (w5.setCell ⟨g,1,none⟩ (.string ⟨V.toArray⟩)):=(hk5.to (by simp)).trans ((Jb.refl [g] w5).setCell (.inl (by simp)) _);go_wp2_with fail;go_meet
               case rel=>exact ⟨k5,V,by go_num,by omega,by omega,hA6,hk6,HX⟩
           ·as_aux_lemma=>
            have hk5a:=Q5 Ys s k4;have hk5b:=Jae Ys hk4b;obtain ⟨k5,hk5e⟩: ∃ k5,JG Ys s k4=k5:=⟨_,rfl⟩;rw [hk5e] at hk5a hk5b;have HK5:=Ja hk5e;have htk:=Ja (fun w=>JbD (s.extract k4 k5) w (by simp;omega));obtain ⟨T,hT⟩: ∃ T,JR (s.extract k4 k5).data.toList=T:=⟨_,rfl⟩;rw [hT] at htk;obtain ⟨V,VB⟩:=T;have HX:Hid (JM s.data.toList f k5 (Yg acc (n,V))=R):=Jso hlt HK2.out HK3.out HR.out h3 H61.out HK4.out (Jsk (by omega)) (by omega);clear hT hk5e;go_upto_block 10 with fail
            go_cut [1] (fun s1 wx=>s1=.int .i64 k5∧W4=wx)
            case first=>as_aux_lemma=>
             go_wp2_with fail;go_loopw [1] (fun i wq=> ∃ j:Nat,j≤s.size∧i=.int .i64 j∧W4=wq∧Hid (JG Ys s j=k5)) (fun i _=>s.size - (intOf i).toNat)
             case atStart=>exact ⟨k4,hk4b,by go_num,rfl,HK5⟩
             case round=>
              obtain ⟨j,hj,rfl,rfl,hH⟩:=hrel;by_cases hlt:j<s.size
              ·have hw:=Ja (fun w=>YI s[j] w);have hb256:s[j].toNat<256:=UInt8.toNat_lt s[j];cases hwb:JA s[j]
               ·rw [hwb] at hw;by_cases h62:s[j]=62
                ·have e62:((s[j].toNat:Int) != 62)=false:=by rw [h62];rfl
                 have hjt:Hid (j=k5):=by rw [Hid, ←hH.out];exact (QP hlt (by rw [h62];rfl)).symm
                 clear hH hwb h62;go_wp2_with (go_at_call 109;refine (hw.out _).mono ?_;rintro e w9 ⟨rfl,rfl⟩);go_meet
                 case rel=>exact ⟨by rw [hjt.out],by first | rfl | trivial⟩
                ·have e62:((s[j].toNat:Int) != 62)=true:=ZM (d:=62) rfl h62;have hH2:Hid (JG Ys s (j+1)=k5):=by rw [←hH.out];exact (YG hlt (by simp [Ys,hwb,h62])).symm
                 clear hH hwb h62;go_wp2_with (go_at_call 109;refine (hw.out _).mono ?_;rintro e w9 ⟨rfl,rfl⟩);go_roundw
                 case rel=>exact ⟨j+1,by omega,by go_num,by first | rfl | trivial,hH2⟩
                 case measure=>simp [intOf];omega
               ·rw [hwb] at hw;have hjt:Hid (j=k5):=by rw [Hid, ←hH.out];exact (QP hlt (by simp [Ys,hwb])).symm
                clear hH hwb;go_wp2_with (go_at_call 109;refine (hw.out _).mono ?_;rintro e w9 ⟨rfl,rfl⟩);go_meet
                case rel=>exact ⟨by rw [hjt.out],by first | rfl | trivial⟩
              ·have hjt:Hid (j=k5):=by rw [Hid, ←hH.out];exact (Zo (by omega)).symm
               clear hH;go_wp2_with fail;go_meet
               case rel=>exact ⟨by rw [hjt.out],by first | rfl | trivial⟩
            case rest=>
             obtain ⟨rfl,hwc⟩:=hcut;subst hwc;go_wp2_with fail;refine (htk.out _).mono ?_;rintro e w5 ⟨rfl,hk5⟩;have hA5:=hA4.keeps hk5 List.not_mem_nil;have c1:=hA5.cell1;have f1:=hA5.free 1;have hA6:=hA5.set1 ⟨V.toArray⟩;have hk6:Jb [g] W4 (w5.setCell ⟨g,1,none⟩ (.string ⟨V.toArray⟩)):=(hk5.to (by simp)).trans ((Jb.refl [g] w5).setCell (.inl (by simp)) _);go_wp2_with fail;go_meet
             case rel=>exact ⟨k5,V,by go_num,by omega,by omega,hA6,hk6,HX⟩
        case rest=>
         obtain ⟨k',V,rfl,hka,hkb,hA5,hk5,HX⟩:=hcut;generalize wc=W5 at *;have ho5:W5.ownsRow w.heap.size 52 2 (Value.slice oo acc.length oc) acc.length (Jj acc):=hk5.owns ho4 (fun b hb=>by have:=hne.out b hb;simp;omega);have hkp5:Jb [] w W5:=((hkp4.to (by simp)).trans hk5).mono fun i hi hlt=>by simp at hi;omega
         have hnm:=Ja (fun w=>Jgl ⟨n.toArray⟩ w (by rw [Jv];unfold maxLen;omega));rw [Qc] at hnm;clear ho4 hkp4 hk5 hA4 hkp HR HN HB HK2 HK3 hk3;go_wp2_with fail;go_loopw [11,12] (fun t i wq=> ∃ j:Nat,j≤acc.length∧i=.int .i64 j∧t=.bool (decide (n∈(acc.take j).map (·.1)))∧Hid (∃ m,wq=W5.drewN m)) (fun _ i _=>acc.length - (intOf i).toNat)
         case atStart=>exact ⟨0,Nat.zero_le _,rfl,by simp,⟨0,rfl⟩⟩
         case round=>as_aux_lemma=>
          obtain ⟨j,hj,rfl,rfl,hW⟩:=hrel;have hkq:Jb [] W5 wr:=by obtain ⟨m,hm⟩:=hW.out;rw [hm];exact (Jb.refl _ _).drewN _
          have hA6:=hA5.keeps hkq List.not_mem_nil;have c0:=hA6.cell0;by_cases hja:j<acc.length
          ·obtain ⟨gg,x,rfl,hca⟩:=((Jh.of_row ho5).keeps hkq).addr (by omega);have q0:=hca _ _ (Zw acc j hja);have hts:(acc.take (j+1)).map (·.1)=(acc.take j).map (·.1)++[acc[j].1]:=by rw [List.take_succ_eq_append_getElem hja,List.map_append];rfl
           have HTS:=Ja hts;clear hts hca HX hnm;cases hd:decide (n∈(acc.take j).map (·.1))
           ·by_cases he:acc[j].1=n
            ·have hse:((⟨acc[j].1.toArray⟩:ByteArray).toList==(⟨n.toArray⟩:ByteArray).toList)=true:=by rw [Jca];simpa using he
             have heb:(acc[j].1==n)=true:=by simpa using he
             have HD:Hid (decide (n∈(acc.take (j+1)).map (·.1))=true):=by rw [Hid,HTS.out];simp [he]
             clear he hd;go_wp2_with fail
             go_quiet (fail)
             go_wp2_with fail;go_roundw
             case rel=>exact ⟨j+1,by omega,by go_num,by rw [HD.out],by obtain ⟨m,hm⟩:=hW.out;exact ⟨m+nq,by rw [hm];simp⟩⟩
             case measure=>simp [intOf];omega
            ·have hse:((⟨acc[j].1.toArray⟩:ByteArray).toList==(⟨n.toArray⟩:ByteArray).toList)=false:=by rw [Jca];simpa using he
             have heb:(acc[j].1==n)=false:=by simpa using he
             have hed:decide (acc[j].1=n)=false:=by simpa using he
             have HD:Hid (decide (n∈(acc.take (j+1)).map (·.1))=false):=by
              rw [Hid,HTS.out];have hd':=of_decide_eq_false hd;simp only [decide_eq_false_iff_not,List.mem_append,List.mem_singleton,not_or];exact ⟨hd',fun h=>he h.symm⟩
             clear he hd;go_wp2_with fail
             go_quiet (fail)
             go_wp2_with fail;go_roundw
             case rel=>exact ⟨j+1,by omega,by go_num,by rw [HD.out],by obtain ⟨m,hm⟩:=hW.out;exact ⟨m+nq,by rw [hm];simp⟩⟩
             case measure=>simp [intOf];omega
           ·have HD:Hid (decide (n∈(acc.take (j+1)).map (·.1))=true):=by
             rw [Hid,HTS.out];have hd':=of_decide_eq_true hd;simp only [decide_eq_true_eq,List.mem_append];exact .inl hd'
            clear hd;go_wp2_with fail
            go_quiet (fail)
            go_wp2_with fail;go_roundw
            case rel=>exact ⟨j+1,by omega,by go_num,by rw [HD.out],by obtain ⟨m,hm⟩:=hW.out;exact ⟨m+nq,by rw [hm];simp⟩⟩
            case measure=>simp [intOf];omega
          ·have hall:acc.take j=acc:=List.take_of_length_le (by omega);rw [hall];clear hall;have ho6:=hkq.owns ho5 (fun _ _=>List.not_mem_nil);have hkp6:=hkp5.trans hkq;have HX2:=HX.out;cases hin:JB n
           ·rw [hin] at hnm;have HX3:Hid (JM s.data.toList f k' acc=R):=by
             rw [Hid, ←HX2];simp [Yg,hin]
            clear HX HX2 hin;go_wp2_with fail;refine (hnm.out _).mono ?_;rintro e w6 ⟨rfl,rfl⟩;go_wp2_with fail
            go_roundg f
            case measure=>omega
            case rel=>exact ⟨k',acc,hkb,by omega,rfl,ho6,hkp6,by omega,HX3⟩
           ·rw [hin] at hnm;cases hd:decide (n∈acc.map (·.1))
            ·have HX3:Hid (JM s.data.toList f k' (acc++[(n,V)])=R):=by
              rw [Hid, ←HX2];have hd':=of_decide_eq_false hd;have hc: ¬ (n∈acc.map (·.1)∨JB n=false):=by rw [hin];simpa using hd'
              unfold Yg;rw [if_neg hc]
             have b0:=hA6.cell0;have b1:=hA6.cell1;clear HX HX2 hin hd;have q:=heap_alloc_new wr (.cells #[.string ⟨n.toArray⟩,.string ⟨V.toArray⟩] 52);go_wp2_with fail;refine (hnm.out _).mono ?_;rintro e w6 ⟨rfl,rfl⟩;go_wp2_with (at_builtin;refine wpList_append_own _ rfl _ _ 43 rfl w.heap.size 52 i0 _ 2 32 Tryz.underlying43 hi hz0 hz1 hz2 (Jov _ _) (by decide) _ _ _ rfl (ho6.alloc _) ⟨w6.heap.size,0,none⟩ 1 1 [.string ⟨n.toArray⟩,.string ⟨V.toArray⟩] rfl rfl ?c1 ?c2 ?c3 ?c4 ?c5 ?_)
             case c1=>
              intro j u hj;rw [ZY];have qq:Qg (w6.alloc (.cells #[.string ⟨n.toArray⟩,.string ⟨V.toArray⟩] 52)) w6.heap.size ⟨n.toArray⟩ ⟨V.toArray⟩:=q
              match j,hj with
              | 0,hj=>simp at hj;subst hj;exact qq.cell0
              | 1,hj=>simp at hj;subst hj;exact qq.cell1
             case c2=>intro u hu;simp at hu;rcases hu with rfl | rfl<;>rfl
             case c3=>unfold maxLen;omega
             case c4=>omega
             case c5=>have:=hkp6.size;simp;omega
             intro v7 w7 ho7 hg7 _;have hk7:Jb (Value.slice oo acc.length oc).ownBlock.toList w6 w7:=((Jb.refl _ w6).alloc _).grown hg7 fun i e=>.inl (by simp [e]);have hro: ∀ g,g∈(Value.slice oo acc.length oc).ownBlock.toList→w.heap.size≤g:=fun g hg=>(ho6.lt g (by simpa using hg)).1;have hkp7:Jb [] w w7:=((hkp6.to (by simp)).trans hk7).mono fun i hi hlt=>by have:=hro _ hi;omega
             have ho7':w7.ownsRow w.heap.size 52 2 v7 (acc++[(n,V)]).length (Jj (acc++[(n,V)])):=by
              rw [JeJ,List.length_append];exact ho7
             go_wp2_with fail
             go_roundg f
             case measure=>omega
             case rel=>exact ⟨k',acc++[(n,V)],hkb,by omega,rfl,ho7',hkp7,by rw [List.length_append];simp;omega,HX3⟩
            ·have HX3:Hid (JM s.data.toList f k' acc=R):=by
              rw [Hid, ←HX2];have hd':=of_decide_eq_true hd;unfold Yg;rw [if_pos (.inl hd')]
             clear HX HX2 hin hd;go_wp2_with fail;refine (hnm.out _).mono ?_;rintro e w6 ⟨rfl,rfl⟩;go_wp2_with fail
             go_roundg f
             case measure=>omega
             case rel=>exact ⟨k',acc,hkb,by omega,rfl,ho6,hkp6,by omega,HX3⟩
end Go.Proofs.YtlcljanibjdejaaGreat
