/- ShelfTells holds: the law returns true for every input, and each argument reads behind the call as it read before; no condition. A part of its proof. -/
import Derived.Test.YtlcljanibjdejaaGreatRows
import Derived.WalkKit
import Derived.WalkSpells
import Derived.WalkLawsBesides
import Derived.Defers
import Derived.Recover
import Derived.Deep.QuietTactic
import Derived.BigQuiet
import Derived.Lib.AppendStr
import Derived.Laws.BytesString
import Derived.Shelf.Utf8.AppendRunePlain
import Derived.Shelf.Strings.Prefix
import Derived.Test.YtlcljanibjdejaaGreatProg
import Derived.Lib.RuneBytes
import Derived.Lib.IndexBytes
import Derived.Laws.IdiomStrings
set_option maxHeartbeats 64000000
namespace Go.Proofs.YtlcljanibjdejaaGreat
open Go.RowKit
theorem Ja {p:Prop} (h:p):Hid p:=h
structure Jb (S:List Nat) (w w':World):Prop where
 os:w'.os=w.os
 tape:w'.tape=w.tape
 output:w'.output=w.output
 size:w.heap.size≤w'.heap.size
 block: ∀ k,k<w.heap.size→k∉S→w'.heap[k]?=w.heap[k]?
theorem Jb.refl (S:List Nat) (w:World):Jb S w w:=⟨rfl,rfl,rfl,Nat.le_refl _,fun _ _ _=>rfl⟩
theorem Jb.trans {S:List Nat} {a b c:World} (h:Jb S a b) (k:Jb S b c):Jb S a c:=
 ⟨k.os.trans h.os,k.tape.trans h.tape,k.output.trans h.output,Nat.le_trans h.size k.size,fun i hi hS=>(k.block i (Nat.lt_of_lt_of_le hi h.size) hS).trans (h.block i hi hS)⟩
theorem Jb.mono {S T:List Nat} {w w':World} (h:Jb S w w') (hS: ∀ k,k∈S→k<w.heap.size→k∈T):Jb T w w':=
 ⟨h.os,h.tape,h.output,h.size,fun k hk hT=>h.block k hk fun hs=>hT (hS k hs hk)⟩
theorem Jb.drewN {S:List Nat} {a w:World} (h:Jb S a w) (n:Nat):Jb S a (w.drewN n):=⟨h.os,h.tape,h.output,h.size,h.block⟩
theorem Jb.drew {S:List Nat} {a w:World} (h:Jb S a w):Jb S a w.drew:=⟨h.os,h.tape,h.output,h.size,h.block⟩
theorem Jb.alloc {S:List Nat} {a w:World} (h:Jb S a w) (o:Obj):Jb S a (w.alloc o):=
 h.trans ⟨rfl,rfl,rfl,by simp,fun k hk _=>Below.heap_alloc _ _ _ hk⟩
theorem Jb.setCell {S:List Nat} {a w:World} (h:Jb S a w) {p:Addr} (hp:p.block∈S∨a.heap.size≤p.block) (u:Value):Jb S a (w.setCell p u):=by
 refine ⟨h.os,h.tape,h.output,Nat.le_trans h.size (by simp [World.setCell]),fun k hk hS=>?_⟩;have hne:k≠p.block:=by
  rcases hp with hp | hp
  ·exact fun e=>hS (e ▸ hp)
  ·omega
 rw [Below.heap_setCell _ _ _ _ hne];exact h.block k hk hS
theorem Jb.grown {S:List Nat} {a w w':World} {row:Option Nat} (h:Jb S a w) (hg:w.grownBy w' row) (hr: ∀ k,row=some k→k∈S∨a.heap.size≤k):Jb S a w':=by
 refine ⟨hg.os.trans h.os,hg.tape.trans h.tape,hg.output.trans h.output,Nat.le_trans h.size hg.size,fun k hk hS=>?_⟩;have hne:some k≠row:=by
  intro e;rcases hr k e.symm with h' | h'
  ·exact hS h'
  ·omega
 rw [hg.block k (Nat.lt_of_lt_of_le hk h.size) hne];exact h.block k hk hS
theorem Jb.below {S:List Nat} {w w':World} (h:Jb S w w') {B:Nat} (hB:B≤w.heap.size) (hS: ∀ k,k∈S→B≤k):Below B w w':=
 ⟨h.os,h.tape,h.output,h.size,fun k hk=>h.block k (by omega) fun hs=>by have:=hS k hs;omega⟩
theorem Jb.of_below {w w':World} (h:Below w.heap.size w w'):Jb [] w w':=⟨h.os,h.tape,h.output,h.size,fun k hk _=>h.block k hk⟩
theorem Jb.nil_below {w w':World} (h:Jb [] w w'):Below w.heap.size w w':=h.below (Nat.le_refl _) (by simp)
theorem Jb.owns {S:List Nat} {w w':World} (h:Jb S w w') {B:Nat} {e:TypeId} {z:Nat} {v:Value} {n:Nat} {xs:List Value} (ho:w.ownsRow B e z v n xs) (hn: ∀ k,v.ownBlock=some k→k∉S):w'.ownsRow B e z v n xs:=by
 refine ⟨ho.1,?_⟩;rcases ho.2 with ⟨rfl,h0⟩ | ⟨g,cap,cur,rfl,hb,hg,hr⟩
 ·exact .inl ⟨rfl,h0⟩
 ·have hlt:g<w.heap.size:=by
   rcases Nat.lt_or_ge g w.heap.size with h' | h'
   ·exact h'
   ·rw [Array.getElem?_eq_none h'] at hg;simp at hg
  exact .inr ⟨g,cap,cur,rfl,hb,by rw [h.block g hlt (hn g rfl)];exact hg,hr⟩
def Jf (w:World) (b:Nat) (s:ByteArray) (k:Nat):Prop:=w.heap[b]?=some (.cells #[.string s,.int .i64 k] 181 (0,0))
theorem Jf.lt {w:World} {b:Nat} {s:ByteArray} {k:Nat} (h:Jf w b s k):b<w.heap.size:=by
 rcases Nat.lt_or_ge b w.heap.size with h' | h'
 ·exact h'
 ·rw [Jf,Array.getElem?_eq_none h'] at h;simp at h
theorem Jf.keeps {S:List Nat} {w w':World} {b:Nat} {s:ByteArray} {k:Nat} (h:Jf w b s k) (hk:Jb S w w') (hb:b∉S):Jf w' b s k:=by
 rw [Jf,hk.block b h.lt hb];exact h
theorem Jf.cell0 {w:World} {b:Nat} {s:ByteArray} {k:Nat} (h:Jf w b s k):w.cell? ⟨b,0,none⟩=some (.string s):=by
 simp [World.cell?,Jf] at h ⊢;simp [h]
theorem Jf.cell1 {w:World} {b:Nat} {s:ByteArray} {k:Nat} (h:Jf w b s k):w.cell? ⟨b,1,none⟩=some (.int .i64 k):=by
 simp [World.cell?,Jf] at h ⊢;simp [h]
theorem Jf.free1 {w:World} {b:Nat} {s:ByteArray} {k:Nat} (h:Jf w b s k):w.frozen? ⟨b,1,none⟩=false:=by
 simp [World.frozen?,Jf] at h ⊢;simp [h]
theorem Jf.set {w:World} {b:Nat} {s:ByteArray} {k:Nat} (h:Jf w b s k) (m:Nat):Jf (w.setCell ⟨b,1,none⟩ (.int .i64 m)) b s m:=by
 simp [World.setCell,Jf,Array.getElem?_modify] at h ⊢;simp [h]
theorem JfX (s:ByteArray) (w:World):
  Calls Tryz.prog 76 #[.string s] w fun e w'=>e=.returned (.pointer (some ⟨w.heap.size,0,none⟩))∧w'=w.alloc (.cells #[.string s,.int .i64 0] 181):=by
 go_enter Tryz.func76,Tryz.ntmps76
 go_wp2
 go_ret;exact ⟨rfl,rfl⟩
theorem YN (b:Nat) (s:ByteArray) (k:Nat) (w:World) (hT:Jf w b s k):
  Calls Tryz.prog 77 #[.pointer (some ⟨b,0,none⟩)] w fun e w'=>e=.returned (.bool (decide (s.size≤k)))∧ ∃ n,w'=w.drewN n:=by
 have c0:=hT.cell0;have c1:=hT.cell1;go_enter Tryz.func77,Tryz.ntmps77;go_wp2_with fail
 go_quiet (fail)
 go_wp2
 go_ret;exact ⟨by simp,_,rfl⟩
def Yp:List PanicEntry:=[{ v:=.iface 183 (.agg #[]),recovered:=false }]
theorem Zq (w:World):
  Calls Tryz.prog 234 #[] w fun e w'=>e=.panicked Yp∧w'=w:=by
 go_enter Tryz.func234,Tryz.ntmps234
 go_wp2
 exact ⟨rfl,rfl,rfl⟩
def Jr (s:ByteArray) (k:Nat):UInt8:=s.data.toList.getD k 0
theorem Q0 (s:ByteArray) (k:Nat) (h:k<s.size):Jr s k=s[k]:=by
 have h':k<s.data.toList.length:=by simpa using h
 simp only [Jr,List.getD_eq_getElem?_getD,List.getElem?_eq_getElem h',Option.getD_some];rfl
theorem Jeq (b:Nat) (s:ByteArray) (k:Nat) (w:World) (hT:Jf w b s k) (hk:k<s.size):
  Calls Tryz.prog 235 #[.pointer (some ⟨b,0,none⟩)] w fun e w'=>e=.returned (.int .u8 (Jr s k).toNat)∧ ∃ n,w'=w.drewN n:=by
 have c0:=hT.cell0;have c1:=hT.cell1;have hd:decide (s.size≤k)=false:=by simp;omega
 go_enter Tryz.func235,Tryz.ntmps235;go_wp2_with (go_at_call 77;refine (YN _ _ _ _ hT).mono ?_;rintro e w' ⟨rfl,n,rfl⟩)
 go_quiet (fail)
 go_wp2
 go_ret;exact ⟨by simp [Q0 s k hk],_,World.drewN_drewN _ _ _⟩
theorem Jmi (b:Nat) (s:ByteArray) (k:Nat) (w:World) (hT:Jf w b s k) (hk:s.size≤k):
  Calls Tryz.prog 235 #[.pointer (some ⟨b,0,none⟩)] w fun e w'=>e=.panicked Yp∧ ∃ n,w'=w.drewN n:=by
 have hd:decide (s.size≤k)=true:=by simp;omega
 go_enter Tryz.func235,Tryz.ntmps235;go_wp2_with (first | (go_at_call 77;refine (YN _ _ _ _ hT).mono ?_;rintro e w' ⟨rfl,n,rfl⟩) | (go_at_call 234;refine (Zq _).mono ?_;rintro e w' ⟨rfl,rfl⟩));exact ⟨rfl,rfl,_,rfl⟩
theorem Q2 (b:Nat) (s:ByteArray) (k:Nat) (w:World) (hs:s.size≤3000) (hT:Jf w b s k) (hk:k<s.size):
  Calls Tryz.prog 157 #[.pointer (some ⟨b,0,none⟩)] w fun e w'=>e=.returned (.int .u8 (Jr s k).toNat)∧Jf w' b s (k+1)∧Jb [b] w w':=by
 have c1:=hT.cell1;have f1:=hT.free1;go_enter Tryz.func157,Tryz.ntmps157;go_wp2_with (go_at_call 235;refine (Jeq _ _ _ _ hT hk).mono ?_;rintro e w' ⟨rfl,n,rfl⟩);go_ret;exact ⟨by simp,hT.set (k+1),((Jb.refl _ _).setCell (by simp) _).drewN _⟩
theorem Jkx (b:Nat) (s:ByteArray) (k:Nat) (w:World) (hT:Jf w b s k) (hk:s.size≤k):
  Calls Tryz.prog 157 #[.pointer (some ⟨b,0,none⟩)] w fun e w'=>e=.panicked Yp∧ ∃ n,w'=w.drewN n:=by
 go_enter Tryz.func157,Tryz.ntmps157;go_wp2_with (go_at_call 235;refine (Jmi _ _ _ _ hT hk).mono ?_;rintro e w' ⟨rfl,n,rfl⟩);exact ⟨rfl,rfl,_,rfl⟩
def Jy (K:Nat):Prop:= ∀ (args:Array Value) (w:World),(callFunc K args).run Tryz.prog w=.ok (.enter K args) w
def XO (f:UInt8→Bool) (l:List UInt8):Nat:=(l.takeWhile f).length
theorem JhI (f:UInt8→Bool): ∀ (l:List UInt8) (m:Nat),m≤l.length→(∀ i,i<m→f (l.getD i 0)=true)→(m<l.length→f (l.getD m 0)=false)→XO f l=m
 | [],m,h,_,_=>by simp at h;simp [XO,h]
 | c::l,0,_,_,h=>by have:=h (by simp);simp at this;simp [XO,this]
 | c::l,m+1,h1,h2,h3=>by
   have h0:f c=true:=by simpa using h2 0 (by omega)
   have:=JhI f l m (by simpa using h1) (fun i hi=>by simpa using h2 (i+1) (by omega)) (fun h=>by simpa using h3 (by simpa using h));simp only [XO] at this ⊢;simp [h0,this]
theorem Jnn (f:UInt8→Bool) (s:ByteArray) (k j:Nat) (hkj:k≤j) (hj:j≤s.size) (hall: ∀ i,k≤i→i<j→f (Jr s i)=true) (hstop:j<s.size→f (Jr s j)=false):
  k+XO f (s.data.toList.drop k)=j:=by
 have hl:s.data.toList.length=s.size:=Array.length_toList
 have:=JhI f (s.data.toList.drop k) (j - k) (by simp only [List.length_drop,hl];omega)
  (fun i hi=>by have:=hall (k+i) (by omega) (by omega);simpa [Jr,List.getD_eq_getElem?_getD,List.getElem?_drop] using this)
  (fun h=>by
    have h':j<s.size:=by simp only [List.length_drop,hl] at h;omega
    have:=hstop h';simp only [Jr,List.getD_eq_getElem?_getD,List.getElem?_drop] at this ⊢;rw [show k+(j - k)=j from by omega];exact this)
 omega
theorem JbW (K:Nat) (caps:Array Value) (f:UInt8→Bool) (b:Nat) (s:ByteArray) (k:Nat) (w:World) (hs:s.size≤3000) (hT:Jf w b s k) (hk:k≤s.size) (hK:Jy K)
  (hf: ∀ (c:UInt8) (w1:World),Jb [b] w w1→Calls Tryz.prog K (#[.int .u8 c.toNat]++caps) w1 fun e w'=>e=.returned (.bool (f c))∧ ∃ n,w'=w1.drewN n):
  Calls Tryz.prog 158 #[.pointer (some ⟨b,0,none⟩),.func (.func K) #[] caps] w fun e w'=>
   e=.returned (.string (s.extract k (k+XO f (s.data.toList.drop k))))∧Jf w' b s (k+XO f (s.data.toList.drop k))∧Jb [b] w w':=by
 have c1:=hT.cell1;have hK':=hK;unfold Jy at hK';have fin: ∀ j,k≤j→j≤s.size→(∀ i,k≤i→i<j→f (Jr s i)=true)→(j<s.size→f (Jr s j)=false)→Hid (k+XO f (s.data.toList.drop k)=j):=Jnn f s k;go_enter Tryz.func158,Tryz.ntmps158;go_wp2_with fail;go_loopw [10] (fun _ wr=> ∃ j:Nat,k≤j∧j≤s.size∧(∀ i,k≤i→i<j→f (Jr s i)=true)∧Jf wr b s j∧Jb [b] w wr) (fun _ wr=>s.size - (intOf ((wr.cell? ⟨b,1,none⟩).getD undef)).toNat)
 case atStart=>exact ⟨k,Nat.le_refl _,hk,fun i h1 h2=>by omega,hT,Jb.refl _ _⟩
 case round=>
  obtain ⟨j,hkj,hj,hall,hT',hkp⟩:=hrel;have HA:=Ja hall;have c0':=hT'.cell0;have c1':=hT'.cell1;have f1':=hT'.free1;clear c1 hall;by_cases hlt:j<s.size
  ·have hd:decide (s.size≤j)=false:=by simp;omega
   have hcall: ∀ n,Calls Tryz.prog K (#[.int .u8 s[j].toNat]++caps) (wr.drewN n) fun e w'=>e=.returned (.bool (f s[j]))∧ ∃ n',w'=(wr.drewN n).drewN n':=fun n=>hf s[j] _ (hkp.drewN n);have HC:=Ja hcall;clear hcall hf;cases hfc:f s[j]
   ·rw [hfc] at HC;have HF:=fin j hkj hj HA.out (fun _=>by rw [Q0 s j hlt];exact hfc);clear fin hfc;go_wp2_with fail
    go_quiet (first | (go_at_call 77;exact Calls.quiet_of (YN _ _ _ _ hT')) | exact Calls.quiet_of (HC.out _))
    go_wp2_with fail
    go_quiet (fail)
    go_wp2
    go_ret;rw [HF.out];exact ⟨by simp,hT',(hkp.drewN _).drewN _⟩
   ·rw [hfc] at HC;have hall': ∀ i,k≤i→i<j+1→f (Jr s i)=true:=by
     intro i h1 h2;by_cases he:i=j
     ·rw [he,Q0 s j hlt];exact hfc
     ·exact HA.out i h1 (by omega)
    have HA':=Ja hall';clear fin hfc hall' HA;go_wp2_with fail
    go_quiet (first | (go_at_call 77;exact Calls.quiet_of (YN _ _ _ _ hT')) | exact Calls.quiet_of (HC.out _))
    go_wp2_with fail;go_roundw
    case rel=>exact ⟨j+1,by omega,by omega,HA'.out,hT'.set (j+1),(hkp.setCell (by simp) _).drewN _⟩
    case measure=>
     have h2:((wr.drewN nq).setCell ⟨b,1,none⟩ (.int .i64 ((j:Int)+1))).cell? ⟨b,1,none⟩=some (.int .i64 ((j:Int)+1)):=(hT'.set (j+1)).cell1;rw [h2,c1'];simp only [intOf,Option.getD_some];omega
  ·have hd:decide (s.size≤j)=true:=by simp;omega
   have HF:=fin j hkj hj HA.out (fun h=>by omega);clear hf fin;go_wp2_with fail
   go_quiet (first | (go_at_call 77;exact Calls.quiet_of (YN _ _ _ _ hT')) | fail)
   go_wp2_with fail
   go_quiet (fail)
   go_wp2
   go_ret;rw [HF.out];exact ⟨by simp,hT',(hkp.drewN _).drewN _⟩
end Go.Proofs.YtlcljanibjdejaaGreat
namespace Go.Proofs
open Go.Shelf
def Tryz.lays242_ren:Go.Shelf.Ren:=⟨fun | 242=>308 | 278=>329 | n=>n,fun | 37=>107 | 21=>21 | 51=>270 | 4=>4 | 5=>5 | 46=>245 | n=>n,fun | n=>n⟩
theorem Tryz.lays242:Go.Proofs.Lays.n242 Tryz.prog Tryz.lays242_ren:={
 mixed:=by kernel_rfl
 f242:=Tryz.func308.trans (congrArg some (by kernel_rfl))
 f278:=Tryz.func329.trans (congrArg some (by kernel_rfl))
 t4:=Tryz.underlying4
 a4:=Tryz.isAgg4
 z4:=Tryz.sizeOf4
 v4:=Tryz.zeroValue4
 t5:=Tryz.underlying5
 a5:=Tryz.isAgg5
 z5:=Tryz.sizeOf5
 v5:=Tryz.zeroValue5
 t21:=Tryz.underlying21
 a21:=Tryz.isAgg21
 z21:=Tryz.sizeOf21
 v21:=Tryz.zeroValue21
 t37:=Tryz.underlying107
 a37:=Tryz.isAgg107
 z37:=Tryz.sizeOf107
 v37:=Tryz.zeroValue107
 t46:=Tryz.underlying245
 a46:=Tryz.isAgg245
 z46:=Tryz.sizeOf245
 v46:=Tryz.zeroValue245
 t51:=Tryz.underlying270
 a51:=Tryz.isAgg270
 z51:=Tryz.sizeOf270
 v51:=Tryz.zeroValue270 }
open Go.RowKit in
theorem Tryz.utf8_AppendRune_plain (B:Nat) (v:Value) (n:Nat) (xs:List Value) (r:Int) (hr0: -2147483648≤r) (hr1:r≤2147483647) (w:World) (hown:w.ownsRow B 5 1 v n xs) (hlen:n+4≤140737488355328) (hBw:B≤w.heap.size):
 Calls Tryz.prog 308 #[v,.int .i32 r] w fun e w'=> ∃ v',e=.returned v'∧w'.ownsRow B 5 1 v' (n+(Lib.runeCells r).length) (xs++Lib.runeCells r)∧ ∃ o,(w.alloc o).grownBy w' v.ownBlock:=Any.utf8_AppendRune_plain Tryz.lays242 (by kernel_rfl) B v n xs r hr0 hr1 w hown hlen hBw
def Tryz.lays99_ren:Go.Shelf.Ren:=⟨fun | 99=>220 | 206=>288 | n=>n,fun | 9=>9 | 4=>4 | 3=>3 | n=>n,fun | n=>n⟩
theorem Tryz.lays99:Go.Proofs.Lays.n99 Tryz.prog Tryz.lays99_ren:={
 mixed:=by kernel_rfl
 f99:=Tryz.func220.trans (congrArg some (by kernel_rfl))
 f206:=Tryz.func288.trans (congrArg some (by kernel_rfl))
 t3:=Tryz.underlying3
 a3:=Tryz.isAgg3
 z3:=Tryz.sizeOf3
 v3:=Tryz.zeroValue3
 t4:=Tryz.underlying4
 a4:=Tryz.isAgg4
 z4:=Tryz.sizeOf4
 v4:=Tryz.zeroValue4
 t9:=Tryz.underlying9
 a9:=Tryz.isAgg9
 z9:=Tryz.sizeOf9
 v9:=Tryz.zeroValue9 }
open Go.RowKit Go.Lib in
theorem Tryz.strings_HasPrefix (s p:ByteArray) (w:World):
 Calls Tryz.prog 220 #[.string s,.string p] w fun e w'=>e=.returned (.bool (Lib.hasPrefix s.data.toList p.data.toList))∧w'=w:=Any.strings_HasPrefix Tryz.lays99 s p w
end Go.Proofs
namespace Go.Proofs.YtlcljanibjdejaaGreat
def Yy (c:UInt8):List UInt8:=
 if c=38 then [38,97,109,112,59]
 else if c=60 then [38,108,116,59]
 else if c=62 then [38,103,116,59]
 else if c=34 then [38,113,117,111,116,59]
 else [c]
def J0 (l:List UInt8):List UInt8:=l.flatMap Yy
theorem JsN (c:UInt8):(Yy c).length≤6:=by
 unfold Yy
 repeat' split
 all_goals simp
theorem Jat: ∀ l:List UInt8,(J0 l).length≤6 * l.length
 | []=>by simp [J0]
 | c::l=>by
   have h1:=JsN c;have h2:=Jat l;simp only [J0,List.flatMap_cons,List.length_append,List.length_cons] at h2 ⊢;omega
theorem JlK (a b:List UInt8):J0 (a++b)=J0 a++J0 b:=by simp [J0]
def QZ (c:UInt8):Nat:=
 if 48≤c.toNat∧c.toNat≤57 then c.toNat - 48
 else if 97≤c.toNat∧c.toNat≤102 then c.toNat - 97+10
 else if 65≤c.toNat∧c.toNat≤70 then c.toNat - 65+10
 else 16
theorem JfT (c:UInt8):QZ c≤16:=by
 unfold QZ
 repeat' split
 all_goals omega
def XK (base:Nat):Nat→List UInt8→Option Nat
 | n,[]=>some n
 | n,c::l=>if base≤QZ c then none else XK base (n * base+QZ c) l
def YF (base most:Nat) (l:List UInt8):Option Nat:=if l.length<1∨most<l.length then none else XK base 0 l
def QU (l:List UInt8):Option Nat:=
 if l=[97,109,112] then some 38
 else if l=[108,116] then some 60
 else if l=[103,116] then some 62
 else if l=[113,117,111,116] then some 34
 else if l=[97,112,111,115] then some 39
 else if List.isPrefixOf [35,120] l then YF 16 6 (l.drop 2)
 else if List.isPrefixOf [35] l then YF 10 7 (l.drop 1)
 else none
def QT (c:UInt8):Bool:=c != 59&&c != 38
def ZU (c:UInt8):Bool:=c != 38
def QK (l:List UInt8):Option (Nat × Nat):=
 if l[(l.takeWhile QT).length]?=some 59 then (QU (l.takeWhile QT)).map fun n=>(n,(l.takeWhile QT).length+1) else none
def Q3 (n:Nat):Bool:=decide (0<n)&&decide (n≤1114111)&& !(decide (55296≤n)&&decide (n≤57343))
theorem JfY (base:Nat): ∀ (l:List UInt8) (n k:Nat),XK base n l=some k→k<(n+1) * base ^ l.length
 | [],n,k,h=>by simp [XK] at h;subst h;simp
 | c::l,n,k,h=>by
   simp only [XK] at h;split at h
   ·simp at h
   ·have:=JfY base l _ _ h;have h1:(n * base+QZ c+1)≤(n+1) * base:=by rw [Nat.add_mul];omega
    calc k<(n * base+QZ c+1) * base ^ l.length:=this
     _≤(n+1) * base * base ^ l.length:=Nat.mul_le_mul_right _ h1
     _=(n+1) * base ^ (c::l).length:=by rw [List.length_cons,Nat.pow_succ,Nat.mul_assoc,Nat.mul_comm base]
theorem JsK {base most:Nat} (hb:1≤base) {l:List UInt8} {k:Nat} (h:YF base most l=some k):k<base ^ most:=by
 unfold YF at h;split at h
 ·simp at h
 ·have:=JfY base l 0 k h;have h2:base ^ l.length≤base ^ most:=Nat.pow_le_pow_right hb (by omega);simp at this;omega
theorem Jse {l:List UInt8} {n:Nat} (h:QU l=some n):n≤16777216:=by
 unfold QU at h
 repeat' split at h
 all_goals first
  | (simp at h;done)
  | (simp at h;omega)
  | (have:=JsK (by omega) h;omega)
def JV (l:List UInt8):List UInt8 × Nat × Bool:=
 match QK (l.drop 1) with
 | some (n,m)=>if Q3 n then (Lib.encodeRune n,1+m,true) else (Lib.encodeRune 65533,1+m,false)
 | none=>(l.take 1,1,false)
theorem JkM {l:List UInt8} {n m:Nat} (h:QK l=some (n,m)):m≤l.length∧1≤m∧n≤16777216:=by
 unfold QK at h;split at h
 ·rename_i hg;have h1:=(List.getElem?_eq_some_iff.1 hg).1;cases ht:QU (l.takeWhile QT) with
  | none=>rw [ht] at h;simp at h
  | some x=>
    rw [ht] at h;simp at h;have:=Jse ht;omega
 ·simp at h
theorem JdI (r:Int):1≤(Lib.encodeRune r).length∧(Lib.encodeRune r).length≤4:=by
 have:=Lib.encodeRuneZ_length r;simpa [Lib.encodeRune] using this
theorem JcK (l:List UInt8) (h:1≤l.length):1≤(JV l).2.1∧(JV l).2.1≤l.length∧(JV l).1.length≤4:=by
 unfold JV;split
 ·rename_i n m hs;have:=JkM hs;simp only [List.length_drop] at this;split
  ·have:=JdI n;simp only;omega
  ·have:=JdI 65533;simp only;omega
 ·simp;omega
end Go.Proofs.YtlcljanibjdejaaGreat
namespace Go.Proofs.YtlcljanibjdejaaGreat
open Go.RowKit
theorem JbX {k:IntKind} {a b:Int} (h:a=b):Ending.returned (.int k a)=.returned (.int k b):=by rw [h]
theorem Qv {a b:Bool} (h:a=b):Ending.returned (.bool a)=.returned (.bool b):=by rw [h]
theorem YM (c d:UInt8):((c.toNat:Int) != (d.toNat:Int))=(c != d):=by
 rw [Bool.eq_iff_iff,bne_iff_ne,bne_iff_ne,Ne,Ne,Int.ofNat_inj,UInt8.toNat_inj]
theorem JgB (c d:UInt8):((c.toNat:Int)==(d.toNat:Int))=(c==d):=by
 rw [Bool.eq_iff_iff,beq_iff_eq,beq_iff_eq,Int.ofNat_inj,UInt8.toNat_inj]
theorem Jdm (c:UInt8) (w:World):
  Calls Tryz.prog 340 #[.int .u8 c.toNat] w fun e w'=>e=.returned (.int .i64 (QZ c:Nat))∧w'=w:=by
 have hc:c.toNat<256:=UInt8.toNat_lt c;unfold QZ;generalize c.toNat=n at *;rcases (show (48≤n∧n≤57)∨(97≤n∧n≤102)∨(65≤n∧n≤70)∨n<48∨(57<n∧n<65)∨(70<n∧n<97)∨102<n from by omega) with h | h | h | h | h | h | h
 all_goals
  go_enter Tryz.func340,Tryz.ntmps340
  go_wp2
  go_ret;exact ⟨JbX (by omega),rfl⟩
theorem JpK (c:UInt8) (w:World):
  Calls Tryz.prog 262 #[.int .u8 c.toNat] w fun e w'=>e=.returned (.bool (ZU c))∧w'=w:=by
 go_enter Tryz.func262,Tryz.ntmps262
 go_wp2
 go_ret;exact ⟨Qv (YM c 38),rfl⟩
theorem Jpq (c:UInt8):QT c=((c.toNat:Int) != 59&&(c.toNat:Int) != 38):=by
 unfold QT;rw [←YM c 59, ←YM c 38];rfl
theorem JmX (c:UInt8) (w:World):
  Calls Tryz.prog 327 #[.int .u8 c.toNat] w fun e w'=>e=.returned (.bool (QT c))∧w'=w:=by
 rw [Jpq];go_enter Tryz.func327,Tryz.ntmps327
 go_wp2
 all_goals go_ret
 ·exact ⟨Qv (by simp [*]),rfl⟩
 ·exact ⟨Qv (by simp),rfl⟩
theorem JhX (n:Nat) (hn:n≤16777216) (w:World):
  Calls Tryz.prog 307 #[.int .i64 n] w fun e w'=>e=.returned (.bool (Q3 n))∧w'=w:=by
 unfold Q3;rcases (show n=0∨(1≤n∧n<55296)∨(55296≤n∧n≤57343)∨(57343<n∧n≤1114111)∨1114111<n from by omega) with h | h | h | h | h
 all_goals
  go_enter Tryz.func307,Tryz.ntmps307
  go_wp2
  go_ret;refine ⟨Qv ?_,rfl⟩
  first
   | (simp;omega)
   | (rw [Bool.eq_iff_iff];simp;omega)
def ans (o:Option Nat):Ending:=.returned (.tuple #[.int .i64 (o.getD 0:Nat),.bool o.isSome])
theorem Jfv (base:Nat): ∀ (l:List UInt8) (n:Nat) (c:UInt8),XK base n (l++[c])=(XK base n l).bind fun m=>if base≤QZ c then none else some (m * base+QZ c)
 | [],n,c=>by simp [XK]
 | d::l,n,c=>by
   simp only [List.cons_append,XK];split
   ·rfl
   ·exact Jfv base l _ c
theorem JpP (base:Nat) (a b:List UInt8) (c:UInt8) (h:base≤QZ c): ∀ n,XK base n (a++c::b)=none:=by
 induction a with
 | nil=>intro n;simp [XK,h]
 | cons d a ih=>intro n;simp only [List.cons_append,XK];split; · rfl
                exact ih _
def Jcx (base:Nat) (s:ByteArray) (k:Nat):Option Nat:=XK base 0 (s.data.toList.take k)
theorem Jjj (base:Nat) (s:ByteArray) (k:Nat) (hk:k<s.size):Jcx base s (k+1)=(Jcx base s k).bind fun m=>if base≤QZ s[k] then none else some (m * base+QZ s[k]):=by
 have hl:k<s.data.toList.length:=by simpa using hk
 unfold Jcx;rw [List.take_succ_eq_append_getElem hl,Jfv];rfl
theorem Jji (base:Nat) (s:ByteArray) (k:Nat) (hk:k<s.size) (h:base≤QZ s[k]):XK base 0 s.data.toList=none:=by
 have hl:k<s.data.toList.length:=by simpa using hk
 have e:s.data.toList=s.data.toList.take k++s[k]::s.data.toList.drop (k+1):=by
  conv=>lhs;rw [←List.take_append_drop k s.data.toList]
  rw [List.drop_eq_getElem_cons hl];rfl
 rw [e];exact JpP base _ _ _ h 0
theorem Jk3 (base:Nat) (s:ByteArray):Jcx base s s.size=XK base 0 s.data.toList:=by
 unfold Jcx;rw [List.take_of_length_le (by exact Nat.le_of_eq Array.length_toList)]
theorem Jmp {base:Nat} {s:ByteArray} {k m:Nat} (hb:1≤base) {most:Nat} (hk:k≤most) (h:Jcx base s k=some m):m<base ^ most:=by
 have:=JfY base _ _ _ h;have h2:base ^ (s.data.toList.take k).length≤base ^ most:=Nat.pow_le_pow_right hb (by rw [List.length_take];omega);simp at this;simp at h2;omega
theorem JpR (s:ByteArray) (hs:s.size≤6) (hs1:1≤s.size) (w:World):
  Calls Tryz.prog 339 #[.string s,.int .i64 16,.int .i64 6] w fun e w'=>e=ans (XK 16 0 s.data.toList)∧w'=w:=by
 go_enter Tryz.func339,Tryz.ntmps339;go_wp2_with fail
 go_loop [8,9] (fun n i=> ∃ k m:Nat,k≤s.size∧i=.int .i64 k∧n=.int .i64 m∧Hid (Jcx 16 s k=some m)) (fun _ i=>s.size - (intOf i).toNat)
 case atStart=>exact ⟨0,0,by omega,rfl,rfl,by simp [Hid,Jcx,XK]⟩
 case round=>
  obtain ⟨k,m,hk,rfl,rfl,hu⟩:=hrel;have hlt:=Jmp (by omega) (by omega:k≤6) hu;by_cases hks:k<s.size
  ·have hsu:=Jjj 16 s k hks;rw [hu.out] at hsu;have hd:=JfT s[k];by_cases hdb:16≤QZ s[k]
   ·have hst:=Ja (Jji 16 s k hks hdb);clear hsu;go_wp2_with (go_at_call 340;refine (Jdm _ _).mono ?_;rintro e w' ⟨rfl,rfl⟩)
    go_ret2
    rw [hst.out];exact ⟨rfl,rfl⟩
   ·have hsu':Hid (Jcx 16 s (k+1)=some (m * 16+QZ s[k])):=by rw [Hid,hsu,Option.bind_some,if_neg hdb]
    clear hsu;go_wp2_with (go_at_call 340;refine (Jdm _ _).mono ?_;rintro e w' ⟨rfl,rfl⟩)
    go_round
    case rel=>exact ⟨k+1,m * 16+QZ s[k],by omega,by go_num,by go_num,hsu'⟩
    case measure=>simp [intOf];omega
  ·have he:Hid (XK 16 0 s.data.toList=some m):=by
    rw [Hid, ←Jk3,show s.size=k from by omega];exact hu
   go_wp2
   go_ret2
   rw [he.out];exact ⟨rfl,rfl⟩
theorem JpQ (s:ByteArray) (hs:s.size≤7) (hs1:1≤s.size) (w:World):
  Calls Tryz.prog 339 #[.string s,.int .i64 10,.int .i64 7] w fun e w'=>e=ans (XK 10 0 s.data.toList)∧w'=w:=by
 go_enter Tryz.func339,Tryz.ntmps339;go_wp2_with fail
 go_loop [8,9] (fun n i=> ∃ k m:Nat,k≤s.size∧i=.int .i64 k∧n=.int .i64 m∧Hid (Jcx 10 s k=some m)) (fun _ i=>s.size - (intOf i).toNat)
 case atStart=>exact ⟨0,0,by omega,rfl,rfl,by simp [Hid,Jcx,XK]⟩
 case round=>
  obtain ⟨k,m,hk,rfl,rfl,hu⟩:=hrel;have hlt:=Jmp (by omega) (by omega:k≤7) hu;by_cases hks:k<s.size
  ·have hsu:=Jjj 10 s k hks;rw [hu.out] at hsu;have hd:=JfT s[k];by_cases hdb:10≤QZ s[k]
   ·have hst:=Ja (Jji 10 s k hks hdb);clear hsu;go_wp2_with (go_at_call 340;refine (Jdm _ _).mono ?_;rintro e w' ⟨rfl,rfl⟩)
    go_ret2
    rw [hst.out];exact ⟨rfl,rfl⟩
   ·have hsu':Hid (Jcx 10 s (k+1)=some (m * 10+QZ s[k])):=by rw [Hid,hsu,Option.bind_some,if_neg hdb]
    clear hsu;go_wp2_with (go_at_call 340;refine (Jdm _ _).mono ?_;rintro e w' ⟨rfl,rfl⟩)
    go_round
    case rel=>exact ⟨k+1,m * 10+QZ s[k],by omega,by go_num,by go_num,hsu'⟩
    case measure=>simp [intOf];omega
  ·have he:Hid (XK 10 0 s.data.toList=some m):=by
    rw [Hid, ←Jk3,show s.size=k from by omega];exact hu
   go_wp2
   go_ret2
   rw [he.out];exact ⟨rfl,rfl⟩
theorem JhF (s:ByteArray) (base most:Nat) (hb:base=16∧most=6∨base=10∧most=7) (hs:s.size≤3000) (w:World):
  Calls Tryz.prog 339 #[.string s,.int .i64 base,.int .i64 most] w fun e w'=>e=ans (YF base most s.data.toList)∧w'=w:=by
 have hl:s.data.toList.length=s.size:=Array.length_toList;by_cases h1:s.size<1
 ·have hz:YF base most s.data.toList=none:=by unfold YF;rw [if_pos];omega
  rw [hz];rcases hb with ⟨rfl,rfl⟩ | ⟨rfl,rfl⟩
  all_goals
   go_enter Tryz.func339,Tryz.ntmps339
   go_wp2
   go_ret2
   exact ⟨rfl,rfl⟩
 by_cases h2:most<s.size
 ·have hz:YF base most s.data.toList=none:=by unfold YF;rw [if_pos];omega
  rw [hz];rcases hb with ⟨rfl,rfl⟩ | ⟨rfl,rfl⟩
  all_goals
   go_enter Tryz.func339,Tryz.ntmps339
   go_wp2
   go_ret2
   exact ⟨rfl,rfl⟩
 have hz:YF base most s.data.toList=XK base 0 s.data.toList:=by unfold YF;rw [if_neg];omega
 rw [hz];rcases hb with ⟨rfl,rfl⟩ | ⟨rfl,rfl⟩
 ·exact JpR s (by omega) (by omega) w
 ·exact JpQ s (by omega) (by omega) w
theorem Js7 (s:ByteArray):QU s.data.toList=
  if (s.toList==[97,109,112])=true then some 38
  else if (s.toList==[108,116])=true then some 60
  else if (s.toList==[103,116])=true then some 62
  else if (s.toList==[113,117,111,116])=true then some 34
  else if (s.toList==[97,112,111,115])=true then some 39
  else if Lib.hasPrefix s.data.toList [35,120]=true then YF 16 6 (s.data.toList.drop 2)
  else if Lib.hasPrefix s.data.toList [35]=true then YF 10 7 (s.data.toList.drop 1)
  else none:=by
 rw [ByteArray.toList_eq];generalize s.data.toList=l;by_cases h1:l=[97,109,112]
 ·simp [QU,h1]
 by_cases h2:l=[108,116]
 ·simp [QU,h2]
 by_cases h3:l=[103,116]
 ·simp [QU,h3]
 by_cases h4:l=[113,117,111,116]
 ·simp [QU,h4]
 by_cases h5:l=[97,112,111,115]
 ·simp [QU,h5]
 simp [QU,Lib.hasPrefix,h1,h2,h3,h4,h5]
theorem Jgq {s:ByteArray} {p:List UInt8} (h:Lib.hasPrefix s.data.toList p=true):p.length≤s.size:=by
 have:=List.IsPrefix.length_le (List.isPrefixOf_iff_prefix.1 h);simpa using this
theorem Jsf (s:ByteArray) (hs:s.size≤3000) (w:World):
  Calls Tryz.prog 328 #[.string s] w fun e w'=>e=ans (QU s.data.toList)∧w'=w:=by
 have hx2:(s.extract 2 s.size).data.toList=s.data.toList.drop 2:=Lib.extract_to_end s 2;have hx1:(s.extract 1 s.size).data.toList=s.data.toList.drop 1:=Lib.extract_to_end s 1;have hn2: ∀ w,Calls Tryz.prog 339 #[.string (s.extract 2 s.size),.int .i64 16,.int .i64 6] w fun e w'=>e=ans (YF 16 6 (s.data.toList.drop 2))∧w'=w:=fun w=>hx2 ▸ JhF (s.extract 2 s.size) 16 6 (by simp) (by simp;omega) w;have hn1: ∀ w,Calls Tryz.prog 339 #[.string (s.extract 1 s.size),.int .i64 10,.int .i64 7] w fun e w'=>e=ans (YF 10 7 (s.data.toList.drop 1))∧w'=w:=fun w=>hx1 ▸ JhF (s.extract 1 s.size) 10 7 (by simp) (by simp;omega) w;have H2:=Ja hn2;have H1:=Ja hn1;clear hn1 hn2 hx1 hx2;rw [Js7];cases hp2:Lib.hasPrefix s.data.toList [35,120]
 ·cases hp1:Lib.hasPrefix s.data.toList [35]
  ·go_enter Tryz.func328,Tryz.ntmps328;go_wp2_with (first | (go_at_call 220;refine (Tryz.strings_HasPrefix _ _ _).mono ?_;rintro e w' ⟨rfl,rfl⟩) | fail)
   all_goals go_ret2
   all_goals (simp [ans, *])
  ·have hz:=Jgq hp1;simp only [List.length_cons,List.length_nil] at hz;go_enter Tryz.func328,Tryz.ntmps328;go_wp2_with (first | (go_at_call 220;refine (Tryz.strings_HasPrefix _ _ _).mono ?_;rintro e w' ⟨rfl,rfl⟩) | (go_at_call 339;refine (H1.out _).mono ?_;rintro e w' ⟨rfl,rfl⟩;unfold ans))
   all_goals go_ret2
   all_goals (simp [ans, *])
 ·have hz:=Jgq hp2;simp only [List.length_cons,List.length_nil] at hz;go_enter Tryz.func328,Tryz.ntmps328;go_wp2_with (first | (go_at_call 220;refine (Tryz.strings_HasPrefix _ _ _).mono ?_;rintro e w' ⟨rfl,rfl⟩) | (go_at_call 339;refine (H2.out _).mono ?_;rintro e w' ⟨rfl,rfl⟩;unfold ans))
  all_goals go_ret2
  all_goals (simp [ans, *])
theorem JC {f:FuncId} {fn:Func} (hf:Tryz.prog.funcs[f]?=some fn) (hname:(fn.name== "runtime.NumGoroutine")=false) (hb:fn.body.isSome=true):Jy f:=by
 intro args w;obtain ⟨c,hc⟩:=Option.isSome_iff_exists.1 hb;have h1:fn.name≠ "runtime.NumGoroutine" :=by simpa using hname
 simp [callFunc,hf,h1,hc]
theorem Jo6:Jy 262:=JC Tryz.func262 (by kernel_rfl) (by kernel_rfl)
theorem Jpe:Jy 327:=JC Tryz.func327 (by kernel_rfl) (by kernel_rfl)
def Xz (s:ByteArray) (k:Nat):Nat:=XO QT (s.data.toList.drop k)
theorem JhH (b:Nat) (s:ByteArray) (k:Nat) (w:World) (hs:s.size≤3000) (hT:Jf w b s k) (hk:k≤s.size):
  Calls Tryz.prog 158 #[.pointer (some ⟨b,0,none⟩),.func (.func 327) #[] #[]] w fun e w'=>
   e=.returned (.string (s.extract k (k+Xz s k)))∧Jf w' b s (k+Xz s k)∧Jb [b] w w':=
 JbW 327 #[] QT b s k w hs hT hk Jpe fun c w1 _=>(JmX c w1).mono fun _ _ ⟨he,hw⟩=>⟨he,0,hw⟩
theorem Jnf (s:ByteArray) (k:Nat) (hk:k≤s.size):k+Xz s k≤s.size:=by
 have h1:(s.data.toList.drop k).length=s.size - k:=by rw [List.length_drop];rfl
 have h2:Xz s k≤(s.data.toList.drop k).length:=(List.takeWhile_sublist _).length_le;omega
theorem Jka (s:ByteArray) (k:Nat):(s.extract k (k+Xz s k)).data.toList=(s.data.toList.drop k).takeWhile QT:=by
 rw [Lib.extract_data,Nat.add_sub_cancel_left];exact (List.prefix_iff_eq_take.1 (List.takeWhile_prefix _)).symm
theorem JdJ (s:ByteArray) (k:Nat) (hk:k<s.size):s.data.toList[k]?=some (Jr s k):=by
 have hl:k<s.data.toList.length:=by simpa using hk
 rw [Jr,List.getD_eq_getElem?_getD,List.getElem?_eq_getElem hl];rfl
theorem Jqs (s:ByteArray) (k:Nat) (h:s.size≤k+Xz s k):QK (s.data.toList.drop k)=none:=by
 unfold QK;rw [if_neg];rw [List.getElem?_drop,List.getElem?_eq_none (by exact h)];simp
theorem JlR (s:ByteArray) (k:Nat) (h:k+Xz s k<s.size) (hc:Jr s (k+Xz s k)≠59):QK (s.data.toList.drop k)=none:=by
 unfold QK;rw [if_neg];rw [List.getElem?_drop];intro he;have:=(JdJ s _ h).symm.trans he;exact hc (by simpa using this)
theorem JnL (s:ByteArray) (k:Nat) (h:k+Xz s k<s.size) (hc:Jr s (k+Xz s k)=59):
  QK (s.data.toList.drop k)=(QU (s.extract k (k+Xz s k)).data.toList).map fun n=>(n,Xz s k+1):=by
 unfold QK;rw [if_pos,Jka]
 ·rfl
 ·rw [List.getElem?_drop];have:=JdJ s _ h;rw [hc] at this;exact this
theorem JrZ (b:Nat) (s:ByteArray) (k:Nat) (w:World) (hs:s.size≤3000) (hT:Jf w b s k) (hk:k<s.size):
  Calls Tryz.prog 306 #[.pointer (some ⟨b,0,none⟩)] w fun e w'=>
   ((∃ n m,QK (s.data.toList.drop (k+1))=some (n,m)∧e=.returned (.int .i64 (n:Nat))∧Jf w' b s (k+1+m))∨(QK (s.data.toList.drop (k+1))=none∧e=.panicked Yp∧ ∃ j,Jf w' b s j))∧Jb [b] w w':=by
 have hle:=Jnf s (k+1) (by omega);by_cases hin:k+1+Xz s (k+1)<s.size
 ·by_cases hc:Jr s (k+1+Xz s (k+1))=59
  ·have he:=JnL s (k+1) hin hc;have hsz:(s.extract (k+1) (k+1+Xz s (k+1))).size≤3000:=by simp;omega
   have htold:=Ja fun w=>Jsf _ hsz w;cases ht:QU (s.extract (k+1) (k+1+Xz s (k+1))).data.toList with
   | none=>
     rw [ht] at he htold;have HE:=Ja he;clear he ht;go_enter Tryz.func306,Tryz.ntmps306;go_wp2_with fail;refine (Q2 b s k _ hs hT hk).mono ?_;rintro e w1 ⟨rfl,hT1,hk1⟩;go_wp2_with fail;refine (JhH b s (k+1) _ hs hT1 (by omega)).mono ?_;rintro e w2 ⟨rfl,hT2,hk2⟩;go_wp2_with fail;refine (Q2 b s _ _ hs hT2 hin).mono ?_;rintro e w3 ⟨rfl,hT3,hk3⟩;rw [hc];go_wp2_with fail;refine (htold.out _).mono ?_;rintro e w4 ⟨rfl,rfl⟩;unfold ans;go_wp2_with fail;refine (Zq _).mono ?_;rintro e w5 ⟨rfl,rfl⟩;go_wp2_with fail;exact ⟨rfl,.inr ⟨HE.out,rfl,_,hT3⟩,(hk1.trans hk2).trans hk3⟩
   | some n=>
     rw [ht] at he htold;have HE:=Ja he;clear he ht;go_enter Tryz.func306,Tryz.ntmps306;go_wp2_with fail;refine (Q2 b s k _ hs hT hk).mono ?_;rintro e w1 ⟨rfl,hT1,hk1⟩;go_wp2_with fail;refine (JhH b s (k+1) _ hs hT1 (by omega)).mono ?_;rintro e w2 ⟨rfl,hT2,hk2⟩;go_wp2_with fail;refine (Q2 b s _ _ hs hT2 hin).mono ?_;rintro e w3 ⟨rfl,hT3,hk3⟩;rw [hc];go_wp2_with fail;refine (htold.out _).mono ?_;rintro e w4 ⟨rfl,rfl⟩;unfold ans;go_wp2_with fail;go_ret;exact ⟨.inl ⟨n,Xz s (k+1)+1,HE.out,rfl,hT3⟩,(hk1.trans hk2).trans hk3⟩
  ·have HE:=Ja (JlR s (k+1) hin hc);have hne:((Jr s (k+1+Xz s (k+1))).toNat:Int) != 59:=by
    have:=YM (Jr s (k+1+Xz s (k+1))) 59;rw [show ((59:UInt8).toNat:Int)=59 from rfl] at this;rw [this];simpa using hc
   go_enter Tryz.func306,Tryz.ntmps306;go_wp2_with fail;refine (Q2 b s k _ hs hT hk).mono ?_;rintro e w1 ⟨rfl,hT1,hk1⟩;go_wp2_with fail;refine (JhH b s (k+1) _ hs hT1 (by omega)).mono ?_;rintro e w2 ⟨rfl,hT2,hk2⟩;go_wp2_with fail;refine (Q2 b s _ _ hs hT2 hin).mono ?_;rintro e w3 ⟨rfl,hT3,hk3⟩;go_wp2_with fail;refine (Zq _).mono ?_;rintro e w5 ⟨rfl,rfl⟩;go_wp2_with fail;exact ⟨rfl,.inr ⟨HE.out,rfl,_,hT3⟩,(hk1.trans hk2).trans hk3⟩
 ·have HE:=Ja (Jqs s (k+1) (by omega));go_enter Tryz.func306,Tryz.ntmps306;go_wp2_with fail;refine (Q2 b s k _ hs hT hk).mono ?_;rintro e w1 ⟨rfl,hT1,hk1⟩;go_wp2_with fail;refine (JhH b s (k+1) _ hs hT1 (by omega)).mono ?_;rintro e w2 ⟨rfl,hT2,hk2⟩;go_wp2_with fail;refine (Jkx b s _ _ hT2 (by omega)).mono ?_;rintro e w3 ⟨rfl,n,rfl⟩;go_wp2_with fail;exact ⟨rfl,.inr ⟨HE.out,rfl,_,hT2⟩,(hk1.trans hk2).drewN _⟩
theorem JI {w:World} {a:Addr} (h:a.block<w.heap.size) (o:Obj):(w.alloc o).cell? a=w.cell? a:=World.cell?_of_block (Below.heap_alloc w o _ h)
theorem Jlp {w:World} {a:Addr} (h:a.block<w.heap.size) (o:Obj):(w.alloc o).frozen? a=w.frozen? a:=World.frozen?_of_block (Below.heap_alloc w o _ h)
theorem Yi (w:World) (o1 o2:Obj):((w.alloc o1).alloc o2).heap[w.heap.size]?=some o1:=(Below.heap_alloc (w.alloc o1) o2 w.heap.size (by simp)).trans (heap_alloc_new w o1)
theorem Yj (w:World) (o1 o2:Obj):((w.alloc o1).alloc o2).heap[w.heap.size+1]?=some o2:=by
 have:=heap_alloc_new (w.alloc o1) o2
 rwa [show (w.alloc o1).heap.size=w.heap.size+1 from by simp] at this
theorem ZD (w:World) (o1 o2:Obj):((w.alloc o1).alloc o2).heap.size=w.heap.size+2:=by simp
theorem JpB (x y n:Value):(#[x,y]++((Array.replicate 18 undef).setIfInBounds 3 n).setIfInBounds 0 n)=#[x,y,n,undef,undef,n,undef,undef,undef,undef,undef,undef,undef,undef,undef,undef,undef,undef,undef,undef]:=by kernel_rfl
theorem Jg5 (p q:Addr) (w:World):
  CallsD Tryz.prog 151 #[.pointer (some p),.pointer (some q)] .returning w fun e u' w'=>e=.returned (.tuple #[])∧u'=.returning∧w'=w:=by
 refine callsD_of_wpS Tryz.func151 rfl fun c₀ cs hu=>?_;apply wpS_seq;apply wpS_region;simp [wpOpsS,go_sem,recoverD,hu,Tryz.ntmps151,Exit.thenS];rw [JpB];refine wpS_of_wp ?_
 go_wp2
 cases c₀
 simp_all [bodyPostS,results,Tryz.results151]
theorem JqX (w:World):(Instr.typeAssert (.iface 183 (.agg #[])) 20 183 true).run Tryz.prog w=.ok (.tuple #[.agg #[],.bool true]) w:=by kernel_rfl
set_option maxRecDepth 100000 in
theorem Jdi (b:Nat) (s:ByteArray) (k j pf pt:Nat) (w:World) (hT:Jf w b s j) (hf:w.heap[pf]?=some (.cells #[.int .i64 (k:Int)] 3 (0,0))) (ht:w.heap[pt]?=some (.cells #[.pointer (some ⟨b,0,none⟩)] 105 (0,0))):
  CallsD Tryz.prog 151 #[.pointer (some ⟨pf,0,none⟩),.pointer (some ⟨pt,0,none⟩)] (.panicking Yp) w fun e u' w'=>
   e=.returned (.tuple #[])∧u'=.panicking [{ v:=.iface 183 (.agg #[]),recovered:=true }]∧Jf w' b s k∧Jb [b] w w':=by
 refine callsD_of_wpS Tryz.func151 rfl fun c₀ cs hu=>?_;unfold Yp at hu;have ct: ∀ o,(w.alloc o).cell? ⟨pt,0,none⟩=some (.pointer (some ⟨b,0,none⟩)):=fun o=>(JI (lt_of_block ht) o).trans (cell_of_one ht);have cf: ∀ o,(w.alloc o).cell? ⟨pf,0,none⟩=some (.int .i64 (k:Int)):=fun o=>(JI (lt_of_block hf) o).trans (cell_of_one hf);have f1: ∀ o,(w.alloc o).frozen? ⟨b,1,none⟩=false:=fun o=>(Jlp hT.lt o).trans hT.free1;have c1: ∀ o,(w.alloc o).cell? ⟨b,1,none⟩=some (.int .i64 (j:Int)):=fun o=>(JI hT.lt o).trans hT.cell1;have hta:=JqX;apply wpS_seq;apply wpS_region;simp [wpOpsS,go_sem,recoverD,hu,Tryz.ntmps151,Exit.thenS];rw [JpB];clear hu;refine wpS_of_wp ?_
 go_wp2
 exact ⟨rfl,_,rfl,.tuple #[],by simp [results,Tryz.results151],rfl,rfl,(hT.keeps ((Jb.refl [] w).alloc _) (by simp)).set k,((Jb.refl [b] w).alloc _).setCell (by simp) _⟩
set_option maxRecDepth 100000 in
theorem Jmo (K:Nat) (caps:Array Value) (Yes No:World→Prop) (S:List Nat) (b:Nat) (s:ByteArray) (k:Nat) (w:World) (hT:Jf w b s k) (hK:Jy K) (hb:b∈S) (hS: ∀ i,i∈S→i<w.heap.size) (hNo: ∀ w2 w3,No w2→Jb [b] w2 w3→No w3)
  (hread: ∀ w1,Jb [] w w1→Calls Tryz.prog K caps w1 fun e w2=>(e=.returned (.tuple #[])∧Yes w2∨e=.panicked Yp∧No w2∧ ∃ j,Jf w2 b s j)∧Jb S w1 w2):
  Calls Tryz.prog 78 #[.pointer (some ⟨b,0,none⟩),.func (.func K) #[] caps] w fun e w'=>
   (e=.returned (.bool true)∧Yes w'∨e=.returned (.bool false)∧No w'∧Jf w' b s k)∧Jb S w w':=by
 have hmf: ∀ (fn:Fn) (first cap:Array Value) (w:World),(Instr.makeFunc fn first cap).run Tryz.prog w=.ok (.func fn first cap) w:=fun _ _ _ _=>rfl;have hK':=hK;unfold Jy at hK';have c1: ∀ o,(w.alloc o).cell? ⟨b,1,none⟩=some (.int .i64 (k:Int)):=fun o=>(JI hT.lt o).trans hT.cell1;have hkS: ∀ w2,Jb S ((w.alloc (.cells #[.pointer (some ⟨b,0,none⟩)] 105)).alloc (.cells #[.int .i64 (k:Int)] 3)) w2→Jb S w w2:=fun w2 h=>(((Jb.refl S w).alloc _).alloc _).trans h
 go_enter_defers Tryz.func78,Tryz.ntmps78
 go_wp2_with fail;refine (hread _ (((Jb.refl [] w).alloc _).alloc _)).mono ?_;rintro e w2 ⟨⟨rfl,hy⟩ | ⟨rfl,hno,j,hj⟩,hk⟩
 ·go_wp2_with fail;refine leaves_cons (f:=151) (args:=#[.pointer (some ⟨w.heap.size+1,0,none⟩),.pointer (some ⟨w.heap.size,0,none⟩)]) (by simp) (by simp [go_sem]) ?_;refine (Jg5 _ _ _).mono ?_;rintro e u' w3 ⟨rfl,rfl,rfl⟩;exact ⟨_,results_tmp rfl _ _ _,.inl ⟨rfl,hy⟩,hkS _ hk⟩
 ·go_wp2_with fail;refine leaves_cons (f:=151) (args:=#[.pointer (some ⟨w.heap.size+1,0,none⟩),.pointer (some ⟨w.heap.size,0,none⟩)]) (by simp) (by simp [go_sem]) ?_;refine (Jdi b s k j (w.heap.size+1) w.heap.size _ hj ?_ ?_).mono ?_
  ·rw [hk.block _ (by rw [ZD];omega) (fun h=>by have:=hS _ h;omega)];exact Yj _ _ _
  ·rw [hk.block _ (by rw [ZD];omega) (fun h=>by have:=hS _ h;omega)];exact Yi _ _ _
  rintro e u' w3 ⟨rfl,rfl,hT3,hk3⟩;exact ⟨_,results_tmp rfl _ _ _,.inr ⟨rfl,hNo _ _ hno hk3,hT3⟩,(hkS _ hk).trans (hk3.mono fun i hi _=>by simp at hi;subst hi;exact hb)⟩
theorem Jtz (b:Nat) (s:ByteArray) (k bx cd:Nat) (w:World) (hs:s.size≤3000) (hT:Jf w b s k) (hk:k<s.size)
  (hbx:w.heap[bx]?=some (.cells #[.pointer (some ⟨b,0,none⟩)] 105 (0,0))) (hcd:w.heap[cd]?=some (.cells #[.int .i64 0] 3 (0,0))):
  Calls Tryz.prog 305 #[.pointer (some ⟨bx,0,none⟩),.pointer (some ⟨cd,0,none⟩)] w fun e w'=>
   (e=.returned (.tuple #[])∧(∃ n m,QK (s.data.toList.drop (k+1))=some (n,m)∧Jf w' b s (k+1+m)∧w'.heap[cd]?=some (.cells #[.int .i64 (n:Nat)] 3 (0,0)))∨
     e=.panicked Yp∧QK (s.data.toList.drop (k+1))=none∧ ∃ j,Jf w' b s j)∧Jb [b,cd] w w':=by
 have cb:=cell_of_one hbx;have hne:cd≠b:=by
  intro h;subst h;rw [Jf,hcd] at hT;simp at hT
 go_enter Tryz.func305,Tryz.ntmps305;go_wp2_with fail;refine (JrZ b s k _ hs hT hk).mono ?_;rintro e w1 ⟨⟨n,m,he,rfl,hT1⟩ | ⟨he,rfl,hT1⟩,hk1⟩
 ·have hcd1:w1.heap[cd]?=some (.cells #[.int .i64 0] 3 (0,0)):=by rw [hk1.block cd (lt_of_block hcd) (by simpa using hne)];exact hcd
  have fc:=free_of_one hcd1;have cc:=cell_of_one hcd1;have HE:=Ja he;clear he;go_wp2_with fail
  go_end0
  exact ⟨.inl ⟨rfl,n,m,HE.out,hT1.keeps ((Jb.refl [cd] w1).setCell (by simp) _) (by simpa using Ne.symm hne),one_setCell hcd1⟩,(hk1.mono fun i hi _=>by simp at hi;simp [hi]).setCell (by simp) _⟩
 ·go_wp2_with fail;exact ⟨rfl,.inr ⟨rfl,he,hT1⟩,hk1.mono fun i hi _=>by simp at hi;simp [hi]⟩
theorem Jpc:Jy 305:=JC Tryz.func305 (by kernel_rfl) (by kernel_rfl)
theorem Tryz.info5:(Tryz.prog.info? 5).map (fun i=>(i.zero,i.size,i.bytes))=some (some (.int .u8 0),1,1):=by kernel_rfl
theorem Jqo {w:World} {B:Nat} {v:Value} {n:Nat} {xs:List Value} {b:Nat} {s:ByteArray} {k:Nat} (ho:w.ownsRow B 5 1 v n xs) (hT:Jf w b s k): ∀ g,v.ownBlock=some g→g≠b:=by
 intro g hg h;subst h;rcases ho.2 with ⟨rfl,_⟩ | ⟨g',cap,cur,rfl,_,hh,_⟩
 ·simp [Value.ownBlock] at hg
 ·simp [Value.ownBlock] at hg;subst hg;rw [Jf,hh] at hT;simp at hT
theorem Js8 (b:Nat) (s:ByteArray) (k:Nat) (w:World) (B:Nat) (v:Value) (n:Nat) (xs:List Value) (hs:s.size≤3000) (hT:Jf w b s k) (hk:k<s.size) (ho:w.ownsRow B 5 1 v n xs):
  Calls Tryz.prog 78 #[.pointer (some ⟨b,0,none⟩),.func (.func 305) #[] #[.pointer (some ⟨w.heap.size,0,none⟩),.pointer (some ⟨w.heap.size+1,0,none⟩)]]
   ((w.alloc (.cells #[.pointer (some ⟨b,0,none⟩)] 105)).alloc (.cells #[.int .i64 0] 3)) fun e w2=>
   (e=.returned (.bool true)∧(∃ c m,QK (s.data.toList.drop (k+1))=some (c,m)∧Jf w2 b s (k+1+m)∧w2.heap[w.heap.size+1]?=some (.cells #[.int .i64 (c:Nat)] 3 (0,0)))∨
     e=.returned (.bool false)∧QK (s.data.toList.drop (k+1))=none∧Jf w2 b s k)∧
   w2.heap[w.heap.size]?=some (.cells #[.pointer (some ⟨b,0,none⟩)] 105 (0,0))∧w2.ownsRow B 5 1 v n xs∧Jb [b] w w2:=by
 have hlt:=hT.lt;have hk0:Jb [] w ((w.alloc (.cells #[.pointer (some ⟨b,0,none⟩)] 105)).alloc (.cells #[.int .i64 0] 3)):=((Jb.refl [] w).alloc _).alloc _
 refine (Jmo 305 _ (fun w2=> ∃ c m,QK (s.data.toList.drop (k+1))=some (c,m)∧Jf w2 b s (k+1+m)∧w2.heap[w.heap.size+1]?=some (.cells #[.int .i64 (c:Nat)] 3 (0,0)))
  (fun _=>QK (s.data.toList.drop (k+1))=none) [b,w.heap.size+1] b s k _ (hT.keeps hk0 (by simp)) Jpc (by simp) ?_ (fun _ _ h _=>h) ?_).mono ?_
 ·intro i hi;rw [ZD];simp at hi;omega
 ·intro w1 hk1;refine Jtz b s k w.heap.size (w.heap.size+1) w1 hs ((hT.keeps hk0 (by simp)).keeps hk1 (by simp)) hk ?_ ?_
  ·rw [hk1.block _ (by rw [ZD];omega) (by simp)];exact Yi _ _ _
  ·rw [hk1.block _ (by rw [ZD];omega) (by simp)];exact Yj _ _ _
 ·rintro e w2 ⟨h1,h2⟩;refine ⟨h1,?_,?_,?_⟩
  ·rw [h2.block _ (by rw [ZD];omega) (by simp;omega)];exact Yi _ _ _
  ·refine h2.owns (hk0.owns ho (by simp)) ?_;intro g hg;have h3:=Jqo ho hT g hg;have h4:=(ho.lt g hg).2;simp;omega
  ·exact ⟨h2.os,h2.tape,h2.output,Nat.le_trans hk0.size h2.size,fun i hi hS=>(h2.block i (by rw [ZD];omega) (by simp at hS ⊢;omega)).trans (hk0.block i hi (by simp))⟩
theorem JkP {s:ByteArray} {k:Nat} (hk:k<s.size) (h:QK (s.data.toList.drop (k+1))=none):JV (s.data.toList.drop k)=([Jr s k],1,false):=by
 have hl:k<s.data.toList.length:=by simpa using hk
 unfold JV;rw [List.drop_drop,h];rw [List.drop_eq_getElem_cons hl];simp [Jr,List.getElem?_eq_getElem hl]
theorem JkQ {s:ByteArray} {k c m:Nat} (h:QK (s.data.toList.drop (k+1))=some (c,m)):
  JV (s.data.toList.drop k)=if Q3 c then (Lib.encodeRune c,1+m,true) else (Lib.encodeRune 65533,1+m,false):=by
 unfold JV;rw [List.drop_drop,h]
theorem JbV {b:Nat} {s:ByteArray} {q:Nat} {v:Value} {w w2 w4:World} {o:Obj} (hk2:Jb [b] w w2) (hT2:Jf w2 b s q) (hg:(w2.alloc o).grownBy w4 v.ownBlock) (hrow: ∀ g,v.ownBlock=some g→g≠b):
  Jf w4 b s q∧Jb (b::v.ownBlock.toList) w w4:=by
 have k1:Jb v.ownBlock.toList w2 w4:=((Jb.refl _ w2).alloc o).grown hg (fun k e=>.inl (by simp [e]));refine ⟨hT2.keeps k1 ?_,(hk2.mono fun i hi _=>by simp at hi;simp [hi]).trans (k1.mono fun i hi _=>by simp [hi])⟩;intro h;simp at h;exact hrow b h rfl
theorem JkA {w:World} {B:Nat} {v:Value} {n:Nat} {xs:List Value} {r:Int} (h:w.ownsRow B 5 1 v (n+(Lib.runeCells r).length) (xs++Lib.runeCells r)):
  w.ownsRow B 5 1 v (n+(Lib.encodeRune r).length) (xs++Lib.byteCells (Lib.encodeRune r)):=by
 rw [Lib.byteCells_encodeRune, ←Lib.runeCells_length];exact h
theorem JkR (b:Nat) (s:ByteArray) (k:Nat) (w:World) (B:Nat) (v:Value) (n:Nat) (xs:List Value) (hs:s.size≤3000) (hT:Jf w b s k) (hk:k<s.size)
  (ho:w.ownsRow B 5 1 v n xs) (hn:n≤100000) (hB:B≤w.heap.size):
  Calls Tryz.prog 261 #[.pointer (some ⟨b,0,none⟩),v] w fun e w'=>
   ∃ v',e=.returned (.tuple #[v',.bool (JV (s.data.toList.drop k)).2.2])∧
    w'.ownsRow B 5 1 v' (n+(JV (s.data.toList.drop k)).1.length) (xs++Lib.byteCells (JV (s.data.toList.drop k)).1)∧
    Jf w' b s (k+(JV (s.data.toList.drop k)).2.1)∧Jb (b::v.ownBlock.toList) w w':=by
 have hmf: ∀ (fn:Fn) (first cap:Array Value) (w:World),(Instr.makeFunc fn first cap).run Tryz.prog w=.ok (.func fn first cap) w:=fun _ _ _ _=>rfl;have hrow:=Jqo ho hT;obtain ⟨i0,hi,hz0,hz1,hz2⟩:=info_parts Tryz.info5;obtain ⟨T,hTk⟩: ∃ T,JV (s.data.toList.drop k)=T:=⟨_,rfl⟩;rw [hTk];have HT:=Ja hTk;clear hTk;go_enter Tryz.func261,Tryz.ntmps261;go_wp2_with fail;refine (Js8 b s k w B v n xs hs hT hk ho).mono ?_;rintro e w2 ⟨⟨rfl,c,m,he,hT2,hcd⟩ | ⟨rfl,he,hT2⟩,hbx,ho2,hk2⟩
 ·have hcc:=cell_of_one hcd;have hle:=(JkM he).2.2;have H2:=Ja (HT.out.symm.trans (JkQ he));clear he HT;cases hst:Q3 c
  ·rw [hst] at H2;go_wp2_with fail;refine (JhX c hle _).mono ?_;rintro e w3 ⟨rfl,rfl⟩;rw [hst];go_wp2_with fail;refine (Tryz.utf8_AppendRune_plain B v n xs 65533 (by omega) (by omega) _ ho2 (by omega) (Nat.le_trans hB hk2.size)).mono ?_;rintro e w4 ⟨v',rfl,ho4,o,hg4⟩;go_wp2_with fail
   go_ret2
   rw [H2.out];exact ⟨v',rfl,JkA ho4,by simp only [Bool.false_eq_true,if_false];rw [←Nat.add_assoc];exact (JbV hk2 hT2 hg4 hrow).1,(JbV hk2 hT2 hg4 hrow).2⟩
  ·rw [hst] at H2;go_wp2_with fail;refine (JhX c hle _).mono ?_;rintro e w3 ⟨rfl,rfl⟩;rw [hst];go_wp2_with fail;refine (Tryz.utf8_AppendRune_plain B v n xs c (by omega) (by omega) _ ho2 (by omega) (Nat.le_trans hB hk2.size)).mono ?_;rintro e w4 ⟨v',rfl,ho4,o,hg4⟩;go_wp2_with fail
   go_ret2
   rw [H2.out];exact ⟨v',rfl,JkA ho4,by simp only [if_true];rw [←Nat.add_assoc];exact (JbV hk2 hT2 hg4 hrow).1,(JbV hk2 hT2 hg4 hrow).2⟩
 ·have hcb:=cell_of_one hbx;have H2:=Ja (HT.out.symm.trans (JkP hk he));clear he HT;go_wp2_with fail;refine (Q2 b s k _ hs hT2 hk).mono ?_;rintro e w3 ⟨rfl,hT3,hk3⟩;have ho3:=hk3.owns ho2 (fun g hg=>by simpa using hrow g hg);have hsz3:w.heap.size≤w3.heap.size:=Nat.le_trans hk2.size hk3.size;go_wp2_with (at_builtin;refine wpList_append_own _ rfl _ _ 107 rfl B 5 i0 (.int .u8 0) 1 1 Tryz.underlying107 hi hz0 hz1 hz2 rfl (by decide) _ _ _ rfl (ho3.alloc _) ⟨w3.heap.size,0,none⟩ 1 1 [.int .u8 (Jr s k).toNat] rfl rfl ?c1 ?c2 ?c3 ?c4 ?c5 ?_)
  case c1=>
   intro j u hj
   match j,hj with
   | 0,hj=>simp at hj;subst hj;simp [Addr.add]
  case c2=>intro u hu;simp at hu;subst hu;rfl
  case c3=>unfold maxLen;omega
  case c4=>omega
  case c5=>simp;omega
  intro v' w4 ho4 hg4 _;go_wp2_with fail
  go_ret2
  rw [H2.out];exact ⟨v',rfl,ho4,(JbV (hk2.trans hk3) hT3 hg4 hrow).1,(JbV (hk2.trans hk3) hT3 hg4 hrow).2⟩
end Go.Proofs.YtlcljanibjdejaaGreat
namespace Go.Proofs.YtlcljanibjdejaaGreat
def ZC:Nat→List UInt8→List UInt8 × Bool
 | 0,_=>([],true)
 | _+1,[]=>([],true)
 | f+1,c::l=>
   if c=38 then ((JV (c::l)).1++(ZC f ((c::l).drop (JV (c::l)).2.1)).1,(JV (c::l)).2.2&&(ZC f ((c::l).drop (JV (c::l)).2.1)).2)
   else (c::(ZC f l).1,(ZC f l).2)
def JR (l:List UInt8):List UInt8 × Bool:=ZC l.length l
theorem Jez: ∀ (f g:Nat) (l:List UInt8),l.length≤f→l.length≤g→ZC f l=ZC g l
 | 0,g,l,h1,_=>by
   have:l=[]:=List.eq_nil_of_length_eq_zero (by omega);subst this;cases g<;>rfl
 | f+1,0,l,_,h2=>by
   have:l=[]:=List.eq_nil_of_length_eq_zero (by omega);subst this;rfl
 | f+1,g+1,[],_,_=>rfl
 | f+1,g+1,c::l,h1,h2=>by
   simp only [List.length_cons] at h1 h2;have hle:=JcK (c::l) (by simp);simp only [List.length_cons] at hle;have ha:=Jez f g ((c::l).drop (JV (c::l)).2.1) (by simp only [List.length_drop,List.length_cons];omega) (by simp only [List.length_drop,List.length_cons];omega);have hb:=Jez f g l (by omega) (by omega);simp only [ZC,ha,hb]
theorem Jjg:JR []=([],true):=rfl
theorem Jaf (c:UInt8) (l:List UInt8) (h:c=38):
  JR (c::l)=((JV (c::l)).1++(JR ((c::l).drop (JV (c::l)).2.1)).1,(JV (c::l)).2.2&&(JR ((c::l).drop (JV (c::l)).2.1)).2):=by
 have hle:=JcK (c::l) (by simp);simp only [List.length_cons] at hle;have e:JR ((c::l).drop (JV (c::l)).2.1)=ZC l.length ((c::l).drop (JV (c::l)).2.1):=
  Jez _ _ _ (Nat.le_refl _) (by simp only [List.length_drop,List.length_cons];omega)
 rw [e];unfold JR;rw [List.length_cons,ZC,if_pos h]
theorem JaO (c:UInt8) (l:List UInt8) (h:c≠38):JR (c::l)=(c::(JR l).1,(JR l).2):=by
 unfold JR;rw [List.length_cons,ZC,if_neg h]
theorem JhZ: ∀ l:List UInt8,JR l=(l.takeWhile ZU++(JR (l.drop (l.takeWhile ZU).length)).1,(JR (l.drop (l.takeWhile ZU).length)).2)
 | []=>by simp [Jjg]
 | c::l=>by
   by_cases h:c=38
   ·have:ZU c=false:=by simp [ZU,h]
    simp [this]
   ·have hn:ZU c=true:=by simp [ZU,h]
    rw [JaO c l h];have ih:=JhZ l;rw [ih];simp [hn]
theorem Jsa (l:List UInt8):JV (38::97::109::112::59::l)=([38],5,true):=by
 simp [JV,QK,QT,QU,Q3,Lib.encodeRune,Lib.encodeRuneZ]
theorem Js6 (l:List UInt8):JV (38::108::116::59::l)=([60],4,true):=by
 simp [JV,QK,QT,QU,Q3,Lib.encodeRune,Lib.encodeRuneZ]
theorem Js5 (l:List UInt8):JV (38::103::116::59::l)=([62],4,true):=by
 simp [JV,QK,QT,QU,Q3,Lib.encodeRune,Lib.encodeRuneZ]
theorem JqH (l:List UInt8):JV (38::113::117::111::116::59::l)=([34],6,true):=by
 simp [JV,QK,QT,QU,Q3,Lib.encodeRune,Lib.encodeRuneZ]
theorem JnT (c:UInt8) (l:List UInt8):JR (Yy c++l)=(c::(JR l).1,(JR l).2):=by
 unfold Yy;split
 ·rename_i h;subst h;simp only [List.cons_append,List.nil_append];rw [Jaf _ _ rfl,Jsa];simp
 ·split
  ·rename_i h;subst h;simp only [List.cons_append,List.nil_append];rw [Jaf _ _ rfl,Js6];simp
  ·split
   ·rename_i h;subst h;simp only [List.cons_append,List.nil_append];rw [Jaf _ _ rfl,Js5];simp
   ·split
    ·rename_i h;subst h;simp only [List.cons_append,List.nil_append];rw [Jaf _ _ rfl,JqH];simp
    ·rename_i h _ _ _;exact JaO c l h
theorem JeA: ∀ l:List UInt8,JR (J0 l)=(l,true)
 | []=>rfl
 | c::l=>by
   have:=JeA l;simp only [J0,List.flatMap_cons] at this ⊢;rw [JnT,this]
end Go.Proofs.YtlcljanibjdejaaGreat
namespace Go.Proofs.YtlcljanibjdejaaGreat
open Go.RowKit
def XP (s:ByteArray) (k:Nat):Nat:=XO ZU (s.data.toList.drop k)
theorem JpY (b:Nat) (s:ByteArray) (k:Nat) (w:World) (hs:s.size≤3000) (hT:Jf w b s k) (hk:k≤s.size):
  Calls Tryz.prog 158 #[.pointer (some ⟨b,0,none⟩),.func (.func 262) #[] #[]] w fun e w'=>
   e=.returned (.string (s.extract k (k+XP s k)))∧Jf w' b s (k+XP s k)∧Jb [b] w w':=
 JbW 262 #[] ZU b s k w hs hT hk Jo6 fun c w1 _=>(JpK c w1).mono fun _ _ ⟨he,hw⟩=>⟨he,0,hw⟩
theorem JhT (s:ByteArray) (k:Nat) (hk:k≤s.size):k+XP s k≤s.size:=by
 have h1:(s.data.toList.drop k).length=s.size - k:=by rw [List.length_drop];rfl
 have h2:XP s k≤(s.data.toList.drop k).length:=(List.takeWhile_sublist _).length_le;omega
def JcR (s:ByteArray) (k:Nat) (o:List UInt8) (r:Bool):Prop:=
 JR s.data.toList=(o++(JR (s.data.toList.drop k)).1,r&&(JR (s.data.toList.drop k)).2)∧o.length≤4 * k
theorem Jhj (s:ByteArray):JcR s 0 [] true:=by simp [JcR]
theorem Jj5 {s:ByteArray} {k:Nat} {o:List UInt8} {r:Bool} (h:JcR s k o r) (hk:s.size≤k):JR s.data.toList=(o,r):=by
 have e:=h.1;rw [List.drop_eq_nil_of_le (by exact hk),Jjg] at e;simpa using e
theorem Qz (s:ByteArray) (k:Nat) (hk:k<s.size):s.data.toList.drop k=Jr s k::s.data.toList.drop (k+1):=by
 have hl:k<s.data.toList.length:=by simpa using hk
 rw [List.drop_eq_getElem_cons hl];simp [Jr,List.getElem?_eq_getElem hl]
theorem JiE {s:ByteArray} {k:Nat} {o:List UInt8} {r:Bool} (h:JcR s k o r) (hk:k<s.size) (hc:Jr s k=38):
  JcR s (k+(JV (s.data.toList.drop k)).2.1) (o++(JV (s.data.toList.drop k)).1) (r&&(JV (s.data.toList.drop k)).2.2)∧
   1≤(JV (s.data.toList.drop k)).2.1∧k+(JV (s.data.toList.drop k)).2.1≤s.size:=by
 have hl:(s.data.toList.drop k).length=s.size - k:=by rw [List.length_drop];rfl
 have hle:=JcK (s.data.toList.drop k) (by omega);have e:=Jaf (Jr s k) (s.data.toList.drop (k+1)) hc;rw [←Qz s k hk,List.drop_drop] at e;refine ⟨⟨?_,?_⟩,hle.1,by omega⟩
 ·rw [h.1,e];simp [Bool.and_assoc]
 ·have:=h.2;simp only [List.length_append];omega
theorem JiD {s:ByteArray} {k:Nat} {o:List UInt8} {r:Bool} (h:JcR s k o r):
  JcR s (k+XP s k) (o++(s.extract k (k+XP s k)).data.toList) r:=by
 have e:=JhZ (s.data.toList.drop k);rw [List.drop_drop] at e;have ex:(s.extract k (k+XP s k)).data.toList=(s.data.toList.drop k).takeWhile ZU:=by
  rw [Lib.extract_data,Nat.add_sub_cancel_left];exact (List.prefix_iff_eq_take.1 (List.takeWhile_prefix _)).symm
 rw [ex];refine ⟨?_,?_⟩
 ·rw [h.1,e];simp only [List.append_assoc];rfl
 ·have:=h.2;simp only [List.length_append];have:((s.data.toList.drop k).takeWhile ZU).length=XP s k:=rfl;omega
theorem JlM (s:ByteArray) (k:Nat) (hk:k<s.size) (hc:Jr s k≠38):1≤XP s k:=by
 unfold XP XO;rw [Qz s k hk];have:ZU (Jr s k)=true:=by simp [ZU,hc]
 simp [this]
theorem JiV {w w':World} (h:Jb [w.heap.size] w w'):Jb [] w w':=h.mono fun k hk hlt=>by simp at hk;omega
theorem Jpz {w w':World} {row:Option Nat} (h:Jb (w.heap.size::row.toList) w w') (hr: ∀ g,row=some g→w.heap.size+1≤g):Jb [] w w':=h.mono fun k hk hlt=>by
 simp at hk;rcases hk with hk | hk
 ·omega
 ·have:=hr k hk;omega
theorem Jb.up {S:List Nat} {w w':World} (h:Jb [] w w'):Jb S w w':=h.mono fun k hk=>by simp at hk
theorem Zf {S:List Nat} {w w':World} {n:Nat} (h:Jb S (w.drewN n) w'):Jb S w w':=⟨h.os,h.tape,h.output,h.size,h.block⟩
theorem Z7 {w w':World} {row:Option Nat} (h:w.grownBy w' row):Jb row.toList w w':=(Jb.refl _ w).grown h fun k e=>.inl (by simp [e])
theorem Jar {w:World} {B:Nat} {v:Value} {l:List UInt8} (h:w.ownsRow B 5 1 v l.length (Lib.byteCells l)) (n:Nat):(convert 107 9 v).run Tryz.prog (w.drewN n)=.ok (.string ⟨l.toArray⟩) (w.drewN n):=by
 rcases h.2 with ⟨rfl,h0⟩ | ⟨g,cap,cur,rfl,hb,hg,h1,h2,h3,h4⟩
 ·have:l=[]:=List.eq_nil_of_length_eq_zero h0;subst this;rw [run_convert_bytes_string (w.drewN n) 107 9 5 none 0 0 Tryz.underlying107 Tryz.underlying5 Tryz.underlying9];simp [Conv.bytesToString];rfl
 ·refine run_convert_bytes_back (w.drewN n) 107 9 5 ⟨g,0,none⟩ cap l Tryz.underlying107 Tryz.underlying5 Tryz.underlying9 ?_;intro j hj;have:=h.cells (g:=g) rfl j (.int .u8 (l[j].toNat:Int)) (by simp [Lib.byteCells,hj]);exact this
theorem Ja7 {w:World} {B:Nat} {v:Value} {l:List UInt8} {t:ByteArray} (h:w.ownsRow B 5 1 v (l.length+t.size) (Lib.byteCells l++Lib.strCells t)):w.ownsRow B 5 1 v (l++t.data.toList).length (Lib.byteCells (l++t.data.toList)):=by
 have e1:(l++t.data.toList).length=l.length+t.size:=by rw [List.length_append];rfl
 have e2:Lib.byteCells (l++t.data.toList)=Lib.byteCells l++Lib.strCells t:=by simp [Lib.byteCells,Lib.strCells]
 rw [e1,e2];exact h
theorem Jaa {w:World} {B:Nat} {v:Value} {l t:List UInt8} (h:w.ownsRow B 5 1 v (l.length+t.length) (Lib.byteCells l++Lib.byteCells t)):w.ownsRow B 5 1 v (l++t).length (Lib.byteCells (l++t)):=by
 have e2:Lib.byteCells (l++t)=Lib.byteCells l++Lib.byteCells t:=by simp [Lib.byteCells]
 rw [List.length_append,e2];exact h
theorem JqI (s:ByteArray) (w:World) (hs:s.size≤3000):
  Calls Tryz.prog 188 #[.string s] w fun e w'=>e=.returned (.tuple #[.string ⟨(JR s.data.toList).1.toArray⟩,.bool (JR s.data.toList).2])∧Jb [] w w':=by
 obtain ⟨T,hTk⟩: ∃ T,JR s.data.toList=T:=⟨_,rfl⟩;rw [hTk];have HT:=Ja hTk;clear hTk;obtain ⟨i0,hi,hz0,hz1,hz2⟩:=info_parts Tryz.info5;go_enter Tryz.func188,Tryz.ntmps188;go_wp2_with fail;refine (JfX s _).mono ?_;rintro e w1 ⟨rfl,hw1⟩;have hT1:Jf w1 w.heap.size s 0:=by rw [hw1];exact heap_alloc_new w _
 have hk1:Jb [] w w1:=by rw [hw1];exact (Jb.refl [] w).alloc _
 have hsz1:w1.heap.size=w.heap.size+1:=by rw [hw1];simp
 have HZ:=Ja hsz1;clear hw1 hsz1;go_wp2_with (at_make;refine wpList_make_own _ rfl _ _ 107 rfl (w.heap.size+1) 5 i0 (.int .u8 0) 1 Tryz.underlying107 hi hz0 hz1 .i64 .i64 _ s.size rfl rfl rfl (by rw [hz2];omega) (by unfold maxLen;omega) (Nat.le_of_eq HZ.out.symm) ?_;intro w2 ho2 hg2);have hT2:Jf w2 w.heap.size s 0:=by rw [Jf,hg2.block _ (by have:=HZ.out;omega) (by simp)];exact hT1
 have hk2:Jb [] w w2:=hk1.grown hg2 (by simp);clear hT1 hk1 hg2
 go_loopw [3,5] (fun r v wr=> ∃ (k:Nat) (o:List UInt8) (rt:Bool),k≤s.size∧r=.bool rt∧wr.ownsRow (w.heap.size+1) 5 1 v o.length (Lib.byteCells o)∧Jf wr w.heap.size s k∧Jb [] w wr∧Hid (JcR s k o rt))
  (fun _ _ wr=>s.size - (intOf ((wr.cell? ⟨w.heap.size,1,none⟩).getD undef)).toNat)
 case atStart=>exact ⟨0,[],true,Nat.zero_le _,rfl,ho2,hT2,hk2,Jhj s⟩
 case round=>
  obtain ⟨k,o,rt,hk,rfl,ho,hT,hkp,hD⟩:=hrel;clear ho2 hT2 hk2 HZ;by_cases hlt:k<s.size
  ·have hd:decide (s.size≤k)=false:=by simp;omega
   by_cases hc:Jr s k=38
   ·have HS:=JiE hD.out hlt hc;have HD:=Ja HS.1;have hp1:=HS.2.1;have hp2:=HS.2.2;have hn:o.length≤100000:=by have:=hD.out.2;omega
    clear HS hD;go_wp2_with fail;refine (YN _ _ _ _ hT).mono ?_;rintro e w3 ⟨rfl,n,rfl⟩;go_wp2_with fail;refine (Jeq _ s k _ (by exact hT) hlt).mono ?_;rintro e w3 ⟨rfl,n,rfl⟩;rw [hc];go_wp2_with fail;refine (JkR _ s k _ (w.heap.size+1) _ _ _ hs (by exact hT) hlt (by exact ho) hn (by exact hT.lt)).mono ?_;generalize JV (s.data.toList.drop k)=T1 at *;rintro e w4 ⟨v4,rfl,ho4,hT4,hk4⟩;have hk4':Jb [] w w4:=Jpz (hkp.up.trans (Zf hk4)) (fun g hg=>(ho.lt g hg).1);have HD2:=Ja (JiD HD.out);have ho4':=Jaa ho4;have hrl:=JhT s _ hp2;have hn4:(o++T1.1).length≤100000:=by have:=HD.out.2;omega
    have hex:(s.extract (k+T1.2.1) (k+T1.2.1+XP s (k+T1.2.1))).size≤3000:=by simp;omega
    clear ho4 hk4 HD;cases rt
    all_goals
     go_wp2_with fail;refine (JpY _ s (k+T1.2.1) _ hs (by exact hT4) hp2).mono ?_;rintro e w5 ⟨rfl,hT5,hk5⟩;have hk5':Jb [] w w5:=JiV (hk4'.up.trans hk5);have ho5:=hk5.owns ho4' (fun g hg=>by have:=(ho4'.lt g hg).1;simp;omega);have hsz5:=hT5.lt;generalize s.extract (k+T1.2.1) (k+T1.2.1+XP s (k+T1.2.1))=t at *;go_wp2_with (at_builtin;refine Lib.wpList_append_own_string _ rfl _ _ 107 9 rfl (w.heap.size+1) 5 i0 Tryz.underlying107 Tryz.underlying9 hi hz0 hz1 hz2 _ _ _ rfl ho5 t rfl ?c1 ?c2 ?c3 ?_)
     case c1=>unfold maxLen;omega
     case c2=>omega
     case c3=>omega
     intro v6 w6 ho6 hg6 _;have hT6:=hT5.keeps (Z7 hg6) (fun h=>by simp at h;have:=(ho5.lt _ h).1;omega);have hk6:Jb [] w w6:=hk5'.grown hg6 (fun g hg=>.inr (by have:=(ho5.lt _ hg).1;omega));go_wp2_with fail;go_roundw
     case rel=>exact ⟨k+T1.2.1+XP s (k+T1.2.1),o++T1.1++t.data.toList,_,by omega,rfl,Ja7 (by rw [List.length_append];exact ho6),hT6,hk6,HD2⟩
     case measure=>
      rw [hT6.cell1,hT.cell1];simp only [intOf,Option.getD_some];omega
   ·have hne:(((Jr s k).toNat:Int)==38)=false:=by
     have:=JgB (Jr s k) 38;rw [show ((38:UInt8).toNat:Int)=38 from rfl] at this;rw [this];simpa using hc
    have HD:=Ja (JiD hD.out);have hp1:=JlM s k hlt hc;have hp2:=JhT s k hk;have hn:o.length≤100000:=by have:=hD.out.2;omega
    have hex:(s.extract k (k+XP s k)).size≤3000:=by simp;omega
    clear hc hD;go_wp2_with fail;refine (YN _ _ _ _ hT).mono ?_;rintro e w3 ⟨rfl,n,rfl⟩;go_wp2_with fail;refine (Jeq _ s k _ (by exact hT) hlt).mono ?_;rintro e w3 ⟨rfl,n,rfl⟩;go_wp2_with fail;refine (JpY _ s k _ hs (by exact hT) hk).mono ?_;rintro e w4 ⟨rfl,hT4,hk4⟩;have hk4':Jb [] w w4:=JiV (hkp.up.trans (Zf hk4));have ho4:=(Zf hk4).owns ho (fun g hg=>by have:=(ho.lt g hg).1;simp;omega);have hsz4:=hT4.lt;generalize s.extract k (k+XP s k)=t at *;go_wp2_with (at_builtin;refine Lib.wpList_append_own_string _ rfl _ _ 107 9 rfl (w.heap.size+1) 5 i0 Tryz.underlying107 Tryz.underlying9 hi hz0 hz1 hz2 _ _ _ rfl ho4 t rfl ?c1 ?c2 ?c3 ?_)
    case c1=>unfold maxLen;omega
    case c2=>omega
    case c3=>omega
    intro v5 w5 ho5 hg5 _;have hT5:Jf w5 w.heap.size s (k+XP s k):=hT4.keeps (Z7 hg5) (fun h=>by simp at h;have:=(ho.lt _ h).1;omega);have hk5:Jb [] w w5:=hk4'.grown hg5 (fun g hg=>.inr (by have:=(ho.lt _ hg).1;omega));go_wp2_with fail;go_roundw
    case rel=>exact ⟨k+XP s k,o++t.data.toList,rt,by omega,rfl,Ja7 ho5,hT5,hk5,HD⟩
    case measure=>
     rw [hT5.cell1,hT.cell1];simp only [intOf,Option.getD_some];omega
  ·have hd:decide (s.size≤k)=true:=by simp;omega
   have hcv:=Jar ho;have HE:=Ja (HT.out.symm.trans (Jj5 hD.out (by omega)));go_wp2_with fail;refine (YN _ _ _ _ hT).mono ?_;rintro e w3 ⟨rfl,n,rfl⟩;go_wp2_with fail
   go_ret2
   rw [HE.out];exact ⟨rfl,hkp.drewN _⟩
def two (a:List UInt8 × Int):Ending:=.returned (.tuple #[.string ⟨a.1.toArray⟩,.int .i64 a.2])
def JhN (l:List UInt8):List UInt8 × Int:=if 3000<l.length then ([],2) else (J0 l,0)
def Jit (l:List UInt8):List UInt8 × Int:=if 3000<l.length then ([],2) else ((JR l).1,0)
theorem Js (s:ByteArray):s.data.toList.length=s.size:=Array.length_toList
theorem Jsb (s:ByteArray) (w:World) (hm:s.size≤maxLen):
  Calls Tryz.prog 101 #[.string s] w fun e w'=>e=two (Jit s.data.toList)∧Jb [] w w':=by
 unfold maxLen at hm;unfold Jit;rw [Js];by_cases h:3000<s.size
 ·rw [if_pos h];go_enter Tryz.func101,Tryz.ntmps101;go_wp2_with fail
  go_ret2
  exact ⟨rfl,Jb.refl _ _⟩
 ·rw [if_neg h];generalize hT:JR s.data.toList=T;have HT:=Ja hT;clear hT;go_enter Tryz.func101,Tryz.ntmps101;go_wp2_with fail;refine (JqI s _ (by omega)).mono ?_;rintro e w1 ⟨rfl,hk⟩;rw [HT.out];go_wp2_with fail
  go_ret2
  exact ⟨rfl,hk⟩
theorem X0 {c d:UInt8} {k:Int} (hd:(d.toNat:Int)=k) (h:c≠d):((c.toNat:Int)==k)=false:=by
 rw [←hd,JgB];simpa using h
theorem JjB {w w':World} {row:Option Nat} (h:Jb row.toList w w') (hr: ∀ g,row=some g→w.heap.size≤g):Jb [] w w':=h.mono fun k hk hlt=>by
 simp at hk;have:=hr k hk;omega
theorem JlJ (c:UInt8) (w:World) (B:Nat) (v:Value) (o:List UInt8) (ho:w.ownsRow B 5 1 v o.length (Lib.byteCells o)) (hn:o.length≤100000) (hB:B≤w.heap.size):
  Calls Tryz.prog 103 #[v,.int .u8 c.toNat] w fun e w'=> ∃ v',e=.returned v'∧w'.ownsRow B 5 1 v' (o++Yy c).length (Lib.byteCells (o++Yy c))∧Jb v.ownBlock.toList w w':=by
 obtain ⟨i0,hi,hz0,hz1,hz2⟩:=info_parts Tryz.info5;by_cases h1:c=38
 ·subst h1;go_enter Tryz.func103,Tryz.ntmps103;go_wp2_with (at_builtin;refine Lib.wpList_append_own_string _ rfl _ _ 107 9 rfl B 5 i0 Tryz.underlying107 Tryz.underlying9 hi hz0 hz1 hz2 _ _ _ rfl ho ⟨#[38,97,109,112,59]⟩ rfl ?c1 ?c2 ?c3 ?_)
  case c1=>show o.length+5≤maxLen;unfold maxLen;omega
  case c2=>show o.length+5≤140737488355328;omega
  case c3=>omega
  intro v' w1 ho1 hg1 _;go_wp2_with fail;go_ret;exact ⟨v',rfl,Ja7 (t:=⟨#[38,97,109,112,59]⟩) ho1,Z7 hg1⟩
 by_cases h2:c=60
 ·subst h2;go_enter Tryz.func103,Tryz.ntmps103;go_wp2_with (at_builtin;refine Lib.wpList_append_own_string _ rfl _ _ 107 9 rfl B 5 i0 Tryz.underlying107 Tryz.underlying9 hi hz0 hz1 hz2 _ _ _ rfl ho ⟨#[38,108,116,59]⟩ rfl ?c1 ?c2 ?c3 ?_)
  case c1=>show o.length+4≤maxLen;unfold maxLen;omega
  case c2=>show o.length+4≤140737488355328;omega
  case c3=>omega
  intro v' w1 ho1 hg1 _;go_wp2_with fail;go_ret;exact ⟨v',rfl,Ja7 (t:=⟨#[38,108,116,59]⟩) ho1,Z7 hg1⟩
 by_cases h3:c=62
 ·subst h3;go_enter Tryz.func103,Tryz.ntmps103;go_wp2_with (at_builtin;refine Lib.wpList_append_own_string _ rfl _ _ 107 9 rfl B 5 i0 Tryz.underlying107 Tryz.underlying9 hi hz0 hz1 hz2 _ _ _ rfl ho ⟨#[38,103,116,59]⟩ rfl ?c1 ?c2 ?c3 ?_)
  case c1=>show o.length+4≤maxLen;unfold maxLen;omega
  case c2=>show o.length+4≤140737488355328;omega
  case c3=>omega
  intro v' w1 ho1 hg1 _;go_wp2_with fail;go_ret;exact ⟨v',rfl,Ja7 (t:=⟨#[38,103,116,59]⟩) ho1,Z7 hg1⟩
 by_cases h4:c=34
 ·subst h4;go_enter Tryz.func103,Tryz.ntmps103;go_wp2_with (at_builtin;refine Lib.wpList_append_own_string _ rfl _ _ 107 9 rfl B 5 i0 Tryz.underlying107 Tryz.underlying9 hi hz0 hz1 hz2 _ _ _ rfl ho ⟨#[38,113,117,111,116,59]⟩ rfl ?c1 ?c2 ?c3 ?_)
  case c1=>show o.length+6≤maxLen;unfold maxLen;omega
  case c2=>show o.length+6≤140737488355328;omega
  case c3=>omega
  intro v' w1 ho1 hg1 _;go_wp2_with fail;go_ret;exact ⟨v',rfl,Ja7 (t:=⟨#[38,113,117,111,116,59]⟩) ho1,Z7 hg1⟩
 have hp:Yy c=[c]:=by simp [Yy,h1,h2,h3,h4]
 have e1:((c.toNat:Int)==38)=false:=X0 (d:=38) rfl h1;have e2:((c.toNat:Int)==60)=false:=X0 (d:=60) rfl h2;have e3:((c.toNat:Int)==62)=false:=X0 (d:=62) rfl h3;have e4:((c.toNat:Int)==34)=false:=X0 (d:=34) rfl h4;rw [hp];clear hp h1 h2 h3 h4;go_enter Tryz.func103,Tryz.ntmps103;go_wp2_with (at_builtin;refine wpList_append_own _ rfl _ _ 107 rfl B 5 i0 (.int .u8 0) 1 1 Tryz.underlying107 hi hz0 hz1 hz2 rfl (by decide) _ _ _ rfl (ho.alloc _) ⟨w.heap.size,0,none⟩ 1 1 [.int .u8 c.toNat] rfl rfl ?c1 ?c2 ?c3 ?c4 ?c5 ?_)
 case c1=>
  intro j u hj
  match j,hj with
  | 0,hj=>simp at hj;subst hj;simp [Addr.add]
 case c2=>intro u hu;simp at hu;subst hu;rfl
 case c3=>unfold maxLen;omega
 case c4=>omega
 case c5=>simp;omega
 intro v' w1 ho1 hg1 _;go_wp2_with fail;go_ret;exact ⟨v',rfl,Jaa (t:=[c]) ho1,((Jb.refl _ w).alloc _).grown hg1 fun k e=>.inl (by simp [e])⟩
def ZV (s:ByteArray) (k:Nat):List UInt8:=J0 (s.data.toList.take k)
theorem JhP (s:ByteArray):ZV s 0=[]:=by simp [ZV,J0]
theorem JhO (s:ByteArray) (k:Nat) (hk:k<s.size):ZV s (k+1)=ZV s k++Yy s[k]:=by
 have hl:k<s.data.toList.length:=by simpa using hk
 unfold ZV;rw [List.take_succ_eq_append_getElem hl,JlK];simp [J0];rfl
theorem Ji7 (s:ByteArray) (k:Nat):(ZV s k).length≤6 * k:=by
 have h1:=Jat (s.data.toList.take k);have h2:=List.length_take_le k s.data.toList;unfold ZV;omega
theorem Ji6 (s:ByteArray):ZV s s.size=J0 s.data.toList:=by
 unfold ZV;rw [List.take_of_length_le (by exact Nat.le_of_eq Array.length_toList)]
set_option maxRecDepth 100000 in
theorem JsP (s:ByteArray) (w:World) (hm:s.size≤maxLen):
  Calls Tryz.prog 32 #[.string s] w fun e w'=>e=two (JhN s.data.toList)∧Jb [] w w':=by
 unfold maxLen at hm;unfold JhN;rw [Js];by_cases h:3000<s.size
 ·rw [if_pos h];go_enter Tryz.func32,Tryz.ntmps32;go_wp2_with fail
  go_ret2
  exact ⟨rfl,Jb.refl _ _⟩
 ·rw [if_neg h, ←Ji6];obtain ⟨i0,hi,hz0,hz1,hz2⟩:=info_parts Tryz.info5;go_enter Tryz.func32,Tryz.ntmps32;go_wp2_with (at_make;refine wpList_make_own _ rfl _ _ 107 rfl w.heap.size 5 i0 (.int .u8 0) 1 Tryz.underlying107 hi hz0 hz1 .i64 .i64 _ s.size rfl rfl rfl (by rw [hz2];omega) (by unfold maxLen;omega) (Nat.le_refl _) ?_;intro w2 ho2 hg2);have hk2:Jb [] w w2:=(Jb.refl [] w).grown hg2 (by simp);go_loopw [4,5] (fun v i wr=> ∃ k:Nat,k≤s.size∧i=.int .i64 k∧wr.ownsRow w.heap.size 5 1 v (ZV s k).length (Lib.byteCells (ZV s k))∧Jb [] w wr) (fun _ i _=>s.size - (intOf i).toNat)
  case atStart=>exact ⟨0,Nat.zero_le _,rfl,by rw [JhP];exact ho2,hk2⟩
  case round=>
   obtain ⟨k,hk,rfl,ho,hkp⟩:=hrel;clear ho2 hk2 hg2;have hlen:=Ji7 s k;by_cases hlt:k<s.size
   ·have HS:=Ja (JhO s k hlt);go_wp2_with fail;refine (JlJ s[k] _ w.heap.size _ _ (by exact ho) (by omega) (by exact hkp.size)).mono ?_;rintro e w3 ⟨v3,rfl,ho3,hk3⟩;rw [←HS.out] at ho3;have hk3':Jb [] w w3:=JjB (hkp.up.trans hk3) fun g hg=>(ho.lt g hg).1;go_wp2_with fail;go_roundw
    case rel=>exact ⟨k+1,by omega,by go_num,ho3,hk3'⟩
    case measure=>simp [intOf];omega
   ·have hcv:=Jar ho 0;rw [show wr.drewN 0=wr from rfl] at hcv;have he:k=s.size:=by omega
    subst he;go_wp2_with fail
    go_ret2
    exact ⟨rfl,hkp⟩
end Go.Proofs.YtlcljanibjdejaaGreat
namespace Go.Proofs.YtlcljanibjdejaaGreat
def Xt (c:UInt8):Bool:=decide (97≤c.toNat)&&decide (c.toNat≤122)
def JbL (c:UInt8):Bool:=decide (65≤c.toNat)&&decide (c.toNat≤90)
def J2 (c:UInt8):Bool:=Xt c || JbL c
def Jc0 (c:UInt8):Bool:=decide (48≤c.toNat)&&decide (c.toNat≤57)
def JA (c:UInt8):Bool:=c==9 || c==10 || c==12 || c==13 || c==32
def Z8 (c:UInt8):UInt8:=if JbL c then c+32 else c
def Jx (l:List UInt8):List UInt8:=l.map Z8
def Ym (c:UInt8):Bool:=Xt c || Jc0 c || c==45
def JB (l:List UInt8):Bool:=decide (1≤l.length)&&decide (l.length≤20)&&Xt (l.getD 0 0)&&l.all Ym
def QJ (c:UInt8):Bool:= !JA c&&c != 47&&c != 62
def Qj (c:UInt8):Bool:= !JA c&&c != 47&&c != 62&&c != 61
def Ys (c:UInt8):Bool:= !JA c&&c != 62
def XB (c:UInt8):Bool:=JA c || c==47
def YE (c:UInt8):Bool:=c != 60
end Go.Proofs.YtlcljanibjdejaaGreat
namespace Go.Proofs.YtlcljanibjdejaaGreat
open Go.RowKit
theorem Jay {c d:UInt8} {k:Int} (hd:(d.toNat:Int)=k):(c != d)=((c.toNat:Int) != k):=by rw [←hd,YM]
theorem Z0 {c d:UInt8} {k:Int} (hd:(d.toNat:Int)=k):(c==d)=((c.toNat:Int)==k):=by rw [←hd,JgB]
theorem Y2 (c:UInt8) (w:World):Calls Tryz.prog 225 #[.int .u8 c.toNat] w fun e w'=>e=.returned (.bool (Xt c))∧w'=w:=by
 unfold Xt;have hc:c.toNat<256:=UInt8.toNat_lt c;generalize c.toNat=n at *;rcases (show n<97∨(97≤n∧n≤122)∨122<n from by omega) with h | h | h
 all_goals
  go_enter Tryz.func225,Tryz.ntmps225
  go_wp2
  go_ret;refine ⟨Qv ?_,rfl⟩
  first
   | (simp;omega)
   | (rw [Bool.eq_iff_iff];simp;omega)
theorem JfU (c:UInt8) (w:World):Calls Tryz.prog 285 #[.int .u8 c.toNat] w fun e w'=>e=.returned (.bool (Jc0 c))∧w'=w:=by
 unfold Jc0;have hc:c.toNat<256:=UInt8.toNat_lt c;generalize c.toNat=n at *;rcases (show n<48∨(48≤n∧n≤57)∨57<n from by omega) with h | h | h
 all_goals
  go_enter Tryz.func285,Tryz.ntmps285
  go_wp2
  go_ret;refine ⟨Qv ?_,rfl⟩
  first
   | (simp;omega)
   | (rw [Bool.eq_iff_iff];simp;omega)
theorem Jap (c:UInt8) (w:World):Calls Tryz.prog 224 #[.int .u8 c.toNat] w fun e w'=>e=.returned (.bool (J2 c))∧w'=w:=by
 have hc:c.toNat<256:=UInt8.toNat_lt c;cases hs:Xt c
 ·have hl:J2 c=(decide ((65:Int)≤(c.toNat:Int))&&decide ((c.toNat:Int)≤90)):=by
   unfold J2 JbL;rw [hs,Bool.eq_iff_iff];simp;omega
  rw [hl];have hsm:=Ja (fun w=>hs ▸ Y2 c w);clear hs hl;generalize c.toNat=n at *;by_cases h:65≤n
  ·go_enter Tryz.func224,Tryz.ntmps224;go_wp2_with (go_at_call 225;refine (hsm.out _).mono ?_;rintro e w' ⟨rfl,rfl⟩);go_ret;refine ⟨Qv ?_,rfl⟩;rw [Bool.eq_iff_iff];simp;omega
  ·go_enter Tryz.func224,Tryz.ntmps224;go_wp2_with (go_at_call 225;refine (hsm.out _).mono ?_;rintro e w' ⟨rfl,rfl⟩);go_ret;refine ⟨Qv ?_,rfl⟩;rw [Bool.eq_iff_iff];simp;omega
 ·have hl:J2 c=true:=by unfold J2;rw [hs];rfl
  rw [hl];have hsm:=Ja (fun w=>hs ▸ Y2 c w);clear hs hl;go_enter Tryz.func224,Tryz.ntmps224;go_wp2_with (go_at_call 225;refine (hsm.out _).mono ?_;rintro e w' ⟨rfl,rfl⟩);go_ret;exact ⟨rfl,rfl⟩
theorem Jsp (c:UInt8):JA c=((c.toNat:Int)==9 || (c.toNat:Int)==10 || (c.toNat:Int)==12 || (c.toNat:Int)==13 || (c.toNat:Int)==32):=by
 unfold JA;rw [Z0 (d:=9) rfl,Z0 (d:=10) rfl,Z0 (d:=12) rfl,Z0 (d:=13) rfl,Z0 (d:=32) rfl];rfl
theorem Ja9 (c:UInt8) (w:World):Calls Tryz.prog 292 #[.int .u8 c.toNat] w fun e w'=>e=.returned (.bool (JA c))∧w'=w:=by
 rw [Jsp];go_enter Tryz.func292,Tryz.ntmps292
 go_wp2
 all_goals go_ret
 all_goals exact ⟨Qv (by simp [*]),rfl⟩
theorem JrG (c:UInt8) (w:World):Calls Tryz.prog 159 #[.int .u8 c.toNat] w fun e w'=>e=.returned (.bool (YE c))∧w'=w:=by
 go_enter Tryz.func159,Tryz.ntmps159
 go_wp2
 go_ret;exact ⟨Qv (YM c 60),rfl⟩
theorem Jr7 (c:UInt8) (w:World):Calls Tryz.prog 291 #[.int .u8 c.toNat] w fun e w'=>e=.returned (.bool (QJ c))∧w'=w:=by
 unfold QJ;rw [Jay (c:=c) (d:=47) rfl,Jay (c:=c) (d:=62) rfl];have hw:=Ja (fun w=>Ja9 c w);generalize JA c=b at *;cases b
 all_goals
  go_enter Tryz.func291,Tryz.ntmps291;go_wp2_with (go_at_call 292;refine (hw.out _).mono ?_;rintro e w' ⟨rfl,rfl⟩)
  all_goals go_ret
  all_goals exact ⟨Qv (by simp [*]),rfl⟩
theorem Jn8 (c:UInt8) (w:World):Calls Tryz.prog 318 #[.int .u8 c.toNat] w fun e w'=>e=.returned (.bool (Qj c))∧w'=w:=by
 unfold Qj;rw [Jay (c:=c) (d:=47) rfl,Jay (c:=c) (d:=62) rfl,Jay (c:=c) (d:=61) rfl];have hw:=Ja (fun w=>Ja9 c w);generalize JA c=b at *;cases b
 all_goals
  go_enter Tryz.func318,Tryz.ntmps318;go_wp2_with (go_at_call 292;refine (hw.out _).mono ?_;rintro e w' ⟨rfl,rfl⟩)
  all_goals go_ret
  all_goals exact ⟨Qv (by simp [*]),rfl⟩
theorem Jsj (c:UInt8) (w:World):Calls Tryz.prog 335 #[.int .u8 c.toNat] w fun e w'=>e=.returned (.bool (Ys c))∧w'=w:=by
 unfold Ys;rw [Jay (c:=c) (d:=62) rfl];have hw:=Ja (fun w=>Ja9 c w);generalize JA c=b at *;cases b
 all_goals
  go_enter Tryz.func335,Tryz.ntmps335;go_wp2_with (go_at_call 292;refine (hw.out _).mono ?_;rintro e w' ⟨rfl,rfl⟩)
  all_goals go_ret
  all_goals exact ⟨Qv (by simp [*]),rfl⟩
theorem Jr3 (c:UInt8) (w:World):Calls Tryz.prog 293 #[.int .u8 c.toNat] w fun e w'=>e=.returned (.bool (XB c))∧w'=w:=by
 unfold XB;rw [Z0 (c:=c) (d:=47) rfl];have hw:=Ja (fun w=>Ja9 c w);generalize JA c=b at *;cases b
 all_goals
  go_enter Tryz.func293,Tryz.ntmps293;go_wp2_with (go_at_call 292;refine (hw.out _).mono ?_;rintro e w' ⟨rfl,rfl⟩)
  all_goals go_ret
  all_goals exact ⟨Qv (by simp [*]),rfl⟩
theorem Ji8 (c q:UInt8) (p:Addr) (w:World) (hq:w.cell? p=some (.int .u8 q.toNat)):Calls Tryz.prog 336 #[.int .u8 c.toNat,.pointer (some p)] w fun e w'=>e=.returned (.bool (c != q))∧w'=w:=by
 go_enter Tryz.func336,Tryz.ntmps336
 go_wp2
 go_ret;exact ⟨Qv (YM c q),rfl⟩
def JfP (w:World) (b:Nat) (l:List UInt8):Prop:= ∀ j (_:j<l.length),w.cell? ⟨b,j,none⟩=some (.int .u8 (l[j].toNat:Int))∧w.frozen? ⟨b,j,none⟩=false
theorem Jos (s:ByteArray) (w:World): ∃ W cap,(convert 9 107 (.string s)).run Tryz.prog w=.ok (.slice (some ⟨w.heap.size,0,none⟩) s.size cap) W∧JfP W w.heap.size s.data.toList∧Jb [] w W:=by
 refine ⟨_,_,run_bytes_of_string w 9 107 5 s Tryz.underlying9 Tryz.underlying107 Tryz.underlying5,?_,?_⟩
 ·intro j hj;have hj':j<s.size:=by simpa using hj
  have hh:=heap_alloc_new w.drew (.cells (bytesRow s (grownCap w s.size 0 5)) 5 ((bytesRow s (grownCap w s.size 0 5)).size,(bytesRow s (grownCap w s.size 0 5)).size+1));rw [show w.drew.heap.size=w.heap.size from rfl] at hh;have hz:j<(bytesRow s (grownCap w s.size 0 5)).size:=by
   simp only [bytesRow,Array.size_append,Array.size_map];exact Nat.lt_of_lt_of_le hj' (Nat.le_add_right _ _)
  constructor
  ·unfold World.cell?;rw [hh];have hd:j<s.data.size:=hj';simp only [bytesRow,Option.isSome_none,Bool.false_eq_true,if_false];rw [Array.getElem?_append_left (by simpa using hd),Array.getElem?_map,Array.getElem?_eq_getElem hd];rfl
  ·unfold World.frozen?;rw [hh];simp;omega
 ·exact ((Jb.refl [] w).drew).alloc _
theorem JfP.set {w:World} {b:Nat} {l:List UInt8} (h:JfP w b l) {i:Nat} (hi:i<l.length) (c:UInt8):JfP (w.setCell ⟨b,i,none⟩ (.int .u8 (c.toNat:Int))) b (l.set i c):=by
 intro j hj;rw [List.length_set] at hj;constructor
 ·by_cases hij:i=j
  ·subst hij;rw [World.cell?_setCell_same _ _ _ (h i hi).1];simp
  ·rw [World.cell?_setCell_other]
   ·rw [(h j hj).1];simp [hij]
   ·simp
 ·rw [World.frozen?_setCell];exact (h j hj).2
def YD (l:List UInt8) (k:Nat):List UInt8:=Jx (l.take k)++l.drop k
theorem Jcj (l:List UInt8) (k:Nat):(YD l k).length=l.length:=by simp [YD,Jx];omega
theorem JiY (l:List UInt8) (k:Nat) (hk:k<l.length):(YD l k)[k]'(by rw [Jcj];exact hk)=l[k]:=by
 simp only [YD,Jx];rw [List.getElem_append_right (by simp;omega)];simp [Nat.min_eq_left (Nat.le_of_lt hk)]
theorem Jm9 (l:List UInt8) (k:Nat) (hk:k<l.length):YD l (k+1)=(YD l k).set k (Z8 l[k]):=by
 unfold YD Jx;rw [List.take_succ_eq_append_getElem hk,List.map_append,List.set_append_right _ _ (by simp;omega)];simp [Nat.min_eq_left (Nat.le_of_lt hk)];rw [List.drop_eq_getElem_cons hk];rfl
theorem JpF (l:List UInt8):YD l l.length=Jx l:=by simp [YD]
theorem Jna (l:List UInt8):YD l 0=l:=by simp [YD,Jx]
theorem JsI (c:UInt8) (h:JbL c=true):((Z8 c).toNat:Int)=(c.toNat:Int) - 65+97:=by
 have hb:65≤c.toNat∧c.toNat≤90:=by simpa [JbL] using h
 unfold Z8;rw [if_pos h,UInt8.toNat_add];have:(32:UInt8).toNat=32:=rfl;rw [this];omega
theorem ZY (b j:Nat):(⟨b,0,none⟩:Addr).add j=⟨b,j,none⟩:=by
 by_cases h:j=0<;>simp [Addr.add,h]
theorem Jfs (s:ByteArray) (w:World) (hs:s.size≤3000):
  Calls Tryz.prog 149 #[.string s] w fun e w'=>e=.returned (.string ⟨(Jx s.data.toList).toArray⟩)∧Jb [] w w':=by
 obtain ⟨W,cap,hcv,hrow,hkW⟩:=Jos s w;have hl:=Js s;go_enter Tryz.func149,Tryz.ntmps149;go_wp2_with fail;go_loopw [10] (fun i wr=> ∃ k:Nat,k≤s.size∧i=.int .i64 k∧JfP wr w.heap.size (YD s.data.toList k)∧Jb [] w wr) (fun i _=>s.size - (intOf i).toNat)
 case atStart=>exact ⟨0,Nat.zero_le _,rfl,by rw [Jna];exact hrow,hkW⟩
 case round=>
  obtain ⟨k,hk,rfl,hr,hkp⟩:=hrel;clear hcv hrow hkW;by_cases hlt:k<s.size
  ·have hk':k<s.data.toList.length:=by omega
   have hc1:=(hr k (by rw [Jcj];exact hk')).1;have hf1:=(hr k (by rw [Jcj];exact hk')).2;rw [JiY _ _ hk'] at hc1;have hsucc:=Jm9 s.data.toList k hk';have hset:(YD s.data.toList k).set k s.data.toList[k]=YD s.data.toList k:=by
    have:=@List.set_getElem_self _ (YD s.data.toList k) k (by rw [Jcj];exact hk')
    rwa [JiY _ _ hk'] at this
   generalize s.data.toList[k]=c at *;cases hb:JbL c
   ·have e1:YD s.data.toList (k+1)=YD s.data.toList k:=by
     rw [hsucc];have:Z8 c=c:=by simp [Z8,hb]
     rw [this];exact hset
    have HR:Hid (JfP wr w.heap.size (YD s.data.toList (k+1))):=by rw [e1];exact hr
    clear hsucc e1 hset;cases hsm:Xt c
    ·have hl0:J2 c=false:=by simp [J2,hb,hsm]
     have hLt:=Ja (fun w=>hl0 ▸ Jap c w);clear hb hsm hl0;go_wp2_with (go_at_call 224;refine (hLt.out _).mono ?_;rintro e w' ⟨rfl,rfl⟩);go_roundw
     case rel=>exact ⟨k+1,by omega,by go_num,HR.out,hkp⟩
     case measure=>simp [intOf];omega
    ·have hl0:J2 c=true:=by simp [J2,hsm]
     have hLt:=Ja (fun w=>hl0 ▸ Jap c w);have hSm:=Ja (fun w=>hsm ▸ Y2 c w);clear hb hsm hl0;go_wp2_with (first | (go_at_call 224;refine (hLt.out _).mono ?_;rintro e w' ⟨rfl,rfl⟩) | (go_at_call 225;refine (hSm.out _).mono ?_;rintro e w' ⟨rfl,rfl⟩));go_roundw
     case rel=>exact ⟨k+1,by omega,by go_num,HR.out,hkp⟩
     case measure=>simp [intOf];omega
   ·have hv:=JsI c hb;have hb':65≤c.toNat∧c.toNat≤90:=by simpa [JbL] using hb
    have hLt:=Ja (fun w=>(show J2 c=true from by simp [J2,hb]) ▸ Jap c w);have hs0:Xt c=false:=by simp [Xt];omega
    have hSm:=Ja (fun w=>hs0 ▸ Y2 c w);clear hs0;have HR:=Ja (hr.set (by rw [Jcj];exact hk') (Z8 c));rw [←hsucc,hv] at HR;clear hsucc hb hv;go_wp2_with (first | (go_at_call 224;refine (hLt.out _).mono ?_;rintro e w' ⟨rfl,rfl⟩) | (go_at_call 225;refine (hSm.out _).mono ?_;rintro e w' ⟨rfl,rfl⟩));go_roundw
    case rel=>exact ⟨k+1,by omega,by go_num,HR.out,hkp.setCell (by simp) _⟩
    case measure=>simp [intOf];omega
  ·have he:YD s.data.toList k=Jx s.data.toList:=by rw [show k=s.data.toList.length from by omega];exact JpF _
   rw [he] at hr;have hlen:(Jx s.data.toList).length=s.size:=by simp [Jx]
   have hcv2:=run_convert_bytes_back (P:=Tryz.prog) wr 107 9 5 ⟨w.heap.size,0,none⟩ cap (Jx s.data.toList) Tryz.underlying107 Tryz.underlying5 Tryz.underlying9 (fun j hj=>by
    rw [ZY];exact (hr j hj).1)
   rw [hlen] at hcv2;clear he hr;go_wp2_with fail;go_ret;exact ⟨rfl,hkp⟩
theorem JrA (s:ByteArray) (h: ∀ i (hi:i<s.size),Ym s[i]=true):s.data.toList.all Ym=true:=by
 rw [List.all_eq_true];intro c hc;obtain ⟨i,hi,rfl⟩:=List.getElem_of_mem hc;exact h i (by simpa using hi)
theorem JrC (s:ByteArray) (i:Nat) (hi:i<s.size) (h:Ym s[i]=false):s.data.toList.all Ym=false:=by
 rw [Bool.eq_false_iff];intro ha;have:=List.all_eq_true.1 ha s[i] (by
  have hl:i<s.data.toList.length:=by simpa using hi
  exact List.getElem_mem hl)
 rw [h] at this;simp at this
theorem Jlv (s:ByteArray) (w:World) (h1:1≤s.size) (h2:s.size≤20) (h3:Xt s[0]=true):
  Calls Tryz.prog 231 #[.string s] w fun e w'=>e=.returned (.bool (s.data.toList.all Ym))∧w'=w:=by
 obtain ⟨r,hr⟩: ∃ r,s.data.toList.all Ym=r:=⟨_,rfl⟩;rw [hr];have HR:=Ja hr;clear hr;have hne:s.toList.isEmpty=false:=by
  rw [ByteArray.toList_eq];have:=Js s;cases hq:s.data.toList with
  | nil=>rw [hq] at this;simp at this;omega
  | cons a b=>rfl
 have hs0:=Ja (fun w=>h3 ▸ Y2 s[0] w);have hb20:decide ((20:Int)<(s.size:Int))=false:=by simp;omega
 clear h3;go_enter Tryz.func231,Tryz.ntmps231;go_wp2_with (go_at_call 225;refine (hs0.out _).mono ?_;rintro e w' ⟨rfl,rfl⟩)
 go_loop [3] (fun i=> ∃ k:Nat,k≤s.size∧i=.int .i64 k∧Hid (∀ i (hi:i<s.size),i<k→Ym s[i]=true)) (fun i=>s.size - (intOf i).toNat)
 case atStart=>exact ⟨0,Nat.zero_le _,rfl,fun i hi h=>by omega⟩
 case round=>
  obtain ⟨k,hk,rfl,hall⟩:=hrel;by_cases hlt:k<s.size
  ·cases hn:Ym s[k]
   ·have hr:Hid (r=false):=HR.out.symm.trans (JrC s k hlt hn);have hs1:Xt s[k]=false:=by revert hn;unfold Ym;cases Xt s[k]<;>simp
    have hd1:Jc0 s[k]=false:=by revert hn;unfold Ym;cases Jc0 s[k]<;>simp
    have h45:((s[k].toNat:Int) != 45)=true:=by
     rw [←Jay (d:=45) (k:=45) rfl];revert hn;unfold Ym;cases hq:s[k]==45
     ·intro _;simpa using hq
     ·simp
    have hS:=Ja (fun w=>hs1 ▸ Y2 s[k] w);have hD:=Ja (fun w=>hd1 ▸ JfU s[k] w);clear hn hs1 hd1 hall;go_wp2_with (first | (go_at_call 225;refine (hS.out _).mono ?_;rintro e w' ⟨rfl,rfl⟩) | (go_at_call 285;refine (hD.out _).mono ?_;rintro e w' ⟨rfl,rfl⟩));go_ret;rw [hr.out];exact ⟨rfl,rfl⟩
   ·have hall':Hid (∀ i (hi:i<s.size),i<k+1→Ym s[i]=true):=by
     intro i hi h;by_cases hik:i=k
     ·subst hik;exact hn
     ·exact hall.out i hi (by omega)
    clear hall;cases hs1:Xt s[k]
    ·have hS:=Ja (fun w=>hs1 ▸ Y2 s[k] w);cases hd1:Jc0 s[k]
     ·have hD:=Ja (fun w=>hd1 ▸ JfU s[k] w);have h45:((s[k].toNat:Int) != 45)=false:=by
       rw [←Jay (d:=45) (k:=45) rfl];revert hn;unfold Ym;rw [hs1,hd1];simp
      clear hn hs1 hd1;go_wp2_with (first | (go_at_call 225;refine (hS.out _).mono ?_;rintro e w' ⟨rfl,rfl⟩) | (go_at_call 285;refine (hD.out _).mono ?_;rintro e w' ⟨rfl,rfl⟩))
      go_round
      case rel=>exact ⟨k+1,by omega,by go_num,hall'⟩
      case measure=>simp [intOf];omega
     ·have hD:=Ja (fun w=>hd1 ▸ JfU s[k] w);clear hn hs1 hd1;go_wp2_with (first | (go_at_call 225;refine (hS.out _).mono ?_;rintro e w' ⟨rfl,rfl⟩) | (go_at_call 285;refine (hD.out _).mono ?_;rintro e w' ⟨rfl,rfl⟩))
      go_round
      case rel=>exact ⟨k+1,by omega,by go_num,hall'⟩
      case measure=>simp [intOf];omega
    ·have hS:=Ja (fun w=>hs1 ▸ Y2 s[k] w);clear hn hs1;go_wp2_with (go_at_call 225;refine (hS.out _).mono ?_;rintro e w' ⟨rfl,rfl⟩)
     go_round
     case rel=>exact ⟨k+1,by omega,by go_num,hall'⟩
     case measure=>simp [intOf];omega
  ·have hr:Hid (r=true):=HR.out.symm.trans (JrA s fun i hi=>hall.out i hi (by omega));clear hall
   go_wp2
   go_ret;rw [hr.out];exact ⟨rfl,rfl⟩
theorem JcF (s:ByteArray) (w:World) (hs:s.size≤3000):
  Calls Tryz.prog 231 #[.string s] w fun e w'=>e=.returned (.bool (JB s.data.toList))∧w'=w:=by
 unfold JB;rw [Js];by_cases h1:1≤s.size
 ·have e0:s.data.toList.getD 0 0=s[0]:=Q0 s 0 (by omega);have hne:s.toList.isEmpty=false:=by
   rw [ByteArray.toList_eq];have:=Js s;cases hq:s.data.toList with
   | nil=>rw [hq] at this;simp at this;omega
   | cons a b=>rfl
  rw [e0];by_cases h2:s.size≤20
  ·cases h3:Xt s[0]
   ·have hs0:=Ja (fun w=>h3 ▸ Y2 s[0] w);simp only [Bool.and_false,Bool.false_and];clear h3 e0;go_enter Tryz.func231,Tryz.ntmps231;go_wp2_with (go_at_call 225;refine (hs0.out _).mono ?_;rintro e w' ⟨rfl,rfl⟩);go_ret;exact ⟨rfl,rfl⟩
   ·refine (Jlv s w h1 h2 h3).mono fun e w' ⟨he,hw⟩=>⟨he.trans (Qv ?_),hw⟩;simp [h1,h2]
  ·rw [decide_eq_false h2];simp only [Bool.and_false,Bool.false_and];clear e0;go_enter Tryz.func231,Tryz.ntmps231
   go_wp2
   go_ret;exact ⟨rfl,rfl⟩
 ·rw [decide_eq_false h1];simp only [Bool.false_and];have hne:s.toList.isEmpty=true:=by
   rw [ByteArray.toList_eq];have:=Js s;cases hq:s.data.toList with
   | nil=>rfl
   | cons a b=>rw [hq] at this;simp at this;omega
  go_enter Tryz.func231,Tryz.ntmps231
  go_wp2
  go_ret;exact ⟨rfl,rfl⟩
end Go.Proofs.YtlcljanibjdejaaGreat
