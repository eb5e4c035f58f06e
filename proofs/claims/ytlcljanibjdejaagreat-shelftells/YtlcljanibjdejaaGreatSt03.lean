/- ShelfTells holds: the law returns true for every input, and each argument reads behind the call as it read before; no condition. A part of its proof. -/
import Derived.Test.YtlcljanibjdejaaGreatSt02
import Derived.Laws.StructEq
import Derived.Shelf.Strings.Builder1
set_option maxHeartbeats 64000000
namespace Go.Proofs.YtlcljanibjdejaaGreat
open Go.RowKit Go.Maps
def Xp (raw:List UInt8):List Tok:=if raw=[] then [] else [XG (JR raw).1]
theorem JaB (raw:List UInt8):(X2 raw).map (·.1)=Xp raw:=by
 unfold X2 Xp;split<;>rfl
def Jaq (l:List UInt8) (k:Nat) (raw:List UInt8) (out:List Tok):Option (Nat × List UInt8 × List Tok):=
 match JM l (l.length+1) (k+1+((l.drop (k+1)).takeWhile QJ).length) [] with
 | none=>none
 | some (a,k2)=>some (k2+1,if JB (Jx ((l.drop (k+1)).takeWhile QJ))=true then ([],out++Xp raw++[⟨2,Jx ((l.drop (k+1)).takeWhile QJ),a,[]⟩]) else (raw,out))
def Zc (l:List UInt8) (k:Nat) (raw:List UInt8) (out:List Tok):Option (Nat × List UInt8 × List Tok):=
 match Xx [62] (l.drop (k+2+((l.drop (k+2)).takeWhile QJ).length)) with
 | none=>none
 | some m=>some (k+2+((l.drop (k+2)).takeWhile QJ).length+m,if JB (Jx ((l.drop (k+2)).takeWhile QJ))=true then ([],out++Xp raw++[⟨3,Jx ((l.drop (k+2)).takeWhile QJ),[],[]⟩]) else (raw,out))
theorem Rd.text_touch {w:World} {B r b:Nat} {rawv outv:Value} {raw:List UInt8} {l:List (Tok × Value)} (h:Rd w B r b rawv outv raw l) {s:ByteArray} {k:Nat} (hT:Jf w b s k):b∉Qf r rawv outv:=by
 intro hm;simp [Qf] at hm;rcases hm with hm | hm | hm
 ·exact h.ne hT hm.symm
 ·exact Jt h.raw hT (by decide) hm
 ·exact Jt h.out hT (by decide) hm
theorem XV {S:List Nat} {b:Nat} {w w':World} (h:Jb [b] w w'):Jb (b::S) w w':=h.to (by simp)
theorem JdB {S:List Nat} {b:Nat} {w w':World} (h:Jb S w w'):Jb (b::S) w w':=h.to (fun _ hi=>List.mem_cons_of_mem _ hi)
set_option maxRecDepth 4000 in
theorem JlE (B r b:Nat) (rawv outv:Value) (raw:List UInt8) (l:List (Tok × Value)) (s:ByteArray) (k:Nat) (w:World) (hs:s.size≤3000) (h:Rd w B r b rawv outv raw l) (hT:Jf w b s k) (hB:B≤w.heap.size) (hraw:raw.length≤3000) (hl:l.length≤90000)
  (hk:k+1≤s.size) (hst:Ju s k [60]=true):
  Calls Tryz.prog 153 #[.pointer (some ⟨r,0,none⟩)] w fun e w'=>
   ((∃ k' raw' rawv' outv' l',Jaq s.data.toList k raw (l.map (·.1))=some (k',raw',l'.map (·.1))∧e=.returned (.tuple #[])∧Rd w' B r b rawv' outv' raw' l'∧Jf w' b s k')∨
    (Jaq s.data.toList k raw (l.map (·.1))=none∧e=.panicked Yp∧Rd w' B r b rawv outv raw l∧ ∃ j,Jf w' b s j))∧Jb (b::Qf r rawv outv) w w':=by
 have hne:=h.ne hT;have hbt:=h.text_touch hT;have hlen:=Js s;have htn:=Ja (Jgt r b rawv outv s ⟨#[60]⟩ k w hs (by decide) h.reader hT h.max hk hst _ rfl);have hLl:=Xa QJ s (k+1) hk;have hsz:(⟨#[60]⟩:ByteArray).size=1:=rfl;rw [hsz] at htn;unfold Jaq;rw [hlen];generalize (s.data.toList.drop (k+1)).takeWhile QJ=N at *;have hin:=Ja (fun w=>JcF ⟨(Jx N).toArray⟩ w (by rw [Jv];simp [Jx];omega));rw [Qc] at hin;generalize Jx N=NN at *;have hats:=Ja (fun (w:World) hR hT=>Job r b rawv outv s (k+1+N.length) w hs hR hT hLl);generalize JM s.data.toList (s.size+1) (k+1+N.length) []=A at *;clear hst;go_enter Tryz.func153,Tryz.ntmps153;go_wp2_with fail;refine htn.out.mono ?_;rintro e w1 ⟨rfl,hT1,hk1⟩;have h1:=h.keepsText hT hk1;have hB1:=Nat.le_trans hB hk1.size;go_wp2_with fail;refine (hats.out _ h1.reader hT1).mono ?_;rintro e w2 ⟨⟨a,k2,v,hA,rfl,ho2,hal,hlt2,hgt,hT2⟩ | ⟨hA,rfl,j,hT2⟩,hk2⟩
 ·have h2:=h1.keepsText hT1 hk2;have hB2:=Nat.le_trans hB1 hk2.size;have c2:=h2.reader.cell0;subst hA;have ho2':w2.ownsRow B 52 2 v a.length (Jj a):=ho2.mono (by omega);obtain ⟨o,c,rfl⟩:=Jg ho2';clear ho2 hal hgt;go_wp2_with fail;refine (Q2 b s k2 _ hs hT2 hlt2).mono ?_;rintro e w3 ⟨rfl,hT3,hk3⟩;have h3:=h2.keepsText hT2 hk3;have hB3:=Nat.le_trans hB2 hk3.size;have ho3:w3.ownsRow B 52 2 (.slice o a.length c) a.length (Jj a):=hk3.owns ho2' (fun g hg hm=>by
   simp at hm;subst hm;exact Jt ho2' hT2 (by decide) hg)
  have hkw:Jb [b] w w3:=(hk1.trans hk2).trans hk3;clear c2;go_wp2_with fail;refine (hin.out _).mono ?_;rintro e w4 ⟨rfl,rfl⟩;cases hnm:JB NN
  ·go_wp2_with fail
   go_end0
   exact ⟨⟨_,_,_,_,l,⟨rfl,rfl,rfl⟩,rfl,h3,hT3⟩,XV hkw⟩
  ·go_wp2_with fail;refine (Jmk B r b rawv outv raw l _ h3 hB3 hraw hl 2 NN [] a o a.length c ho3).mono ?_;rintro e w5 ⟨rfl,rawv',outv',h5,hk5⟩;go_wp2_with fail
   go_end0
   refine ⟨⟨_,[],_,_,_,⟨rfl,rfl,?_⟩,rfl,h5,hT3.keeps hk5 hbt⟩,(XV hkw).trans (JdB hk5)⟩;simp [JaB]
 ·subst hA;go_wp2_with fail;exact ⟨rfl,⟨rfl,h1.keepsText hT1 hk2,j,hT2⟩,XV (hk1.trans hk2)⟩
set_option maxRecDepth 4000 in
theorem Jj3 (B r b:Nat) (rawv outv:Value) (raw:List UInt8) (l:List (Tok × Value)) (s:ByteArray) (k:Nat) (w:World) (hs:s.size≤3000) (h:Rd w B r b rawv outv raw l) (hT:Jf w b s k) (hB:B≤w.heap.size) (hraw:raw.length≤3000) (hl:l.length≤90000)
  (hk:k+2≤s.size) (hst:Ju s k [60,47]=true):
  Calls Tryz.prog 154 #[.pointer (some ⟨r,0,none⟩)] w fun e w'=>
   ((∃ k' raw' rawv' outv' l',Zc s.data.toList k raw (l.map (·.1))=some (k',raw',l'.map (·.1))∧e=.returned (.tuple #[])∧Rd w' B r b rawv' outv' raw' l'∧Jf w' b s k')∨
    (Zc s.data.toList k raw (l.map (·.1))=none∧e=.panicked Yp∧Rd w' B r b rawv outv raw l∧ ∃ j,Jf w' b s j))∧Jb (b::Qf r rawv outv) w w':=by
 have hne:=h.ne hT;have hbt:=h.text_touch hT;have hlen:=Js s;have htn:=Ja (Jgt r b rawv outv s ⟨#[60,47]⟩ k w hs (by decide) h.reader hT h.max hk hst _ rfl);have hLl:=Xa QJ s (k+2) hk;have hsz:(⟨#[60,47]⟩:ByteArray).size=2:=rfl;rw [hsz] at htn;unfold Zc;generalize (s.data.toList.drop (k+2)).takeWhile QJ=N at *;have hin:=Ja (fun w=>JcF ⟨(Jx N).toArray⟩ w (by rw [Jv];simp [Jx];omega));rw [Qc] at hin;generalize Jx N=NN at *;have hpt:=Ja (fun (w:World) hT hM=>Jas b s (k+2+N.length) ⟨#[62]⟩ w hs (by decide) hT hLl hM);rw [show (⟨#[62]⟩:ByteArray).data.toList=[62] from rfl] at hpt;generalize Xx [62] (s.data.toList.drop (k+2+N.length))=A at *;clear hst;go_enter Tryz.func154,Tryz.ntmps154;go_wp2_with fail;refine htn.out.mono ?_;rintro e w1 ⟨rfl,hT1,hk1⟩;have h1:=h.keepsText hT hk1;have hB1:=Nat.le_trans hB hk1.size;have c1:=h1.reader.cell0;go_wp2_with fail;refine (hpt.out _ hT1 h1.max).mono ?_;rintro e w2 ⟨⟨m,hA,rfl,hT2⟩ | ⟨hA,rfl,hT2⟩,hk2⟩
 ·have h2:=h1.keepsText hT1 hk2;have hB2:=Nat.le_trans hB1 hk2.size;subst hA;have hkw:Jb [b] w w2:=hk1.trans hk2;clear c1;go_wp2_with fail;refine (hin.out _).mono ?_;rintro e w4 ⟨rfl,rfl⟩;cases hnm:JB NN
  ·go_wp2_with fail
   go_end0
   exact ⟨⟨_,_,_,_,l,⟨rfl,rfl,rfl⟩,rfl,h2,hT2⟩,XV hkw⟩
  ·go_wp2_with fail;refine (Jmk B r b rawv outv raw l _ h2 hB2 hraw hl 3 NN [] [] none 0 0 (World.ownsRow_nil _ _ _ _)).mono ?_;rintro e w5 ⟨rfl,rawv',outv',h5,hk5⟩;go_wp2_with fail
   go_end0
   refine ⟨⟨_,[],_,_,_,⟨rfl,rfl,?_⟩,rfl,h5,hT2.keeps hk5 hbt⟩,(XV hkw).trans (JdB hk5)⟩;simp [JaB]
 ·subst hA;go_wp2_with fail;exact ⟨rfl,⟨rfl,h1.keepsText hT1 hk2,_,hT2⟩,XV (hk1.trans hk2)⟩
def Za (s:ByteArray) (k:Nat) (p:ByteArray):Bool:=Ju s k p.data.toList&&(decide (k+p.size<s.size)&&J2 (Jr s (k+p.size)))
theorem Jak (b:Nat) (s:ByteArray) (k:Nat) (p:ByteArray) (w:World) (hT:Jf w b s k) (hk:k≤s.size):
  Calls Tryz.prog 155 #[.pointer (some ⟨b,0,none⟩),.string p] w fun e w'=>e=.returned (.bool (Ju s k p.data.toList))∧Jf w' b s k∧Jb [] w w':=
 (JdW b s k p w hT hk).mono fun _ _ ⟨he,_,hw⟩=>⟨he,by rw [hw];exact hT,by rw [hw];exact (Jb.refl _ _).drewN _⟩
theorem Jav (r b:Nat) (rawv outv:Value) (s p:ByteArray) (k:Nat) (w:World) (hs:s.size≤3000) (hp:p.size≤3000) (hR:JK w r b rawv outv) (hT:Jf w b s k) (hk:k≤s.size):
  Calls Tryz.prog 152 #[.pointer (some ⟨r,0,none⟩),.string p] w fun e w'=>e=.returned (.bool (Za s k p))∧Jf w' b s k∧Jb [] w w':=
 JjH r b rawv outv s p k w hs hp hR hT hk
def Xf (B r b:Nat) (rawv outv:Value) (raw:List UInt8) (l:List (Tok × Value)) (s:ByteArray) (w:World) (P:Option (Nat × List UInt8 × List Tok)) (e:Ending) (w':World):Prop:=
 ((∃ k' raw' rawv' outv' l',P=some (k',raw',l'.map (·.1))∧e=.returned (.tuple #[])∧Rd w' B r b rawv' outv' raw' l'∧Jf w' b s k')∨
  (P=none∧e=.panicked Yp∧Rd w' B r b rawv outv raw l∧ ∃ j,Jf w' b s j))∧Jb (b::Qf r rawv outv) w w'
theorem Xf.nil {B r b:Nat} {rawv outv:Value} {raw:List UInt8} {l:List (Tok × Value)} {s:ByteArray} {w0 w:World} {P:Option (Nat × List UInt8 × List Tok)} {e:Ending} {w':World} (h:Xf B r b rawv outv raw l s w P e w') (hk:Jb [] w0 w):Xf B r b rawv outv raw l s w0 P e w':=
 ⟨h.1,(hk.to (by simp)).trans h.2⟩
theorem JqC {s:ByteArray} {k:Nat} {p:List UInt8} (h:Ju s k p=true) (hk:k≤s.size):k+p.length≤s.size:=by
 have h':p<+:s.data.toList.drop k:=by unfold Ju at h;simpa using h
 have:=h'.length_le;have hl:=Js s;rw [List.length_drop] at this;omega
def Jd0 (l:List UInt8) (k:Nat) (raw:List UInt8) (out:List Tok):Option (Nat × List UInt8 × List Tok):=
 match Xx [45,45,62] (l.drop (k+2)) with
 | none=>none
 | some m=>some (k+2+m,raw,out)
def Jbl (l:List UInt8) (k:Nat) (raw:List UInt8) (out:List Tok):Option (Nat × List UInt8 × List Tok):=
 match Xx [62] (l.drop k) with
 | none=>none
 | some m=>some (k+m,raw,out)
def Jaw (l:List UInt8) (k:Nat) (raw:List UInt8) (out:List Tok):Option (Nat × List UInt8 × List Tok):=
 some (k+1+((l.drop (k+1)).takeWhile YE).length,raw++[l.getD k 0]++(l.drop (k+1)).takeWhile YE,out)
set_option maxRecDepth 4000 in
theorem Jns (B r b:Nat) (rawv outv:Value) (raw:List UInt8) (l:List (Tok × Value)) (s:ByteArray) (k:Nat) (w:World) (hs:s.size≤3000) (h:Rd w B r b rawv outv raw l) (hT:Jf w b s k) (hB:B≤w.heap.size) (hraw:raw.length≤3000) (hl:l.length≤90000)
  (hlt:k<s.size) (c1:Za s k ⟨#[60]⟩=true):
  Calls Tryz.prog 79 #[.pointer (some ⟨r,0,none⟩)] w fun e w'=>Xf B r b rawv outv raw l s w (Jaq s.data.toList k raw (l.map (·.1))) e w':=by
 have hst:Ju s k [60]=true:=by unfold Za at c1;simp only [Bool.and_eq_true] at c1;exact c1.1
 have t1:=Ja (Jav r b rawv outv s ⟨#[60]⟩ k w hs (by decide) h.reader hT (by omega));rw [c1] at t1;have HO:=Ja (fun (w:World) (h:Rd w B r b rawv outv raw l) (hT:Jf w b s k) (hB:B≤w.heap.size)=>JlE B r b rawv outv raw l s k w hs h hT hB hraw hl hlt hst);generalize Jaq s.data.toList k raw (l.map (·.1))=P at *;clear c1 hst;go_enter Tryz.func79,Tryz.ntmps79;go_wp2_with fail;refine t1.out.mono ?_;rintro e w1 ⟨rfl,hT1,hk1⟩;go_wp2_with fail;refine (HO.out _ (h.keepsNil hk1) hT1 (Nat.le_trans hB hk1.size)).mono ?_;rintro e w2 hD;have hD':Xf B r b rawv outv raw l s w P e w2:=Xf.nil hD hk1;have hD2:=Ja hD';rcases hD.1 with ⟨_,_,_,_,_,_,rfl,_⟩ | ⟨_,rfl,_⟩
 ·clear hD hD';go_wp2_with fail
  go_end0
  exact hD2.out
 ·clear hD hD';go_wp2_with fail;exact ⟨rfl,hD2.out⟩
set_option maxRecDepth 4000 in
theorem JlG (B r b:Nat) (rawv outv:Value) (raw:List UInt8) (l:List (Tok × Value)) (s:ByteArray) (k:Nat) (w:World) (hs:s.size≤3000) (h:Rd w B r b rawv outv raw l) (hT:Jf w b s k) (hB:B≤w.heap.size) (hraw:raw.length≤3000) (hl:l.length≤90000)
  (hlt:k<s.size) (c1:Za s k ⟨#[60]⟩=false) (c2:Za s k ⟨#[60,47]⟩=true):
  Calls Tryz.prog 79 #[.pointer (some ⟨r,0,none⟩)] w fun e w'=>Xf B r b rawv outv raw l s w (Zc s.data.toList k raw (l.map (·.1))) e w':=by
 have hst:Ju s k [60,47]=true:=by unfold Za at c2;simp only [Bool.and_eq_true] at c2;exact c2.1
 have t1:=Ja (Jav r b rawv outv s ⟨#[60]⟩ k w hs (by decide) h.reader hT (by omega));have t2:=Ja (fun (w:World) hR hT=>Jav r b rawv outv s ⟨#[60,47]⟩ k w hs (by decide) hR hT (by omega));rw [c1] at t1;rw [c2] at t2;have HO:=Ja (fun (w:World) (h:Rd w B r b rawv outv raw l) (hT:Jf w b s k) (hB:B≤w.heap.size)=>Jj3 B r b rawv outv raw l s k w hs h hT hB hraw hl (JqC hst (by omega)) hst);generalize Zc s.data.toList k raw (l.map (·.1))=P at *;clear c1 c2 hst;go_enter Tryz.func79,Tryz.ntmps79;go_wp2_with fail;refine t1.out.mono ?_;rintro e w1 ⟨rfl,hT1,hk1⟩;have h1:=h.keepsNil hk1;go_wp2_with fail;refine (t2.out _ h1.reader hT1).mono ?_;rintro e w2 ⟨rfl,hT2,hk2⟩;have h2:=h1.keepsNil hk2;go_wp2_with fail;refine (HO.out _ h2 hT2 (Nat.le_trans hB (Nat.le_trans hk1.size hk2.size))).mono ?_;rintro e w3 hD;have hD':Xf B r b rawv outv raw l s w P e w3:=Xf.nil hD (hk1.trans hk2);have hD2:=Ja hD';rcases hD.1 with ⟨_,_,_,_,_,_,rfl,_⟩ | ⟨_,rfl,_⟩
 ·clear hD hD';go_wp2_with fail
  go_end0
  exact hD2.out
 ·clear hD hD';go_wp2_with fail;exact ⟨rfl,hD2.out⟩
set_option maxRecDepth 4000 in
theorem JjD (B r b:Nat) (rawv outv:Value) (raw:List UInt8) (l:List (Tok × Value)) (s:ByteArray) (k:Nat) (w:World) (hs:s.size≤3000) (h:Rd w B r b rawv outv raw l) (hT:Jf w b s k)
  (hlt:k<s.size) (c1:Za s k ⟨#[60]⟩=false) (c2:Za s k ⟨#[60,47]⟩=false) (c3:Ju s k [60,33,45,45]=true):
  Calls Tryz.prog 79 #[.pointer (some ⟨r,0,none⟩)] w fun e w'=>Xf B r b rawv outv raw l s w (Jd0 s.data.toList k raw (l.map (·.1))) e w':=by
 have hend:Xx [60,33] (s.data.toList.drop k)=some 2:=Jd4 (by
  have h':[60,33,45,45]<+:s.data.toList.drop k:=by unfold Ju at c3;simpa using c3
  have:([60,33]:List UInt8)<+:s.data.toList.drop k:=List.IsPrefix.trans ⟨[45,45],rfl⟩ h';unfold Lib.hasPrefix;simpa using this)
 have hk4:k+4≤s.size:=JqC c3 (by omega);have t1:=Ja (Jav r b rawv outv s ⟨#[60]⟩ k w hs (by decide) h.reader hT (by omega));have t2:=Ja (fun (w:World) hR hT=>Jav r b rawv outv s ⟨#[60,47]⟩ k w hs (by decide) hR hT (by omega));have t3:=Ja (fun (w:World) hT=>Jak b s k ⟨#[60,33,45,45]⟩ w hT (by omega));rw [c1] at t1;rw [c2] at t2;rw [show Ju s k (⟨#[60,33,45,45]⟩:ByteArray).data.toList=true from c3] at t3;have p1:=Ja (fun (w:World) hT hM=>Jas b s k ⟨#[60,33]⟩ w hs (by decide) hT (by omega) hM);rw [show Xx (⟨#[60,33]⟩:ByteArray).data.toList (s.data.toList.drop k)=some 2 from hend] at p1;have p2:=Ja (fun (w:World) hT hM=>Jas b s (k+2) ⟨#[45,45,62]⟩ w hs (by decide) hT (by omega) hM);unfold Jd0;rw [show (⟨#[45,45,62]⟩:ByteArray).data.toList=[45,45,62] from rfl] at p2;generalize Xx [45,45,62] (s.data.toList.drop (k+2))=A at *;clear c1 c2 c3 hend;go_enter Tryz.func79,Tryz.ntmps79;go_wp2_with fail;refine t1.out.mono ?_;rintro e w1 ⟨rfl,hT1,hk1⟩;have h1:=h.keepsNil hk1;go_wp2_with fail;refine (t2.out _ h1.reader hT1).mono ?_;rintro e w2 ⟨rfl,hT2,hk2⟩;have h2:=h1.keepsNil hk2;have d2:=h2.reader.cell0;go_wp2_with fail;refine (t3.out _ hT2).mono ?_;rintro e w3 ⟨rfl,hT3,hk3⟩;have h3:=h2.keepsNil hk3;have d3:=h3.reader.cell0;have hk03:=(hk1.trans hk2).trans hk3;clear d2;go_wp2_with fail;refine (p1.out _ hT3 h3.max).mono ?_;rintro e w4 ⟨⟨m,hm,rfl,hT4⟩ | ⟨hm,_⟩,hk4⟩
 ·simp only [Option.some.injEq] at hm;subst hm;have h4:=h3.keepsText hT3 hk4;have d4:=h4.reader.cell0;clear d3;go_wp2_with fail;refine (p2.out _ hT4 h4.max).mono ?_;have hk04:Jb [b] w w4:=(hk03.to (by simp)).trans hk4;rintro e w5 ⟨⟨m,rfl,rfl,hT5⟩ | ⟨rfl,rfl,hT5⟩,hk5⟩
  ·have hD:=Ja (show Xf B r b rawv outv raw l s w (some (k+2+m,raw,l.map (·.1))) (.returned (.tuple #[])) w5 from ⟨.inl ⟨_,_,_,_,l,rfl,rfl,h4.keepsText hT4 hk5,hT5⟩,XV (hk04.trans hk5)⟩);go_wp2_with fail
   go_end0
   exact hD.out
  ·have hD:=Ja (show Xf B r b rawv outv raw l s w none (.panicked Yp) w5 from ⟨.inr ⟨rfl,rfl,h4.keepsText hT4 hk5,_,hT5⟩,XV (hk04.trans hk5)⟩);go_wp2_with fail;exact ⟨rfl,hD.out⟩
 ·simp at hm
def JtN:Ending→Ending
 | .returned _=>.returned (.tuple #[])
 | e=>e
theorem Jra (B r b:Nat) (rawv outv:Value) (raw:List UInt8) (l:List (Tok × Value)) (s:ByteArray) (k:Nat) (w:World) (w4:World) (h4:Rd w4 B r b rawv outv raw l) (hT4:Jf w4 b s k) (hk:Jb [] w w4) (x:Nat→Value) (e:Ending) (w5:World)
  (hx:((∃ m,Xx [62] (s.data.toList.drop k)=some m∧e=.returned (x m)∧Jf w5 b s (k+m))∨(Xx [62] (s.data.toList.drop k)=none∧e=.panicked Yp∧Jf w5 b s k))∧Jb [b] w4 w5):
  Xf B r b rawv outv raw l s w (Jbl s.data.toList k raw (l.map (·.1))) (JtN e) w5:=by
 unfold Jbl;obtain ⟨⟨m,hA,rfl,hT5⟩ | ⟨hA,rfl,hT5⟩,hk5⟩:=hx
 ·rw [hA];exact ⟨.inl ⟨_,_,_,_,l,rfl,rfl,h4.keepsText hT4 hk5,hT5⟩,XV ((hk.to (by simp)).trans hk5)⟩
 ·rw [hA];exact ⟨.inr ⟨rfl,rfl,h4.keepsText hT4 hk5,_,hT5⟩,XV ((hk.to (by simp)).trans hk5)⟩
set_option maxRecDepth 4000 in
theorem Jnq (B r b:Nat) (rawv outv:Value) (raw:List UInt8) (l:List (Tok × Value)) (s:ByteArray) (k:Nat) (w:World) (hs:s.size≤3000) (h:Rd w B r b rawv outv raw l) (hT:Jf w b s k)
  (hlt:k<s.size) (c1:Za s k ⟨#[60]⟩=false) (c2:Za s k ⟨#[60,47]⟩=false) (c3:Ju s k [60,33,45,45]=false) (c4:(Ju s k [60,33] || (Ju s k [60,63] || Ju s k [60,47]))=true):
  Calls Tryz.prog 79 #[.pointer (some ⟨r,0,none⟩)] w fun e w'=>Xf B r b rawv outv raw l s w (Jbl s.data.toList k raw (l.map (·.1))) e w':=by
 have t1:=Ja (Jav r b rawv outv s ⟨#[60]⟩ k w hs (by decide) h.reader hT (by omega));have t2:=Ja (fun (w:World) hR hT=>Jav r b rawv outv s ⟨#[60,47]⟩ k w hs (by decide) hR hT (by omega));have t3:=Ja (fun (w:World) hT=>Jak b s k ⟨#[60,33,45,45]⟩ w hT (by omega));have t4:=Ja (fun (w:World) hT=>Jak b s k ⟨#[60,33]⟩ w hT (by omega));have t5:=Ja (fun (w:World) hT=>Jak b s k ⟨#[60,63]⟩ w hT (by omega));have t6:=Ja (fun (w:World) hT=>Jak b s k ⟨#[60,47]⟩ w hT (by omega));rw [c1] at t1;rw [c2] at t2;rw [show Ju s k (⟨#[60,33,45,45]⟩:ByteArray).data.toList=false from c3] at t3;rw [show (⟨#[60,33]⟩:ByteArray).data.toList=[60,33] from rfl] at t4;rw [show (⟨#[60,63]⟩:ByteArray).data.toList=[60,63] from rfl] at t5;rw [show (⟨#[60,47]⟩:ByteArray).data.toList=[60,47] from rfl] at t6;have p2:=Ja (fun (w:World) hT hM=>Jas b s k ⟨#[62]⟩ w hs (by decide) hT (by omega) hM);have FIN:=Ja (Jra B r b rawv outv raw l s k w);generalize Jbl s.data.toList k raw (l.map (·.1))=P at *;rw [show (⟨#[62]⟩:ByteArray).data.toList=[62] from rfl] at p2;generalize Xx [62] (s.data.toList.drop k)=A at *;generalize Ju s k [60,33]=q4 at *;generalize Ju s k [60,63]=q5 at *;generalize Ju s k [60,47]=q6 at *;clear c1 c2 c3;go_enter Tryz.func79,Tryz.ntmps79;go_wp2_with fail;refine t1.out.mono ?_;rintro e w1 ⟨rfl,hT1,hk1⟩;have h1:=h.keepsNil hk1;go_wp2_with fail;refine (t2.out _ h1.reader hT1).mono ?_;rintro e w2 ⟨rfl,hT2,hk2⟩;have h2:=h1.keepsNil hk2;have d2:=h2.reader.cell0;go_wp2_with fail;refine (t3.out _ hT2).mono ?_;rintro e w3 ⟨rfl,hT3,hk3⟩;have h3:=h2.keepsNil hk3;have d3:=h3.reader.cell0;have hk03:=(hk1.trans hk2).trans hk3;clear d2;go_wp2_with fail;refine (t4.out _ hT3).mono ?_;rintro e w4 ⟨rfl,hT4,hk4⟩;have h4:=h3.keepsNil hk4;have d4:=h4.reader.cell0;have hk04:=hk03.trans hk4;clear d3;cases q4
 ·go_wp2_with fail;refine (t5.out _ hT4).mono ?_;rintro e w5 ⟨rfl,hT5,hk5⟩;have h5:=h4.keepsNil hk5;have d5:=h5.reader.cell0;have hk05:=hk04.trans hk5;clear d4;cases q5
  ·go_wp2_with fail;refine (t6.out _ hT5).mono ?_;rintro e w6 ⟨rfl,hT6,hk6⟩;have h6:=h5.keepsNil hk6;have d6:=h6.reader.cell0;have hk06:=hk05.trans hk6;have hq6:q6=true:=by simpa using c4
   subst hq6;clear d5;go_wp2_with fail;refine (p2.out _ hT6 h6.max).mono ?_;rintro e w7 hx;have hD:=Ja (FIN.out _ h6 hT6 hk06 _ e w7 hx);rcases hx with ⟨⟨m,_,rfl,_⟩ | ⟨_,rfl,_⟩,_⟩
   ·go_wp2_with fail
    go_end0
    exact hD.out
   ·go_wp2_with fail;exact ⟨rfl,hD.out⟩
  ·go_wp2_with fail;refine (p2.out _ hT5 h5.max).mono ?_;rintro e w7 hx;have hD:=Ja (FIN.out _ h5 hT5 hk05 _ e w7 hx);rcases hx with ⟨⟨m,_,rfl,_⟩ | ⟨_,rfl,_⟩,_⟩
   ·go_wp2_with fail
    go_end0
    exact hD.out
   ·go_wp2_with fail;exact ⟨rfl,hD.out⟩
 ·go_wp2_with fail;refine (p2.out _ hT4 h4.max).mono ?_;rintro e w7 hx;have hD:=Ja (FIN.out _ h4 hT4 hk04 _ e w7 hx);rcases hx with ⟨⟨m,_,rfl,_⟩ | ⟨_,rfl,_⟩,_⟩
  ·go_wp2_with fail
   go_end0
   exact hD.out
  ·go_wp2_with fail;exact ⟨rfl,hD.out⟩
theorem JoO:Jy 159:=JC Tryz.func159 (by kernel_rfl) (by kernel_rfl)
theorem Rd.rawReader {w w3:World} {B r b:Nat} {rawv outv:Value} {raw:List UInt8} {l:List (Tok × Value)} (h:Rd w B r b rawv outv raw l) (hk:Jb rawv.ownBlock.toList w w3):JK w3 r b rawv outv:=
 h.reader.keeps hk (fun hm=>Jt h.raw h.reader.blk (by decide) (by simpa using hm))
theorem JgP {w w7 w8:World} {B r b:Nat} {rawv outv v8:Value} {raw t:List UInt8} {l:List (Tok × Value)} {s:ByteArray} {k:Nat} (h7:Rd w7 B r b rawv outv raw l) (hT7:Jf w7 b s k) (hk0:Jb [b] w w7) (hk8:Jb rawv.ownBlock.toList w7 w8)
  (ho8:w8.ownsRow B 5 1 v8 (raw++t).length (Lib.byteCells (raw++t))):
  Rd (w8.setCell ⟨r,1,none⟩ v8) B r b v8 outv (raw++t) l∧Jf (w8.setCell ⟨r,1,none⟩ v8) b s k∧Jb (b::Qf r rawv outv) w (w8.setCell ⟨r,1,none⟩ v8):=by
 have hx:=h7.setRaw hk8 ho8;exact ⟨hx.1,hT7.keeps hx.2 (h7.text_touch hT7),(XV hk0).trans (JdB hx.2)⟩
set_option maxRecDepth 4000 in
theorem Jnt (B r b:Nat) (rawv outv:Value) (raw:List UInt8) (l:List (Tok × Value)) (s:ByteArray) (k:Nat) (w:World) (hs:s.size≤3000) (h:Rd w B r b rawv outv raw l) (hT:Jf w b s k) (hB:B≤w.heap.size) (hraw:raw.length≤3000)
  (hlt:k<s.size) (c1:Za s k ⟨#[60]⟩=false) (c2:Za s k ⟨#[60,47]⟩=false) (c3:Ju s k [60,33,45,45]=false) (c4:Ju s k [60,33]=false) (c5:Ju s k [60,63]=false) (c6:Ju s k [60,47]=false):
  Calls Tryz.prog 79 #[.pointer (some ⟨r,0,none⟩)] w fun e w'=>Xf B r b rawv outv raw l s w (Jaw s.data.toList k raw (l.map (·.1))) e w':=by
 have t1:=Ja (Jav r b rawv outv s ⟨#[60]⟩ k w hs (by decide) h.reader hT (by omega));have t2:=Ja (fun (w:World) hR hT=>Jav r b rawv outv s ⟨#[60,47]⟩ k w hs (by decide) hR hT (by omega));have t3:=Ja (fun (w:World) hT=>Jak b s k ⟨#[60,33,45,45]⟩ w hT (by omega));have t4:=Ja (fun (w:World) hT=>Jak b s k ⟨#[60,33]⟩ w hT (by omega));have t5:=Ja (fun (w:World) hT=>Jak b s k ⟨#[60,63]⟩ w hT (by omega));have t6:=Ja (fun (w:World) hT=>Jak b s k ⟨#[60,47]⟩ w hT (by omega));rw [c1] at t1;rw [c2] at t2;rw [show Ju s k (⟨#[60,33,45,45]⟩:ByteArray).data.toList=false from c3] at t3;rw [show Ju s k (⟨#[60,33]⟩:ByteArray).data.toList=false from c4] at t4;rw [show Ju s k (⟨#[60,63]⟩:ByteArray).data.toList=false from c5] at t5;rw [show Ju s k (⟨#[60,47]⟩:ByteArray).data.toList=false from c6] at t6;have ho1:=Ja (fun (w:World) hT=>Q2 b s k w hs hT hlt);have hps:=Ja (fun (w:World) hT=>Zg 159 YE JoO JrG b s (k+1) w hs hT (by omega));have hLl:=Xa YE s (k+1) (by omega);unfold Jaw;rw [show s.data.toList.getD k 0=Jr s k from rfl];generalize (s.data.toList.drop (k+1)).takeWhile YE=L at *;obtain ⟨i0,hi,hz0,hz1,hz2⟩:=info_parts Tryz.info5;clear c1 c2 c3 c4 c5 c6;go_enter Tryz.func79,Tryz.ntmps79;go_wp2_with fail;refine t1.out.mono ?_;rintro e w1 ⟨rfl,hT1,hk1⟩;have h1:=h.keepsNil hk1;go_wp2_with fail;refine (t2.out _ h1.reader hT1).mono ?_;rintro e w2 ⟨rfl,hT2,hk2⟩;have h2:=h1.keepsNil hk2;have d2:=h2.reader.cell0;go_wp2_with fail;refine (t3.out _ hT2).mono ?_;rintro e w3 ⟨rfl,hT3,hk3⟩;have h3:=h2.keepsNil hk3;have d3:=h3.reader.cell0;have hk03:=(hk1.trans hk2).trans hk3;clear d2;go_wp2_with fail;refine (t4.out _ hT3).mono ?_;rintro e w4 ⟨rfl,hT4,hk4⟩;have h4:=h3.keepsNil hk4;have d4:=h4.reader.cell0;have hk04:=hk03.trans hk4;clear d3;go_wp2_with fail;refine (t5.out _ hT4).mono ?_;rintro e w5 ⟨rfl,hT5,hk5⟩;have h5:=h4.keepsNil hk5;have d5:=h5.reader.cell0;have hk05:=hk04.trans hk5;clear d4;go_wp2_with fail;refine (t6.out _ hT5).mono ?_;rintro e w6 ⟨rfl,hT6,hk6⟩;have h6:=h5.keepsNil hk6;have hk06:=hk05.trans hk6;have hB6:=Nat.le_trans hB hk06.size;clear d5 h1 h2 h3 h4 h5 hT1 hT2 hT3 hT4 hT5 hk1 hk2 hk3 hk4 hk5 hk6 hk03 hk04 hk05 t1 t2 t3 t4 t5 t6;have d0:=h6.reader.cell0;have d1:=h6.reader.cell1;go_upto_region 0 with fail
 go_cut [] from 2 to 15 (fun wc=> ∃ rawv',Rd wc B r b rawv' outv (raw++[Jr s k]) l∧Jf wc b s (k+1)∧Jb (b::Qf r rawv outv) w wc∧ZX w (Qf r rawv' outv) (Qf r rawv outv))
 case first=>
  go_region_law (first
   | (refine Xg rfl 157 _ _ rfl JoN #[.pointer (some ⟨b,0,none⟩)] (by simp [Act.eval]) (ho1.out _ (show Jf w6.drew b s k from hT6)) ?_;rintro e w7 ⟨rfl,hT7,hk7⟩;refine ⟨_,rfl,?_⟩;have h7:=h6.keepsText hT6 (Xy hk7);have e1:=h7.reader.cell1;have e1a: ∀ o,(w7.alloc o).cell? ⟨r,1,none⟩=some rawv:=fun o=>(JI (a:=⟨r,1,none⟩) h7.reader.lt o).trans e1)
   | (refine JaN rfl _ _ 107 rfl B 5 i0 _ 1 1 Tryz.underlying107 hi hz0 hz1 hz2 rfl (by decide) rawv raw.length (Lib.byteCells raw) rfl (h7.raw.alloc _) ⟨w7.heap.size,0,none⟩ 1 1 [.int .u8 ((Jr s k).toNat:Int)] rfl rfl (J9 w7 _ 5) (by intro u hu;simp at hu;subst hu;rfl) (by unfold maxLen;omega) (by omega) (Nat.le_trans hB6 (Nat.le_trans hk7.size (by simp))) ?_;intro v8 w8 ho8 hg8 hw8;obtain ⟨o8,c8,rfl⟩:=Jg ho8;have hk8:Jb rawv.ownBlock.toList w7 w8:=((Jb.refl _ w7).alloc _).grown hg8 (fun i e=>.inl (by simp [e]));have hR8:=h7.rawReader hk8;have g8:=hR8.cell1;have f8:=hR8.free))
  all_goals go_wp2
  all_goals go_meet
  all_goals
   have hx:=JgP (w:=w) h7 hT7 ((hk06.to (by simp)).trans (Xy hk7)) hk8 (Jaa (t:=[Jr s k]) ho8);exact ⟨_,hx.1,hx.2.1,hx.2.2,Jn1 hw8 (Nat.le_trans hk06.size (Nat.le_trans (Xy hk7).size (by simp)))⟩
 case rest=>
  obtain ⟨rawv',h9,hT9,hk9,hw9⟩:=hcut;have hB9:=Nat.le_trans hB hk9.size;have e0:=h9.reader.cell0;have e1:=h9.reader.cell1;have hr9:(raw++[Jr s k]).length≤3001:=by simp;omega
  generalize hrr:raw++[Jr s k]=raw9 at *;have hLs:L.length≤3000:=by omega
  have HR:=Ja hrr;clear d0 d1 hrr;go_upto_region 1 with fail
  go_region_law (first
   | (refine Xg rfl 158 _ _ rfl JiI #[.pointer (some ⟨b,0,none⟩),.func (.func 159) #[] #[]] (by simp [Act.eval]) (hps.out _ (show Jf wc.drew b s (k+1) from hT9)) ?_;rintro e w7 ⟨rfl,hT7,hk7⟩;refine ⟨_,rfl,?_⟩;have h7:=h9.keepsText hT9 (Xy hk7);have e1:=h7.reader.cell1)
   | (refine JfG rfl _ _ 107 9 rfl B 5 i0 Tryz.underlying107 Tryz.underlying9 hi hz0 hz1 hz2 rawv' raw9.length (Lib.byteCells raw9) rfl h7.raw ⟨L.toArray⟩ rfl (by rw [Jv];unfold maxLen;omega) (by rw [Jv];omega) (Nat.le_trans hB9 hk7.size) ?_;intro v8 w8 ho8 hg8;obtain ⟨o8,c8,rfl⟩:=Jg ho8;have hk8:Jb rawv'.ownBlock.toList w7 w8:=(Jb.refl _ w7).grown hg8 (fun i e=>.inl (by simp [e]));have hR8:=h7.rawReader hk8;have g8:=hR8.cell1;have f8:=hR8.free))
  all_goals go_wp2
  all_goals go_end0
  all_goals
   have hx:=JgP (w:=wc) h7 hT7 (Xy hk7) hk8 (Ja7 (t:=⟨L.toArray⟩) ho8);exact ⟨.inl ⟨_,raw9++L,_,_,l,by rw [←HR.out],rfl,hx.1,hx.2.1⟩,hk9.within hx.2.2 (fun i hi hlt=>by
    rcases List.mem_cons.1 hi with rfl | hi
    ·simp
    ·exact List.mem_cons_of_mem _ (hw9 i hi hlt))⟩
def stL (l:List UInt8) (k:Nat) (p:List UInt8):Bool:=p.isPrefixOf (l.drop k)
def XD (l:List UInt8) (k:Nat) (p:List UInt8):Bool:=stL l k p&&(decide (k+p.length<l.length)&&J2 (l.getD (k+p.length) 0))
def Qa (l:List UInt8) (k:Nat) (raw:List UInt8) (out:List Tok):Option (Nat × List UInt8 × List Tok):=
 if XD l k [60]=true then Jaq l k raw out
 else if XD l k [60,47]=true then Zc l k raw out
 else if stL l k [60,33,45,45]=true then Jd0 l k raw out
 else if (stL l k [60,33] || (stL l k [60,63] || stL l k [60,47]))=true then Jbl l k raw out
 else Jaw l k raw out
theorem Jp1 (B r b:Nat) (rawv outv:Value) (raw:List UInt8) (l:List (Tok × Value)) (s:ByteArray) (k:Nat) (w:World) (hs:s.size≤3000) (h:Rd w B r b rawv outv raw l) (hT:Jf w b s k) (hB:B≤w.heap.size) (hraw:raw.length≤3000) (hl:l.length≤90000) (hlt:k<s.size):
  Calls Tryz.prog 79 #[.pointer (some ⟨r,0,none⟩)] w fun e w'=>Xf B r b rawv outv raw l s w (Qa s.data.toList k raw (l.map (·.1))) e w':=by
 unfold Qa;by_cases c1:XD s.data.toList k [60]=true
 ·rw [if_pos c1];exact Jns B r b rawv outv raw l s k w hs h hT hB hraw hl hlt c1
 rw [if_neg c1];have c1':Za s k ⟨#[60]⟩=false:=by simpa using (show ¬ Za s k ⟨#[60]⟩=true from c1)
 by_cases c2:XD s.data.toList k [60,47]=true
 ·rw [if_pos c2];exact JlG B r b rawv outv raw l s k w hs h hT hB hraw hl hlt c1' c2
 rw [if_neg c2];have c2':Za s k ⟨#[60,47]⟩=false:=by simpa using (show ¬ Za s k ⟨#[60,47]⟩=true from c2)
 by_cases c3:stL s.data.toList k [60,33,45,45]=true
 ·rw [if_pos c3];exact JjD B r b rawv outv raw l s k w hs h hT hlt c1' c2' c3
 rw [if_neg c3];have c3':Ju s k [60,33,45,45]=false:=by simpa using (show ¬ Ju s k [60,33,45,45]=true from c3)
 by_cases c4:(stL s.data.toList k [60,33] || (stL s.data.toList k [60,63] || stL s.data.toList k [60,47]))=true
 ·rw [if_pos c4];exact Jnq B r b rawv outv raw l s k w hs h hT hlt c1' c2' c3' c4
 rw [if_neg c4];have c4':Ju s k [60,33]=false∧Ju s k [60,63]=false∧Ju s k [60,47]=false:=by simpa using (show ¬ (Ju s k [60,33] || (Ju s k [60,63] || Ju s k [60,47]))=true from c4)
 exact Jnt B r b rawv outv raw l s k w hs h hT hB hraw hlt c1' c2' c3' c4'.1 c4'.2.1 c4'.2.2
theorem JiU: ∀ (l p:List UInt8),0≤Lib.index l p→Lib.index l p+p.length≤l.length
 | [],p=>by
   unfold Lib.index;split
   ·rename_i h;simp_all
   ·simp
 | c::l,p=>by
   have ih:=JiU l p;unfold Lib.index;split
   ·rename_i h;have h':p<+:c::l:=by simpa using h
    have:=h'.length_le;simp at this ⊢;omega
   ·split
    ·simp
    ·rename_i h2;intro h;have h3:Lib.index l p≠ -1:=by simpa using h2
     simp only [List.length_cons];have:=ih (by omega);omega
theorem Jfd {p l:List UInt8} {m:Nat} (h:Xx p l=some m):p.length≤m∧m≤l.length:=by
 unfold Xx at h;split at h
 ·simp at h
 ·simp only [Option.some.injEq] at h;have:=JiU l p (by omega);omega
theorem Jcp (l:List UInt8): ∀ (f k:Nat) (acc a:List Jw) (k2:Nat),JM l f k acc=some (a,k2)→k≤k2∧k2<l.length
 | 0,k,acc,a,k2,h=>by simp [JM] at h
 | f+1,k,acc,a,k2,h=>by
   have e:=(Y5 h _ rfl).symm;split at e
   ·simp at e
   ·rename_i d q hd;have h2:=congrArg List.length hd;simp only [List.length_drop,List.length_cons] at h2;split at e
    ·simp only [Option.some.injEq,Prod.mk.injEq] at e;omega
    ·split at e
     ·simp at e
     ·have:=Jcp l f _ _ _ _ e;omega
theorem Jj7 (raw:List UInt8):(Xp raw).length≤1:=by unfold Xp;split<;>simp
theorem Xr {l:List UInt8} {k:Nat} {raw:List UInt8} {out:List Tok} {k':Nat} {raw':List UInt8} {out':List Tok} (h:Qa l k raw out=some (k',raw',out')) (hk:k<l.length):
  k<k'∧k'≤l.length∧raw'.length+k≤raw.length+k'∧out'.length≤out.length+2:=by
 unfold Qa at h;have he:=Jj7 raw;split at h
 ·unfold Jaq at h;split at h
  ·simp at h
  ·rename_i a k2 ha;have hb:=Jcp _ _ _ _ _ _ ha;split at h<;>simp only [Option.some.injEq,Prod.mk.injEq] at h<;>obtain ⟨rfl,rfl,rfl⟩:=h<;>simp<;>omega
 split at h
 ·unfold Zc at h;split at h
  ·simp at h
  ·rename_i m hm;have hb:=Jfd hm;rw [List.length_drop] at hb;simp only [List.length_cons,List.length_nil] at hb;split at h<;>simp only [Option.some.injEq,Prod.mk.injEq] at h<;>obtain ⟨rfl,rfl,rfl⟩:=h<;>simp<;>omega
 split at h
 ·unfold Jd0 at h;split at h
  ·simp at h
  ·rename_i m hm;have hb:=Jfd hm;rw [List.length_drop] at hb;simp only [List.length_cons,List.length_nil] at hb;simp only [Option.some.injEq,Prod.mk.injEq] at h;obtain ⟨rfl,rfl,rfl⟩:=h;omega
 split at h
 ·unfold Jbl at h;split at h
  ·simp at h
  ·rename_i m hm;have hb:=Jfd hm;rw [List.length_drop] at hb;simp only [List.length_cons,List.length_nil] at hb;simp only [Option.some.injEq,Prod.mk.injEq] at h;obtain ⟨rfl,rfl,rfl⟩:=h;omega
 ·unfold Jaw at h;have hb:=(List.takeWhile_sublist (l:=l.drop (k+1)) (p:=YE)).length_le;rw [List.length_drop] at hb;simp only [Option.some.injEq,Prod.mk.injEq] at h;obtain ⟨rfl,rfl,rfl⟩:=h;simp;omega
set_option maxRecDepth 100000 in
theorem JqM (K:Nat) (recv:Value) (Yes No:World→Prop) (S:List Nat) (b:Nat) (s:ByteArray) (k:Nat) (w:World) (hT:Jf w b s k) (hK:Jy K) (hb:b∈S) (hS: ∀ i,i∈S→i<w.heap.size) (hNo: ∀ w2 w3,No w2→Jb [b] w2 w3→No w3)
  (hread: ∀ w1,Jb [] w w1→Calls Tryz.prog K #[recv] w1 fun e w2=>(e=.returned (.tuple #[])∧Yes w2∨e=.panicked Yp∧No w2∧ ∃ j,Jf w2 b s j)∧Jb S w1 w2):
  Calls Tryz.prog 78 #[.pointer (some ⟨b,0,none⟩),.func (.func K) #[recv] #[]] w fun e w'=>
   (e=.returned (.bool true)∧Yes w'∨e=.returned (.bool false)∧No w'∧Jf w' b s k)∧Jb S w w':=by
 have hmf: ∀ (fn:Fn) (first cap:Array Value) (w:World),(Instr.makeFunc fn first cap).run Tryz.prog w=.ok (.func fn first cap) w:=fun _ _ _ _=>rfl;have hK':=hK;unfold Jy at hK';have c1: ∀ o,(w.alloc o).cell? ⟨b,1,none⟩=some (.int .i64 (k:Int)):=fun o=>(JI hT.lt o).trans hT.cell1;have hkS: ∀ w2,Jb S ((w.alloc (.cells #[.pointer (some ⟨b,0,none⟩)] 105)).alloc (.cells #[.int .i64 (k:Int)] 3)) w2→Jb S w w2:=fun w2 h=>(((Jb.refl S w).alloc _).alloc _).trans h
 go_enter_defers Tryz.func78,Tryz.ntmps78
 go_wp2_with fail;refine (hread _ (((Jb.refl [] w).alloc _).alloc _)).mono ?_;rintro e w2 ⟨⟨rfl,hy⟩ | ⟨rfl,hno,j,hj⟩,hk⟩
 ·go_wp2_with fail;refine leaves_cons (f:=151) (args:=#[.pointer (some ⟨w.heap.size+1,0,none⟩),.pointer (some ⟨w.heap.size,0,none⟩)]) (by simp) (by simp [go_sem]) ?_;refine (Jg5 _ _ _).mono ?_;rintro e u' w3 ⟨rfl,rfl,rfl⟩;exact ⟨_,results_tmp rfl _ _ _,.inl ⟨rfl,hy⟩,hkS _ hk⟩
 ·go_wp2_with fail;refine leaves_cons (f:=151) (args:=#[.pointer (some ⟨w.heap.size+1,0,none⟩),.pointer (some ⟨w.heap.size,0,none⟩)]) (by simp) (by simp [go_sem]) ?_;refine (Jdi b s k j (w.heap.size+1) w.heap.size _ hj ?_ ?_).mono ?_
  ·rw [hk.block _ (by rw [ZD];omega) (fun h=>by have:=hS _ h;omega)];exact Yj _ _ _
  ·rw [hk.block _ (by rw [ZD];omega) (fun h=>by have:=hS _ h;omega)];exact Yi _ _ _
  rintro e u' w3 ⟨rfl,rfl,hT3,hk3⟩;exact ⟨_,results_tmp rfl _ _ _,.inr ⟨rfl,hNo _ _ hno hk3,hT3⟩,(hkS _ hk).trans (hk3.mono fun i hi _=>by simp at hi;subst hi;exact hb)⟩
theorem Jrc:Jy 79:=JC Tryz.func79 (by kernel_rfl) (by kernel_rfl)
theorem Jrd:Jy 80:=JC Tryz.func80 (by kernel_rfl) (by kernel_rfl)
def Xl (l:List UInt8):Nat→Nat→List UInt8→List Tok→List Tok
 | 0,_,raw,out=>out++Xp raw
 | f+1,k,raw,out=>
   if l.length≤k then out++Xp raw else
    match Qa l k raw out with
    | some (k',raw',out')=>Xl l f k' raw' out'
    | none=>Xl l f l.length (raw++l.drop k) out
theorem Yn {l:List UInt8} {f k:Nat} {raw:List UInt8} {out:List Tok} (h:l.length≤k):Xl l (f+1) k raw out=out++Xp raw:=by
 simp only [Xl,if_pos h]
theorem XI {l:List UInt8} {f k:Nat} {raw:List UInt8} {out:List Tok} {k':Nat} {raw':List UInt8} {out':List Tok} (h:k<l.length) (hp:Qa l k raw out=some (k',raw',out')):Xl l (f+1) k raw out=Xl l f k' raw' out':=by
 simp only [Xl,if_neg (Nat.not_le.2 h),hp]
theorem Y7 {l:List UInt8} {f k:Nat} {raw:List UInt8} {out:List Tok} (h:k<l.length) (hp:Qa l k raw out=none):Xl l (f+1) k raw out=Xl l f l.length (raw++l.drop k) out:=by
 simp only [Xl,if_neg (Nat.not_le.2 h),hp]
def JL (l:List UInt8):List Tok:=Xl l (l.length+1) 0 [] []
def Jax (w:World) (B:Nat) (v:Value) (ts:List Tok):Prop:= ∃ l:List (Tok × Value),l.map (·.1)=ts∧w.ownsRow B 117 4 v l.length (JT l)∧ ∀ p∈l,J6 w B p
theorem Jax.keeps {w w':World} {B:Nat} {v:Value} {ts:List Tok} (h:Jax w B v ts) (hk:Jb [] w w'):Jax w' B v ts:=by
 obtain ⟨l,h1,h2,h3⟩:=h;exact ⟨l,h1,hk.owns h2 (fun _ _=>List.not_mem_nil),fun p hp=>hk.owns (h3 p hp) (fun _ _=>List.not_mem_nil)⟩
theorem Rd.toks {w:World} {B r b:Nat} {rawv outv:Value} {raw:List UInt8} {l:List (Tok × Value)} (h:Rd w B r b rawv outv raw l):Jax w B outv (l.map (·.1)):=⟨l,rfl,h.out,h.attrs⟩
theorem JtJ (b:Nat) (s:ByteArray) (k:Nat) (w:World) (hT:Jf w b s k):
  Calls Tryz.prog 77 #[.pointer (some ⟨b,0,none⟩)] w fun e w'=>e=.returned (.bool (decide (s.size≤k)))∧Jf w' b s k∧Jb [] w w':=
 (YN b s k w hT).mono fun _ _ ⟨he,_,hw⟩=>⟨he,by rw [hw];exact hT,by rw [hw];exact (Jb.refl _ _).drewN _⟩
theorem JqN (B r b:Nat) (rawv outv:Value) (raw:List UInt8) (l:List (Tok × Value)) (s:ByteArray) (k:Nat) (w:World) (hs:s.size≤3000) (h:Rd w B r b rawv outv raw l) (hT:Jf w b s k) (hB:B≤w.heap.size) (hraw:raw.length≤3000) (hl:l.length≤90000) (hlt:k<s.size)
  (P:Option (Nat × List UInt8 × List Tok)) (hP:Qa s.data.toList k raw (l.map (·.1))=P):
  Calls Tryz.prog 78 #[.pointer (some ⟨b,0,none⟩),.func (.func 79) #[.pointer (some ⟨r,0,none⟩)] #[]] w fun e w'=>
   (e=.returned (.bool true)∧(∃ k' raw' rawv' outv' l',P=some (k',raw',l'.map (·.1))∧Rd w' B r b rawv' outv' raw' l'∧Jf w' b s k')∨
    e=.returned (.bool false)∧(P=none∧Rd w' B r b rawv outv raw l)∧Jf w' b s k)∧Jb (b::Qf r rawv outv) w w':=by
 refine JqM 79 _ _ _ (b::Qf r rawv outv) b s k w hT Jrc (by simp) (fun i hi=>?_) (fun w2 w3 hno hk=>⟨hno.1,hno.2.keeps hk ?_ ?_ ?_ ?_ ?_⟩) (fun w1 hk1=>?_)
 ·rcases List.mem_cons.1 hi with rfl | hi
  ·exact hT.lt
  ·exact h.touch_lt i hi
 ·simpa using h.ne hT
 ·intro g hg hm;simp at hm;subst hm;exact Jt h.raw hT (by decide) hg
 ·intro g hg hm;simp at hm;subst hm;exact Jt h.out hT (by decide) hg
 ·intro p hp g hg hm;simp at hm;subst hm;exact Jt (h.attrs p hp) hT (by decide) hg
 ·exact h.b0
 ·refine (Jp1 B r b rawv outv raw l s k w1 hs (h.keepsNil hk1) (hT.keeps hk1 List.not_mem_nil) (Nat.le_trans hB hk1.size) hraw hl hlt).mono ?_;rw [hP];rintro e w2 ⟨⟨k',raw',rawv',outv',l',h1,h2,h3,h4⟩ | ⟨h1,h2,h3,h4⟩,hk⟩
  ·exact ⟨.inl ⟨h2,k',raw',rawv',outv',l',h1,h3,h4⟩,hk⟩
  ·exact ⟨.inr ⟨h2,⟨h1,h3⟩,h4⟩,hk⟩
set_option maxRecDepth 4000 in
theorem Jqh (s:ByteArray) (w:World) (hs:s.size≤3000) (hM:JW w):
  Calls Tryz.prog 18 #[.string s] w fun e w'=> ∃ v,e=.returned (.tuple #[v,.int .i64 0])∧Jax w' w.heap.size v (JL s.data.toList)∧Jb [] w w':=by
 have hl:=Js s;have h0:=hM.lt;obtain ⟨R,hRR⟩: ∃ R,JL s.data.toList=R:=⟨_,rfl⟩;rw [hRR];have HR0:Hid (Xl s.data.toList (s.size+1) 0 [] []=R):=by rw [←hRR];unfold JL;rw [hl];exact rfl
 clear hRR;have hgt:decide ((3000:Int)<(s.size:Int))=false:=by simp;omega
 obtain ⟨i0,hi,hz0,hz1,hz2⟩:=info_parts Tryz.info5;go_enter Tryz.func18,Tryz.ntmps18;go_wp2_with fail;refine (JfX s _).mono ?_;rintro e w1 ⟨rfl,hw1⟩;have hT1:Jf w1 w.heap.size s 0:=by rw [hw1];exact heap_alloc_new w _
 have hk1:Jb [] w w1:=by rw [hw1];exact (Jb.refl [] w).alloc _
 have hsz1:w1.heap.size=w.heap.size+1:=by rw [hw1];simp
 have HZ:=Ja hsz1;clear hw1 hsz1;go_wp2_with fail;have hR0:Rd (w1.alloc (.cells #[.pointer (some ⟨w.heap.size,0,none⟩),.slice none 0 0,.slice none 0 0] 109)) w.heap.size w1.heap.size w.heap.size (.slice none 0 0) (.slice none 0 0) [] []:=
  ⟨heap_alloc_new w1 _,World.ownsRow_nil _ _ _ _,World.ownsRow_nil _ _ _ _,by simp,hM.keeps (hk1.alloc _) List.not_mem_nil,h0,by rw [HZ.out];omega,Nat.le_refl _⟩
 have hT0:=hT1.keeps ((Jb.refl [] w1).alloc (.cells #[.pointer (some ⟨w.heap.size,0,none⟩),.slice none 0 0,.slice none 0 0] 109)) List.not_mem_nil;have hk0:Jb [] w (w1.alloc (.cells #[.pointer (some ⟨w.heap.size,0,none⟩),.slice none 0 0,.slice none 0 0] 109)):=hk1.alloc _;have hr1:w.heap.size<w1.heap.size:=by rw [HZ.out];omega
 generalize hrr:w1.heap.size=r at *;clear hT1 hk1 HZ
 go_loopg [] (s.size+1) (fun g wr=> ∃ (k:Nat) (raw:List UInt8) (rawv outv:Value) (l:List (Tok × Value)),k≤s.size∧s.size+1≤g+k∧Rd wr w.heap.size r w.heap.size rawv outv raw l∧Jf wr w.heap.size s k∧Jb [] w wr∧raw.length≤k∧l.length≤2 * k∧Hid (Xl s.data.toList g k raw (l.map (·.1))=R))
 case atStart=>exact ⟨0,[],_,_,[],Nat.zero_le _,by omega,hR0,hT0,hk0,Nat.le_refl _,Nat.le_refl _,HR0⟩
 case round=>
  obtain ⟨k,raw,rawv,outv,l,hk,hg,hRd,hT2,hkp,hra,hla,hF⟩:=hrel;clear HR0 hR0 hT0 hk0;obtain ⟨f,rfl⟩: ∃ f,gk=f+1:=⟨gk - 1,by omega⟩;have c0:=hRd.reader.cell0;go_wp2_with fail;refine (JtJ _ s k _ hT2).mono ?_;rintro e w3 ⟨rfl,hT3,hk3⟩;have h3:=hRd.keepsNil hk3;have hkp3:=hkp.trans hk3;clear c0 hRd hT2 hkp hk3;by_cases hend:s.size≤k
  ·have hd:decide (s.size≤k)=true:=by simpa using hend
   rw [hd];have hE:l.map (·.1)++Xp raw=R:=by
    have:=hF.out
    rwa [Yn (by omega)] at this
   have HE:=Ja hE;clear hE hF;go_wp2_with fail;refine (Jgh _ _ _ rawv outv raw l _ h3 hkp3.size (by omega) (by omega)).mono ?_;rintro e w4 ⟨rfl,rawv',outv',h4,hk4,_⟩;have c2:=h4.reader.cell2;have hk4':Jb [] w w4:=(hkp3.up.trans hk4).mono fun i hi hlt=>by
    simp [Qf] at hi;rcases hi with hi | hi | hi
    ·omega
    ·have:=(h3.raw.lt _ hi).1;omega
    ·have:=(h3.out.lt _ hi).1;omega
   go_wp2_with fail
   go_ret2
   refine ⟨_,rfl,?_,hk4'⟩;rw [←HE.out, ←JaB, ←List.map_append];exact h4.toks
  ·have hd:decide (s.size≤k)=false:=by simpa using hend
   rw [hd];obtain ⟨P,hP⟩: ∃ P,Qa s.data.toList k raw (l.map (·.1))=P:=⟨_,rfl⟩;have HES:=Ja (fun k' raw' out' (h:P=some (k',raw',out'))=>(XI (f:=f) (by omega) (hP.trans h)).symm.trans hF.out);have HEN:=Ja (fun (h:P=none)=>(Y7 (f:=f) (by omega) (hP.trans h)).symm.trans hF.out);have hbd:=Ja (fun k' raw' out' (h:P=some (k',raw',out'))=>Xr (hP.trans h) (by omega));have htp:=Ja (JqN _ _ _ rawv outv raw l s k w3 hs h3 hT3 hkp3.size (by omega) (by omega) (by omega) P hP);have hmf: ∀ (fn:Fn) (first cap:Array Value) (w:World),(Instr.makeFunc fn first cap).run Tryz.prog w=.ok (.func fn first cap) w:=fun _ _ _ _=>rfl;clear hF hP;have c3:=h3.reader.cell0;go_wp2_with fail;refine htp.out.mono ?_;have hin: ∀ i,i∈(w.heap.size::Qf r rawv outv)→w.heap.size≤i:=fun i hi=>by
    simp [Qf] at hi;rcases hi with hi | hi | hi | hi
    ·omega
    ·omega
    ·have:=(h3.raw.lt _ hi).1;omega
    ·have:=(h3.out.lt _ hi).1;omega
   rintro e w4 ⟨⟨rfl,k',raw',rawv',outv',l',rfl,h4,hT4⟩ | ⟨rfl,⟨rfl,h4⟩,hT4⟩,hk4⟩
   ·have hb:=hbd.out _ _ _ rfl;have hk4':Jb [] w w4:=(hkp3.up.trans hk4).mono fun i hi hlt=>by have:=hin i hi;omega
    clear c3;go_wp2_with fail
    go_roundg f
    case measure=>omega
    case rel=>exact ⟨k',raw',rawv',outv',l',by omega,by omega,h4,hT4,hk4',by omega,by simpa using (show (l'.map (·.1)).length≤2 * k' by have:=hb.2.2.2;simp at this;simp;omega),HES.out _ _ _ rfl⟩
   ·have hk4':Jb [] w w4:=(hkp3.up.trans hk4).mono fun i hi hlt=>by have:=hin i hi;omega
    have hre:=Ja (fun (w:World) hT=>JgQ w.heap.size s k w hT hk);have hst:(s.extract k s.size).data.toList=s.data.toList.drop k:=Lib.extract_to_end s k;have hsl:(s.extract k s.size).size+k=s.size:=by simp;omega
    have HRN:Hid (Xl s.data.toList f s.size (raw++(s.extract k s.size).data.toList) (l.map (·.1))=R):=by rw [hst];have:=HEN.out rfl;rwa [hl] at this
    have hrs:=Ja (fun (w5:World) hT=>JgQ w.heap.size s k w5 hT hk);generalize s.extract k s.size=X at *;have d0:=h4.reader.cell0;have d1:=h4.reader.cell1;clear c3 hre hst;go_upto_region 6 with fail
    go_region_law (first
     | (refine Xg rfl 80 _ _ rfl Jrd #[.pointer (some ⟨w.heap.size,0,none⟩)] (by simp [Act.eval]) (hrs.out _ (show Jf w4.drew w.heap.size s k from hT4)) ?_;rintro e w7 ⟨rfl,hT7,hk7⟩;refine ⟨_,rfl,?_⟩;have h7:=h4.keepsText hT4 (Xy hk7);have e1:=h7.reader.cell1)
     | (refine JfG rfl _ _ 107 9 rfl w.heap.size 5 i0 Tryz.underlying107 Tryz.underlying9 hi hz0 hz1 hz2 rawv raw.length (Lib.byteCells raw) rfl h7.raw X rfl (by unfold maxLen;omega) (by omega) (Nat.le_trans hk4'.size hk7.size) ?_;intro v8 w8 ho8 hg8;obtain ⟨o8,c8,rfl⟩:=Jg ho8;have hk8:Jb rawv.ownBlock.toList w7 w8:=(Jb.refl _ w7).grown hg8 (fun i e=>.inl (by simp [e]));have hR8:=h7.rawReader hk8;have g8:=hR8.cell1;have f8:=hR8.free))
    all_goals go_wp2
    all_goals
     have hx:=JgP (w:=w4) h7 hT7 (Xy hk7) hk8 (Ja7 (t:=X) ho8);have hk9:=(hk4'.up.trans hx.2.2).mono (T:=[]) fun i hi hlt=>by have:=hin i hi;omega
     go_roundg f
     case measure=>omega
     case rel=>exact ⟨s.size,_,_,outv,l,by omega,by omega,hx.1,hx.2.1,hk9,by rw [List.length_append,Js];omega,by omega,HRN⟩
theorem JrO (s:ByteArray) (w:World) (hs:s.size≤maxLen) (hM:JW w):
  Calls Tryz.prog 18 #[.string s] w fun e w'=>Jb [] w w'∧
   if 3000<s.size then e=.returned (.tuple #[.slice none 0 0,.int .i64 2]) else ∃ v,e=.returned (.tuple #[v,.int .i64 0])∧Jax w' w.heap.size v (JL s.data.toList):=by
 by_cases h:3000<s.size
 ·simp only [if_pos h];have hgt:decide ((3000:Int)<(s.size:Int))=true:=by simp;omega
  have hlen:s.size≤9223372036854775807:=hs;go_enter Tryz.func18,Tryz.ntmps18;go_wp2_with fail
  go_ret2
  exact ⟨Jb.refl _ _,rfl⟩
 ·simp only [if_neg h];refine (Jqh s w (by omega) hM).mono ?_;rintro e w' ⟨v,he,ht,hk⟩;exact ⟨hk,v,he,ht⟩
def Jh (w:World) (v:Value) (n z:Nat) (xs:List Value):Prop:=
 xs.length=n * z∧((v=.slice none 0 0∧n=0)∨(∃ g o c,v=.slice (some ⟨g,o,none⟩) n c∧n≤c∧c≤maxLen∧ ∀ j u,xs[j]?=some u→w.cell? ⟨g,o+j,none⟩=some u)∨(n=0∧ ∃ a c,v=.slice a 0 c∧c≤maxLen))
theorem Jh.form {w:World} {v:Value} {n z:Nat} {xs:List Value} (h:Jh w v n z xs): ∃ o c,v=.slice o n c∧n≤c∧c≤maxLen:=by
 rcases h.2 with ⟨rfl,rfl⟩ | ⟨g,o,c,rfl,h1,h2,_⟩ | ⟨rfl,a,c,rfl,h1⟩
 ·exact ⟨_,_,rfl,Nat.le_refl _,Nat.zero_le _⟩
 ·exact ⟨_,_,rfl,h1,h2⟩
 ·exact ⟨_,_,rfl,Nat.zero_le _,h1⟩
theorem Jh.addr {w:World} {a:Option Addr} {n m c z:Nat} {xs:List Value} (h:Jh w (.slice a m c) n z xs) (hn:0<n): ∃ g o,a=some ⟨g,o,none⟩∧ ∀ j u,xs[j]?=some u→w.cell? ⟨g,o+j,none⟩=some u:=by
 rcases h.2 with ⟨_,h0⟩ | ⟨g,o,c',he,_,_,hc⟩ | ⟨h0,_⟩
 rotate_left 2
 ·omega
 ·omega
 ·simp at he;exact ⟨g,o,he.1,hc⟩
theorem Jh.of_row {w:World} {B:Nat} {e:TypeId} {z:Nat} {v:Value} {n:Nat} {xs:List Value} (h:w.ownsRow B e z v n xs):Jh w v n z xs:=by
 refine ⟨h.1,?_⟩;rcases h.2 with ⟨h1,h2⟩ | ⟨g,cap,cur,rfl,_,_,h3,h4,_⟩
 ·exact .inl ⟨h1,h2⟩
 ·refine .inr (.inl ⟨g,0,cap,rfl,h3,h4,fun j u hj=>?_⟩);have:=h.cells (g:=g) rfl j u hj;rw [ZY] at this;rw [Nat.zero_add];exact this
theorem Jc {w w':World} (hk:Jb [] w w') {a:Addr} {u:Value} (h:w.cell? a=some u):w'.cell? a=some u:=by
 have hlt:a.block<w.heap.size:=by
  rcases Nat.lt_or_ge a.block w.heap.size with h' | h'
  ·exact h'
  ·unfold World.cell? at h;rw [Array.getElem?_eq_none h'] at h;simp at h
 exact (World.cell?_of_block (hk.block _ hlt List.not_mem_nil)).trans h
theorem Jh.keeps {w w':World} {v:Value} {n z:Nat} {xs:List Value} (h:Jh w v n z xs) (hk:Jb [] w w'):Jh w' v n z xs:=by
 refine ⟨h.1,?_⟩;rcases h.2 with ⟨h1,h2⟩ | ⟨g,o,c,rfl,h3,h4,h5⟩ | h6
 ·exact .inl ⟨h1,h2⟩
 ·exact .inr (.inl ⟨g,o,c,rfl,h3,h4,fun j u hj=>Jc hk (h5 j u hj)⟩)
 ·exact .inr (.inr h6)
theorem Zw (l:List Jw) (k:Nat) (hk:k<l.length):(Jj l)[k * 2]?=some (.string ⟨l[k].1.toArray⟩):=by
 induction l generalizing k with
 | nil=>simp at hk
 | cons p l ih=>
   have e:Jj (p::l)=.string ⟨p.1.toArray⟩::.string ⟨p.2.toArray⟩::Jj l:=by simp [Jj]
   rw [e];cases k with
   | zero=>simp
   | succ k=>rw [show (k+1) * 2=k * 2+1+1 from by omega];simpa using ih k (by simpa using hk)
theorem JaZ (l:List Jw) (k:Nat) (hk:k<l.length):(Jj l)[k * 2+1]?=some (.string ⟨l[k].2.toArray⟩):=by
 induction l generalizing k with
 | nil=>simp at hk
 | cons p l ih=>
   have e:Jj (p::l)=.string ⟨p.1.toArray⟩::.string ⟨p.2.toArray⟩::Jj l:=by simp [Jj]
   rw [e];cases k with
   | zero=>simp
   | succ k=>rw [show (k+1) * 2+1=(k * 2+1)+1+1 from by omega];simpa using ih k (by simpa using hk)
theorem Jca (x y:List UInt8):((⟨x.toArray⟩:ByteArray).toList==(⟨y.toArray⟩:ByteArray).toList)=decide (x=y):=by
 rw [ByteArray.toList_eq,ByteArray.toList_eq,Bool.eq_iff_iff];simp
theorem JnQ (x y:List UInt8):((⟨x.toArray⟩:ByteArray).toList != (⟨y.toArray⟩:ByteArray).toList)=decide (x≠y):=by
 unfold bne;rw [Jca];simp
def Jbd (w:World) (v:Value) (ts:List Tok):Prop:= ∃ l:List (Tok × Value),l.map (·.1)=ts∧Jh w v l.length 4 (JT l)∧ ∀ p∈l,Jh w p.2 p.1.attrs.length 2 (Jj p.1.attrs)
theorem Jax.toks {w:World} {B:Nat} {v:Value} {ts:List Tok} (h:Jax w B v ts):Jbd w v ts:=by
 obtain ⟨l,h1,h2,h3⟩:=h;exact ⟨l,h1,Jh.of_row h2,fun p hp=>Jh.of_row (h3 p hp)⟩
theorem Jbd.keeps {w w':World} {v:Value} {ts:List Tok} (h:Jbd w v ts) (hk:Jb [] w w'):Jbd w' v ts:=by
 obtain ⟨l,h1,h2,h3⟩:=h;exact ⟨l,h1,h2.keeps hk,fun p hp=>(h3 p hp).keeps hk⟩
theorem Jh1 (l:List (Tok × Value)) (k j:Nat) (hk:k<l.length) (hj:j<4):(JT l)[k * 4+j]?=(QS l[k])[j]?:=by
 induction l generalizing k with
 | nil=>simp at hk
 | cons p l ih=>
   have e:JT (p::l)=QS p++JT l:=by simp [JT]
   have h4:(QS p).length=4:=rfl;rw [e];cases k with
   | zero=>rw [Nat.zero_mul,Nat.zero_add,List.getElem?_append_left (by omega)];rfl
   | succ k=>
     rw [List.getElem?_append_right (by omega),h4,show (k+1) * 4+j - 4=k * 4+j from by omega];exact ih k (by simpa using hk)
theorem JbS {w:World} {g o:Nat} {l:List (Tok × Value)} (h: ∀ j u,(JT l)[j]?=some u→w.cell? ⟨g,o+j,none⟩=some u) (k:Nat) (hk:k<l.length):
  w.cell? ⟨g,o+k * 4,none⟩=some (.int .i64 l[k].1.kind)∧w.cell? ⟨g,o+k * 4+1,none⟩=some (.string ⟨l[k].1.name.toArray⟩)∧w.cell? ⟨g,o+k * 4+2,none⟩=some l[k].2∧w.cell? ⟨g,o+k * 4+3,none⟩=some (.string ⟨l[k].1.text.toArray⟩):=by
 have e: ∀ j,j<4→o+k * 4+j=o+(k * 4+j):=fun j _=>by omega
 refine ⟨?_,?_,?_,?_⟩
 ·exact h (k * 4) _ ((Jh1 l k 0 hk (by omega)).trans rfl)
 ·rw [e 1 (by omega)];exact h _ _ ((Jh1 l k 1 hk (by omega)).trans rfl)
 ·rw [e 2 (by omega)];exact h _ _ ((Jh1 l k 2 hk (by omega)).trans rfl)
 ·rw [e 3 (by omega)];exact h _ _ ((Jh1 l k 3 hk (by omega)).trans rfl)
end Go.Proofs.YtlcljanibjdejaaGreat
namespace Go.Proofs.YtlcljanibjdejaaGreat
open Go.RowKit
theorem Jhy (s:ByteArray) (w:World) (hs:s.size≤maxLen):
  Calls Tryz.prog 231 #[.string s] w fun e w'=>e=.returned (.bool (JB s.data.toList))∧w'=w:=by
 by_cases h:s.size≤3000
 ·exact JcF s w h
 ·have hf:JB s.data.toList=false:=by
   unfold JB;have:decide (s.data.toList.length≤20)=false:=by have:=Js s;simp;omega
   rw [this];simp
  have hne:s.toList.isEmpty=false:=by
   rw [ByteArray.toList_eq];have:=Js s;cases hq:s.data.toList with
   | nil=>rw [hq] at this;simp at this;omega
   | cons a b=>rfl
  rw [hf];clear hf;unfold maxLen at hs;have hg:decide ((20:Int)<(s.size:Int))=true:=by simp;omega
  go_enter Tryz.func231,Tryz.ntmps231;go_wp2_with fail;go_ret;exact ⟨rfl,rfl⟩
end Go.Proofs.YtlcljanibjdejaaGreat
namespace Go.Proofs.YtlcljanibjdejaaGreat
open Go.RowKit Go.Maps
def QR:List Jw→List (List UInt8)→Int
 | [],_=>0
 | p::r,met=>if JB p.1=false then 1 else if p.1∈met then 6 else QR r (met++[p.1])
theorem Jox (l:List Jw) (k:Nat) (hk:k<l.length) (met:List (List UInt8)):QR (l.drop k) met=if JB l[k].1=false then 1 else if l[k].1∈met then 6 else QR (l.drop (k+1)) (met++[l[k].1]):=by
 rw [List.drop_eq_getElem_cons hk];rfl
def JjR (l:List Jw):Prop:= ∀ p∈l,p.1.length≤maxLen
theorem Jo0:Jy 231:=JC Tryz.func231 (by kernel_rfl) (by kernel_rfl)
set_option maxRecDepth 4000 in
theorem Jh9 (w:World) (v:Value) (l:List Jw) (hv:Jh w v l.length 2 (Jj l)) (hf:JjR l):
  Calls Tryz.prog 236 #[v,.func (.func 231) #[] #[]] w fun e w'=>e=.returned (.int .i64 (QR l []))∧Jb [] w w':=by
 have hE:=Jo0;unfold Jy at hE;obtain ⟨o,c,rfl,h1,h2⟩:=hv.form;obtain ⟨R,hR⟩: ∃ R,QR l []=R:=⟨_,rfl⟩;rw [hR];have HR:=Ja hR;clear hR;unfold maxLen at h2;have hmm:=@run_makeMap Tryz.prog;go_enter Tryz.func236,Tryz.ntmps236;go_wp2_with fail;have hset0:XQ (w.alloc (.map #[] 0)) w.heap.size []:=XQ.made w;have hk0:Jb [] w (w.alloc (.map #[] 0)):=(Jb.refl [] w).alloc _;go_loopw [13] (fun i wr=> ∃ k:Nat,k≤l.length∧i=.int .i64 k∧XQ wr w.heap.size ((l.take k).map (·.1))∧Jb [] w wr∧Hid (QR (l.drop k) ((l.take k).map (·.1))=R)) (fun i _=>l.length - (intOf i).toNat)
 case atStart=>exact ⟨0,Nat.zero_le _,rfl,hset0,hk0,HR⟩
 case round=>
  obtain ⟨k,hk,rfl,hset,hkw,hC⟩:=hrel;clear HR hset0 hk0;by_cases hlt:k<l.length
  ·obtain ⟨g,x,rfl,hc⟩:=(hv.keeps hkw).addr (by omega);have a0:=hc _ _ (Zw l k hlt);have a1:=hc _ _ (JaZ l k hlt);rw [←Nat.add_assoc] at a1;have hC1:=hC.out;rw [Jox l k hlt] at hC1;have hfk:l[k].1.length≤maxLen:=hf _ (List.getElem_mem hlt);have hts:(l.take (k+1)).map (·.1)=(l.take k).map (·.1)++[l[k].1]:=by rw [List.take_succ_eq_append_getElem hlt,List.map_append];rfl
   have hml:((l.take k).map (·.1)).length<maxLen:=by simp;unfold maxLen;omega
   have HC1:=Ja hC1;clear hC hC1 hc;generalize (l.take k).map (·.1)=met at *;have HTS:=Ja hts;clear hts;generalize l[k]=p at *;obtain ⟨n,v⟩:=p;have hA:Qg (wr.alloc (.cells #[.string ⟨n.toArray⟩,.string ⟨v.toArray⟩] 52)) wr.heap.size ⟨n.toArray⟩ ⟨v.toArray⟩:=heap_alloc_new wr _;have hkA:Jb [] wr (wr.alloc (.cells #[.string ⟨n.toArray⟩,.string ⟨v.toArray⟩] 52)):=(Jb.refl [] wr).alloc _;have hsetA:=hset.keeps hkA List.not_mem_nil;have hkwA:=hkw.trans hkA;have hnm:=Ja (fun w=>Jhy ⟨n.toArray⟩ w hfk);rw [Qc] at hnm;simp only at a0 a1;go_wp2_with fail;refine (hnm.out _).mono ?_;rintro e w3 ⟨rfl,rfl⟩;clear a0 a1;have c0:=hA.cell0;cases hin:JB n
   ·have hR1:R=1:=by rw [←HC1.out];simp [hin]
    subst hR1;go_wp2_with fail;go_ret;exact ⟨rfl,hkwA⟩
   ·by_cases hmt:n∈met
    ·have hR6:R=6:=by rw [←HC1.out];simp [hin,hmt]
     subst hR6;have hd:decide (n∈met)=true:=by simpa using hmt
     have hlook:=hsetA.look n hfk;rw [hd] at hlook;go_wp2_with fail;go_ret;exact ⟨rfl,hkwA.alloc _⟩
    ·have hd:decide (n∈met)=false:=by simpa using hmt
     have hlook:=hsetA.look n hfk;rw [hd] at hlook;have hk2:Jb [] wr ((wr.alloc (.cells #[.string ⟨n.toArray⟩,.string ⟨v.toArray⟩] 52)).alloc (.cells #[] 182)):=hkA.alloc _;obtain ⟨w6,hup,hset6,hk6⟩:=(hset.keeps hk2 List.not_mem_nil).add n hfk hml;have c0':=(hA.keeps ((Jb.refl [] _).alloc (.cells #[] 182)) List.not_mem_nil).cell0;have HC2:Hid (QR (l.drop (k+1)) ((l.take (k+1)).map (·.1))=R):=by
      rw [HTS.out];have:=HC1.out;simp [hin,hmt] at this;exact this
     have hkw6:Jb [] w w6:=((hkw.trans hk2).up.trans hk6).mono fun i hi hlt=>by simp at hi;omega
     have hset7:XQ w6 w.heap.size ((l.take (k+1)).map (·.1)):=by rw [HTS.out];exact hset6
     clear HC1;go_wp2_with fail;go_roundw
     case rel=>exact ⟨k+1,by omega,by go_num,hset7,hkw6,HC2⟩
     case measure=>simp [intOf];omega
  ·have hRR:R=0:=by
    rw [←hC.out,List.drop_eq_nil_of_le (by omega)];rfl
   subst hRR;go_wp2_with fail;go_ret;exact ⟨rfl,hkw⟩
def Xi (t:Tok):Int:=
 if t.kind=1 then (if t.name≠[]∨t.attrs≠[]∨t.text=[] then 1 else 0)
 else if t.kind=2 then (if t.text≠[]∨JB t.name=false then 1 else QR t.attrs [])
 else if t.kind=3 then (if t.text≠[]∨t.attrs≠[]∨JB t.name=false then 1 else 0)
 else 7
def JjK (t:Tok):Prop:=t.name.length≤maxLen∧JjR t.attrs
theorem Jfc (x:List UInt8):((⟨x.toArray⟩:ByteArray).toList==(⟨#[]⟩:ByteArray).toList)=decide (x=[]):=Jca x []
set_option maxRecDepth 4000 in
theorem Jia (w:World) (kd:Int) (nm tx:List UInt8) (la:List Jw) (v:Value) (hv:Jh w v la.length 2 (Jj la)) (hf:JjK ⟨kd,nm,la,tx⟩):
  Calls Tryz.prog 161 #[.agg #[.int .i64 kd,.string ⟨nm.toArray⟩,v,.string ⟨tx.toArray⟩]] w fun e w'=>e=.returned (.int .i64 (Xi ⟨kd,nm,la,tx⟩))∧Jb [] w w':=by
 obtain ⟨o,c,rfl,h1,h2⟩:=hv.form;unfold maxLen at h2;have ha:Jb [] w (w.alloc (.cells #[.int .i64 kd,.string ⟨nm.toArray⟩,.slice o la.length c,.string ⟨tx.toArray⟩] 117)):=(Jb.refl [] w).alloc _;have hnm:=Ja (fun w=>Jhy ⟨nm.toArray⟩ w hf.1);rw [Qc] at hnm;have hca:=Ja (fun (w':World) (hk:Jb [] w w')=>Jh9 w' _ la (hv.keeps hk) hf.2);obtain ⟨R,hR⟩: ∃ R,Xi ⟨kd,nm,la,tx⟩=R:=⟨_,rfl⟩;rw [hR];unfold Xi at hR;simp only at hR;generalize QR la []=A at *;have hal:la≠[]↔0<la.length:=by cases la<;>simp
 by_cases k1:kd=1
 ·subst k1;rw [if_pos rfl] at hR;by_cases n1:nm=[]
  ·subst n1;by_cases a1:la=[]
   ·subst a1;by_cases t1:tx=[]
    ·subst t1;simp at hR;subst hR;clear hal;go_enter Tryz.func161,Tryz.ntmps161;go_wp2_with fail;go_ret;exact ⟨rfl,ha⟩
    ·simp [t1] at hR;subst hR;have he:tx.isEmpty=false:=by simpa using t1
     clear hal;go_enter Tryz.func161,Tryz.ntmps161;go_wp2_with fail;go_ret;exact ⟨rfl,ha⟩
   ·have hz:=hal.1 a1;simp [a1] at hR;subst hR;clear hal a1;go_enter Tryz.func161,Tryz.ntmps161;go_wp2_with fail;go_ret;exact ⟨rfl,ha⟩
  ·simp [n1] at hR;subst hR;clear hal;go_enter Tryz.func161,Tryz.ntmps161;go_wp2_with fail;go_ret;exact ⟨rfl,ha⟩
 ·rw [if_neg k1] at hR;have e1:(kd==1)=false:=by simpa using k1
  by_cases k2:kd=2
  ·subst k2;rw [if_pos rfl] at hR;by_cases t1:tx=[]
   ·subst t1;cases hin:JB nm
    ·rw [hin] at hnm;simp [hin] at hR;subst hR;clear hal;go_enter Tryz.func161,Tryz.ntmps161;go_wp2_with fail;refine (hnm.out _).mono ?_;rintro e w1 ⟨rfl,rfl⟩;go_wp2_with fail;go_ret;exact ⟨rfl,ha⟩
    ·rw [hin] at hnm;simp [hin] at hR;subst hR;clear hal;go_enter Tryz.func161,Tryz.ntmps161;go_wp2_with fail;refine (hnm.out _).mono ?_;rintro e w1 ⟨rfl,rfl⟩;go_wp2_with fail;refine (hca.out _ ha).mono ?_;rintro e w2 ⟨rfl,hk2⟩;go_wp2_with fail;go_ret;exact ⟨rfl,ha.trans hk2⟩
   ·simp [t1] at hR;subst hR;clear hal;go_enter Tryz.func161,Tryz.ntmps161;go_wp2_with fail;go_ret;exact ⟨rfl,ha⟩
  ·rw [if_neg k2] at hR;have e2:(kd==2)=false:=by simpa using k2
   by_cases k3:kd=3
   ·subst k3;rw [if_pos rfl] at hR;by_cases t1:tx=[]
    ·subst t1;by_cases a1:la=[]
     ·subst a1;cases hin:JB nm
      ·rw [hin] at hnm;simp [hin] at hR;subst hR;clear hal;go_enter Tryz.func161,Tryz.ntmps161;go_wp2_with fail;refine (hnm.out _).mono ?_;rintro e w1 ⟨rfl,rfl⟩;go_wp2_with fail;go_ret;exact ⟨rfl,ha⟩
      ·rw [hin] at hnm;simp [hin] at hR;subst hR;clear hal;go_enter Tryz.func161,Tryz.ntmps161;go_wp2_with fail;refine (hnm.out _).mono ?_;rintro e w1 ⟨rfl,rfl⟩;go_wp2_with fail;go_ret;exact ⟨rfl,ha⟩
     ·have hz:=hal.1 a1;simp [a1] at hR;subst hR;clear hal a1;go_enter Tryz.func161,Tryz.ntmps161;go_wp2_with fail;go_ret;exact ⟨rfl,ha⟩
    ·simp [t1] at hR;subst hR;clear hal;go_enter Tryz.func161,Tryz.ntmps161;go_wp2_with fail;go_ret;exact ⟨rfl,ha⟩
   ·rw [if_neg k3] at hR;have e3:(kd==3)=false:=by simpa using k3
    subst hR;clear hal;go_enter Tryz.func161,Tryz.ntmps161;go_wp2_with fail;go_ret;exact ⟨rfl,ha⟩
def Qi:Int→List Tok→Int
 | _,[]=>0
 | p,t::r=>if Xi t≠0 then Xi t else if t.kind=1∧p=1 then 4 else Qi t.kind r
def Ya (ts:List Tok):Int:=if 3000<ts.length then 2 else Qi 0 ts
def Jer (l:List (Tok × Value)) (k:Nat):Int:=if k=0 then 0 else (l[k - 1]?.map (·.1.kind)).getD 0
theorem JhL (l:List (Tok × Value)) (k:Nat) (hk:k<l.length):Jer l (k+1)=l[k].1.kind:=by
 simp [Jer,List.getElem?_eq_getElem hk]
theorem Jj0 (l:List (Tok × Value)) (k:Nat) (hk:k<l.length) (p:Int):Qi p ((l.drop k).map (·.1))=if Xi l[k].1≠0 then Xi l[k].1 else if l[k].1.kind=1∧p=1 then 4 else Qi l[k].1.kind ((l.drop (k+1)).map (·.1)):=by
 rw [List.drop_eq_getElem_cons hk,List.map_cons];rfl
set_option maxRecDepth 4000 in
theorem Je2 (w:World) (v:Value) (ts:List Tok) (hv:Jbd w v ts) (hf: ∀ t∈ts,JjK t):
  Calls Tryz.prog 82 #[v] w fun e w'=>e=.returned (.int .i64 (Ya ts))∧Jb [] w w':=by
 obtain ⟨l,rfl,hv,hva⟩:=hv;obtain ⟨o,c,rfl,h1,h2⟩:=hv.form;unfold maxLen at h2;unfold Ya;rw [List.length_map];by_cases hbig:3000<l.length
 ·rw [if_pos hbig];have hgt:decide ((3000:Int)<(l.length:Int))=true:=by simp;omega
  go_enter Tryz.func82,Tryz.ntmps82;go_wp2_with fail;go_ret;exact ⟨rfl,Jb.refl _ _⟩
 ·rw [if_neg hbig];have hgt:decide ((3000:Int)<(l.length:Int))=false:=by simp;omega
  obtain ⟨R,hR⟩: ∃ R,Qi 0 (l.map (·.1))=R:=⟨_,rfl⟩;rw [hR];have HR:=Ja hR;clear hR;go_enter Tryz.func82,Tryz.ntmps82;go_wp2_with fail;go_loopw [11] (fun i wr=> ∃ k:Nat,k≤l.length∧i=.int .i64 k∧Jb [] w wr∧Hid (Qi (Jer l k) ((l.drop k).map (·.1))=R)) (fun i _=>l.length - (intOf i).toNat)
  case atStart=>exact ⟨0,Nat.zero_le _,rfl,Jb.refl _ _,HR⟩
  case round=>
   obtain ⟨k,hk,rfl,hkw,hC⟩:=hrel;clear HR;by_cases hlt:k<l.length
   ·obtain ⟨g,x,rfl,hc⟩:=(hv.keeps hkw).addr (by omega);obtain ⟨a0,a1,a2,a3⟩:=JbS hc k hlt;have hC1:=hC.out;rw [Jj0 l k hlt] at hC1;have hsuc:=JhL l k hlt;have hfk:=hf l[k].1 (List.mem_map_of_mem (List.getElem_mem hlt));have hpa:=hva l[k] (List.getElem_mem hlt);have hpv:0<k→wr.cell? ⟨g,x+(k - 1) * 4,none⟩=some (.int .i64 (Jer l k)):=fun h0=>by
     have h9:=(JbS hc (k - 1) (by omega)).1;have e9:=JhL l (k - 1) (by omega);rw [show k - 1+1=k from by omega] at e9;rw [e9];exact h9
    have HPV:=Ja hpv;have HPK:=Ja (show k=0→Jer l k=0 from fun h=>by subst h;rfl);have HC1:=Ja hC1;have HSUC:=Ja hsuc;clear hC hC1 hc hpv hsuc;generalize Jer l k=pk at *;generalize l[k]=p at *;obtain ⟨⟨kp,np,ap,xp⟩,vp⟩:=p;simp only at a0 a1 a2 a3 hpa;obtain ⟨op,cp,rfl,hp1,hp2⟩:=hpa.form;unfold maxLen at hp2;have hkA:Jb [] wr (wr.alloc (.cells #[.int .i64 kp,.string ⟨np.toArray⟩,.slice op ap.length cp,.string ⟨xp.toArray⟩] 117)):=(Jb.refl [] wr).alloc _;have hA:QI (wr.alloc (.cells #[.int .i64 kp,.string ⟨np.toArray⟩,.slice op ap.length cp,.string ⟨xp.toArray⟩] 117)) wr.heap.size (⟨kp,np,ap,xp⟩,.slice op ap.length cp):=heap_alloc_new wr _;have hct:=Ja (Jia _ kp np xp ap _ (hpa.keeps (hkw.trans hkA)) hfk);have HC2:=HC1.out;simp only at HC2;generalize Xi ⟨kp,np,ap,xp⟩=E at *;have HC3:=Ja HC2;clear HC1 HC2;go_wp2_with fail;refine hct.out.mono ?_;rintro e w3 ⟨rfl,hk3⟩;have hkw3:Jb [] w w3:=(hkw.trans hkA).trans hk3;have hA3:=hA.keeps hk3 List.not_mem_nil;have c0:w3.cell? ⟨wr.heap.size,0,none⟩=some (.int .i64 kp):=by rw [hA3.cell 0];rfl
    by_cases hE:E=0
    ·subst hE;have hN: ¬ (kp=1∧pk=1)→Hid (Qi (Jer l (k+1)) ((l.drop (k+1)).map (·.1))=R):=fun hn=>by
      have h9:=HC3.out;rw [if_neg (by simp),if_neg hn] at h9;rw [HSUC.out];exact h9
     have HN:=Ja hN;clear hN;by_cases h0:k=0
     ·subst h0;have HC4:=HN.out (fun h=>by have:=HPK.out rfl;omega);go_wp2_with fail;go_roundw
      case rel=>exact ⟨1,by omega,by go_num,hkw3,HC4⟩
      case measure=>simp [intOf];omega
     ·have hpc:=Jc (hkA.trans hk3) (HPV.out (by omega));have hpos:decide ((0:Int)<(k:Int))=true:=by simp;omega
      by_cases hk1:kp=1
      ·subst hk1;by_cases hq1:pk=1
       ·subst hq1;have hR4:R=4:=by rw [←HC3.out];simp
        subst hR4;go_wp2_with fail;go_ret;exact ⟨rfl,hkw3⟩
       ·have HC4:=HN.out (fun h=>hq1 h.2);have hqb:(pk==1)=false:=by simpa using hq1
        go_wp2_with fail;go_roundw
        case rel=>exact ⟨k+1,by omega,by go_num,hkw3,HC4⟩
        case measure=>simp [intOf];omega
      ·have HC4:=HN.out (fun h=>hk1 h.1);have hqb:(kp==1)=false:=by simpa using hk1
       go_wp2_with fail;go_roundw
       case rel=>exact ⟨k+1,by omega,by go_num,hkw3,HC4⟩
       case measure=>simp [intOf];omega
    ·have hEb:(E != 0)=true:=by simpa using hE
     have hRE:R=E:=by rw [←HC3.out];simp [hE]
     subst hRE;go_wp2_with fail;go_ret;exact ⟨rfl,hkw3⟩
   ·have hRR:R=0:=by
     rw [←hC.out,List.drop_eq_nil_of_le (by omega)];rfl
    subst hRR;go_wp2_with fail;go_ret;exact ⟨rfl,hkw⟩
end Go.Proofs.YtlcljanibjdejaaGreat
namespace Go.Proofs
open Go.Shelf
def Tryz.lays169_ren:Go.Shelf.Ren:=⟨fun | 169=>98 | n=>n,fun | 70=>132 | 9=>9 | 0=>0 | 72=>134 | 37=>107 | 127=>203 | 3=>3 | 5=>5 | n=>n,fun | n=>n⟩
theorem Tryz.lays169:Go.Proofs.Lays.n169 Tryz.prog Tryz.lays169_ren:={
 mixed:=by kernel_rfl
 f169:=Tryz.func98.trans (congrArg some (by kernel_rfl))
 t0:=Tryz.underlying0
 a0:=Tryz.isAgg0
 z0:=Tryz.sizeOf0
 v0:=Tryz.zeroValue0
 t3:=Tryz.underlying3
 a3:=Tryz.isAgg3
 z3:=Tryz.sizeOf3
 v3:=Tryz.zeroValue3
 t9:=Tryz.underlying9
 a9:=Tryz.isAgg9
 z9:=Tryz.sizeOf9
 v9:=Tryz.zeroValue9
 t37:=Tryz.underlying107
 a37:=Tryz.isAgg107
 z37:=Tryz.sizeOf107
 v37:=Tryz.zeroValue107
 t70:=Tryz.underlying132
 a70:=Tryz.isAgg132
 z70:=Tryz.sizeOf132
 v70:=Tryz.zeroValue132
 t72:=Tryz.underlying134
 a72:=Tryz.isAgg134
 z72:=Tryz.sizeOf134
 v72:=Tryz.zeroValue134
 t127:=Tryz.underlying203
 a127:=Tryz.isAgg203
 z127:=Tryz.sizeOf203
 v127:=Tryz.zeroValue203 }
theorem Tryz.Builder_Extra_169:Builder.Extra Tryz.prog Tryz.lays169_ren:={
 sizeBuilder:=by kernel_rfl
 liesBuilder:=by kernel_rfl
 t5:=Tryz.underlying5
 a5:=Tryz.isAgg5
 z5:=Tryz.sizeOf5
 v5:=Tryz.zeroValue5
 infoByte:=by kernel_rfl
 cellsByte:=by kernel_rfl
 sizeByte:=by kernel_rfl
 neB5:=by decide }
open Go.RowKit in
theorem Tryz.Builder_String_any (B b:Nat) (l:List UInt8) (w:World) (h:Lib.IsBuilder 134 5 B b (Lib.byteCells l) w) (hBw:B≤w.heap.size):
 Calls Tryz.prog 98 #[.pointer (some ⟨b,0,none⟩)] w fun e w'=>e=.returned (.string ⟨l.toArray⟩)∧Below B w w':=Any.Builder_String_any Tryz.lays169 Tryz.Builder_Extra_169 B b l w h hBw
namespace YtlcljanibjdejaaGreat
open Go.RowKit
theorem Jqu:(Tryz.prog.info? 134).map (fun j=>j.size)=some 2:=by kernel_rfl
set_option maxRecDepth 100000 in
theorem Jic (b:Nat) (w:World) (h0:w.cell? ⟨b,0,none⟩=some (.pointer (some ⟨b,0,none⟩))):
  Calls Tryz.prog 214 #[.pointer (some ⟨b,0,none⟩)] w fun e w'=>e=.returned (.tuple #[])∧w'=w:=by
 obtain ⟨j,hj,_⟩:=Option.map_eq_some_iff.1 Jqu;go_enter Tryz.func214,Tryz.ntmps214
 go_wp2
 rw [Lib.run_neq_ptr_same w _ Tryz.underlying132 hj]
 go_wp2
 go_end0
 exact ⟨rfl,rfl⟩
set_option maxRecDepth 100000 in
theorem Jhf (b:Nat) (w:World) (h0:w.cell? ⟨b,0,none⟩=some (.pointer none)) (hsh:w.shape? b=some (134,2)) (hfz:w.frozen? ⟨b,0,none⟩=false):
  Calls Tryz.prog 214 #[.pointer (some ⟨b,0,none⟩)] w fun e w'=>e=.returned (.tuple #[])∧w'=w.setCell ⟨b,0,none⟩ (.pointer (some ⟨b,0,none⟩)):=by
 obtain ⟨j,hj,hjs⟩:=Option.map_eq_some_iff.1 Jqu;have hlies:liesAt Tryz.prog Tryz.prog.depth 134 (2 / Tryz.prog.cellsOf 134) 0 134 1=true:=by kernel_rfl
 go_enter Tryz.func214,Tryz.ntmps214
 go_wp2
 rw [Lib.run_to_unsafe w ⟨b,0,none⟩ Tryz.underlying132 Tryz.underlying257 hj (by rw [hjs];decide) hsh (Nat.zero_lt_succ 1)];simp only [Result.andThen];rw [Oper.upon_value]
 go_wp2
 rw [run_callFunc_extern Tryz.func283 (by kernel_rfl) (by kernel_rfl) (by kernel_rfl) (e:=Extern.AbiNoEscape.same) (by kernel_rfl)];rw [Lib.run_noEscape];simp only [Result.andThen];rw [Oper.upon_value]
 go_wp2
 rw [Lib.run_from_unsafe w ⟨b,0,none⟩ Tryz.underlying257 Tryz.underlying132 hj hsh hlies];simp only [Result.andThen];rw [Oper.upon_value]
 go_wp2
 go_end0
 exact ⟨rfl,rfl⟩
def XJ (B b:Nat) (l:List UInt8) (w:World):Prop:=Lib.IsBuilder 134 5 B b (Lib.byteCells l) w
end YtlcljanibjdejaaGreat
end Go.Proofs
namespace Go.Proofs.YtlcljanibjdejaaGreat
open Go.RowKit Go.Maps
structure J4 (B b:Nat) (w w':World):Prop where
 os:w'.os=w.os
 tape:w'.tape=w.tape
 output:w'.output=w.output
 size:w.heap.size≤w'.heap.size
 block: ∀ k,k<w.heap.size→k≠b→(k<B∨ ∀ cs f,w.heap[k]?≠some (.cells cs 5 f))→w'.heap[k]?=w.heap[k]?
theorem J4.refl (B b:Nat) (w:World):J4 B b w w:=⟨rfl,rfl,rfl,Nat.le_refl _,fun _ _ _ _=>rfl⟩
theorem J4.trans {B b:Nat} {x y z:World} (h:J4 B b x y) (k:J4 B b y z):J4 B b x z:=
 ⟨k.os.trans h.os,k.tape.trans h.tape,k.output.trans h.output,Nat.le_trans h.size k.size,fun i hi hb hc=>
   (k.block i (Nat.lt_of_lt_of_le hi h.size) hb (by rw [h.block i hi hb hc];exact hc)).trans (h.block i hi hb hc)⟩
theorem J4.of {B b:Nat} {w w':World} (h:Jb [] w w'):J4 B b w w':=⟨h.os,h.tape,h.output,h.size,fun k hk _ _=>h.block k hk List.not_mem_nil⟩
theorem J4.nil {B b:Nat} {w0 w w':World} (h0:Jb [] w0 w) (h:J4 B b w w') (hB:w0.heap.size≤B) (hb:B≤b):Jb [] w0 w':=
 ⟨h.os.trans h0.os,h.tape.trans h0.tape,h.output.trans h0.output,Nat.le_trans h0.size h.size,fun k hk _=>(h.block k (Nat.lt_of_lt_of_le hk h0.size) (by omega) (.inl (by omega))).trans (h0.block k hk List.not_mem_nil)⟩
theorem J4.tok {B b:Nat} {w w':World} {g:Nat} {p:Tok × Value} (h:J4 B b w w') (ht:QI w g p) (hg:g≠b):QI w' g p:=by
 rw [QI,h.block g ht.lt hg (.inr (fun cs f e=>by rw [show w.heap[g]?=_ from ht] at e;simp at e))];exact ht
theorem J4.pair {B b:Nat} {w w':World} {g:Nat} {x y:ByteArray} (h:J4 B b w w') (ht:Qg w g x y) (hg:g≠b):Qg w' g x y:=by
 rw [Qg,h.block g ht.lt hg (.inr (fun cs f e=>by rw [show w.heap[g]?=_ from ht] at e;simp at e))];exact ht
theorem J4.set {B b:Nat} {w w':World} (h:J4 B b w w') (j:Nat) (u:Value):J4 B b w (w'.setCell ⟨b,j,none⟩ u):=
 ⟨h.os,h.tape,h.output,Nat.le_trans h.size (by simp [World.setCell]),fun k hk hb hc=>by rw [Below.heap_setCell _ _ _ _ hb];exact h.block k hk hb hc⟩
theorem Jhg (B b:Nat) (bs:List Value) (w:World) (h:Lib.IsBuilder 134 5 B b bs w):
  Calls Tryz.prog 214 #[.pointer (some ⟨b,0,none⟩)] w fun e w'=>e=.returned (.tuple #[])∧(Lib.BuilderAt 134 5 B b (.pointer (some ⟨b,0,none⟩)) bs w'∧J4 B b w w'):=by
 rcases h with h | h
 ·refine (Jhf b w h.cell0 h.shape h.frozen0).mono ?_;rintro e w' ⟨rfl,rfl⟩;exact ⟨rfl,h.used _,(J4.refl B b w).set 0 _⟩
 ·refine (Jic b w h.cell0).mono ?_;rintro e w' ⟨rfl,rfl⟩;exact ⟨rfl,h,J4.refl _ _ _⟩
set_option maxRecDepth 100000 in
theorem Jn2 (B b:Nat) (bs:List Value) (s:ByteArray) (w:World) (h:Lib.IsBuilder 134 5 B b bs w) (hlen:bs.length+s.size≤140737488355328) (hBw:B≤w.heap.size):
  Calls Tryz.prog 144 #[.pointer (some ⟨b,0,none⟩),.string s] w fun e w'=>e=.returned (.tuple #[.int .i64 s.size,.nilIface])∧(Lib.BuilderAt 134 5 B b (.pointer (some ⟨b,0,none⟩)) (bs++Lib.strCells s) w'∧J4 B b w w'):=by
 obtain ⟨i0,hi,hz0,hz1,hz2⟩:=info_parts Tryz.info5;go_enter Tryz.func144,Tryz.ntmps144;go_wp2_with fail;refine (Jhg B b bs _ h).mono ?_;rintro e w1 ⟨rfl,h1,hb1⟩;obtain ⟨hB,v,hbk,hown,hne⟩:=h1;have c0:w1.cell? ⟨b,0,none⟩=some (.pointer (some ⟨b,0,none⟩)):=by rw [Lib.cell_of_heap hbk];rfl
 have c1:w1.cell? ⟨b,1,none⟩=some v:=by rw [Lib.cell_of_heap hbk];rfl
 go_wp2_with (at_builtin;refine Lib.wpList_append_own_string _ rfl _ _ 107 9 rfl B 5 i0 Tryz.underlying107 Tryz.underlying9 hi hz0 hz1 hz2 _ _ _ rfl hown s rfl ?c3 ?c4 ?c5 ?_)
 case c3=>unfold maxLen;omega
 case c4=>omega
 case c5=>have:=hb1.size;omega
 intro v' w2 hown' hgrow _;have hlt:b<w1.heap.size:=lt_of_block hbk;have hb2:w2.heap[b]?=some (.cells #[.pointer (some ⟨b,0,none⟩),v] 134 (0,0)):=by
  rw [hgrow.block b hlt (fun e=>hne e.symm)];exact hbk
 have d0:w2.cell? ⟨b,0,none⟩=some (.pointer (some ⟨b,0,none⟩)):=by rw [Lib.cell_of_heap hb2];rfl
 have d1:w2.cell? ⟨b,1,none⟩=some v:=by rw [Lib.cell_of_heap hb2];rfl
 have f1:w2.frozen? ⟨b,1,none⟩=false:=Lib.frozen_of_heap hb2 1;have hk2:J4 B b w1 w2:=⟨hgrow.os,hgrow.tape,hgrow.output,hgrow.size,fun k hk _ hc=>hgrow.block k hk (fun e=>by
  have hv:=e.symm;rcases hc with hc | hc
  ·have:=(hown.lt k hv).1;omega
  ·rcases hown.2 with ⟨rfl,_⟩ | ⟨g,cap,cur,rfl,_,hg,_⟩
   ·simp [Value.ownBlock] at hv
   ·simp only [Value.ownBlock,Option.some.injEq] at hv;rw [hv] at hg;exact hc _ _ hg)⟩
 obtain ⟨ao,cap,rfl⟩:=Jg hown'
 go_wp2
 go_ret2
 refine ⟨rfl,?_,(hb1.trans hk2).set 1 _⟩;exact Lib.BuilderAt.put (T:=134) (e:=5) hB hb2 (bs':=bs++Lib.strCells s) (by simpa [Lib.strCells_length] using hown') (by decide)
theorem Jah (B b:Nat) (l t:List UInt8) (w:World) (h:XJ B b l w) (hlen:l.length+t.length≤1000000000) (hBw:B≤w.heap.size):
  Calls Tryz.prog 144 #[.pointer (some ⟨b,0,none⟩),.string ⟨t.toArray⟩] w fun e w'=>e=.returned (.tuple #[.int .i64 t.length,.nilIface])∧XJ B b (l++t) w'∧J4 B b w w':=by
 refine (Jn2 B b _ ⟨t.toArray⟩ w h (by rw [Lib.byteCells_length,Jv];omega) hBw).mono ?_;rintro e w' ⟨rfl,h1,h2⟩;refine ⟨rfl,.inr ?_,h2⟩;have e2:Lib.byteCells (l++t)=Lib.byteCells l++Lib.strCells ⟨t.toArray⟩:=by simp [Lib.byteCells,Lib.strCells]
 rw [e2];exact h1
def Qm (n:List UInt8):Bool:=(n==[98,114]) || (n==[104,114]) || (n==[105,109,103])
def QO (n:List UInt8):Bool:=(n==[117,108]) || (n==[111,108])
def J5 (n:List UInt8):Bool:=QO n || (n==[108,105]) || (n==[98,108,111,99,107,113,117,111,116,101])
def YL (n:List UInt8):Bool:=J5 n || (n==[112]) || (n==[104,114])
theorem Jp (L l:List UInt8):((⟨L.toArray⟩:ByteArray).toList==l)=(L==l):=by rw [ByteArray.toList_eq]
theorem JdA (n:List UInt8) (w:World):Calls Tryz.prog 166 #[.string ⟨n.toArray⟩] w fun e w'=>e=.returned (.bool (Qm n))∧w'=w:=by
 unfold Qm;cases h1:(n==[98,114])<;>cases h2:(n==[104,114])<;>cases h3:(n==[105,109,103])
 all_goals
  have p1:=(Jp n _).trans h1;have p2:=(Jp n _).trans h2;have p3:=(Jp n _).trans h3;go_enter Tryz.func166,Tryz.ntmps166;go_wp2_with fail;go_ret;exact ⟨rfl,rfl⟩
theorem Jhx (n:List UInt8) (w:World):Calls Tryz.prog 241 #[.string ⟨n.toArray⟩] w fun e w'=>e=.returned (.bool (QO n))∧w'=w:=by
 unfold QO;cases h1:(n==[117,108])<;>cases h2:(n==[111,108])
 all_goals
  have p1:=(Jp n _).trans h1;have p2:=(Jp n _).trans h2;go_enter Tryz.func241,Tryz.ntmps241;go_wp2_with fail;go_ret;exact ⟨rfl,rfl⟩
theorem Jhz (n:List UInt8) (w:World):Calls Tryz.prog 239 #[.string ⟨n.toArray⟩] w fun e w'=>e=.returned (.bool (J5 n))∧w'=w:=by
 have hc:=Ja (fun w=>Jhx n w);unfold J5;generalize QO n=b at *;cases b<;>cases h2:(n==[108,105])<;>cases h3:(n==[98,108,111,99,107,113,117,111,116,101])
 all_goals
  have p2:=(Jp n _).trans h2;have p3:=(Jp n _).trans h3;go_enter Tryz.func239,Tryz.ntmps239;go_wp2_with (go_at_call 241;refine (hc.out _).mono ?_;rintro e w' ⟨rfl,rfl⟩);go_ret;exact ⟨rfl,rfl⟩
theorem Jls (n:List UInt8) (w:World):Calls Tryz.prog 237 #[.string ⟨n.toArray⟩] w fun e w'=>e=.returned (.bool (YL n))∧w'=w:=by
 have hc:=Ja (fun w=>Jhz n w);unfold YL;generalize J5 n=b at *;cases b<;>cases h2:(n==[112])<;>cases h3:(n==[104,114])
 all_goals
  have p2:=(Jp n _).trans h2;have p3:=(Jp n _).trans h3;go_enter Tryz.func237,Tryz.ntmps237;go_wp2_with (go_at_call 239;refine (hc.out _).mono ?_;rintro e w' ⟨rfl,rfl⟩);go_ret;exact ⟨rfl,rfl⟩
theorem JsH (n:List UInt8) (w:World):Calls Tryz.prog 238 #[.string ⟨n.toArray⟩] w fun e w'=>e=.returned (.bool (n==[112]))∧w'=w:=by
 cases h1:(n==[112])
 all_goals
  have p1:=(Jp n _).trans h1;go_enter Tryz.func238,Tryz.ntmps238;go_wp2_with fail;go_ret;exact ⟨rfl,rfl⟩
theorem Jrt (n:List UInt8) (w:World):Calls Tryz.prog 240 #[.string ⟨n.toArray⟩] w fun e w'=>e=.returned (.bool (n==[108,105]))∧w'=w:=by
 cases h1:(n==[108,105])
 all_goals
  have p1:=(Jp n _).trans h1;go_enter Tryz.func240,Tryz.ntmps240;go_wp2_with fail;go_ret;exact ⟨rfl,rfl⟩
theorem JpJ (n:List UInt8) (w:World):Calls Tryz.prog 170 #[.string ⟨n.toArray⟩] w fun e w'=>e=.returned (.bool false)∧w'=w:=by
 go_enter Tryz.func170,Tryz.ntmps170;go_wp2_with fail;go_ret;exact ⟨rfl,rfl⟩
theorem Jlu (n m:List UInt8) (b:Nat) (w:World) (hc:w.cell? ⟨b,0,none⟩=some (.string ⟨m.toArray⟩)):
  Calls Tryz.prog 169 #[.string ⟨n.toArray⟩,.pointer (some ⟨b,0,none⟩)] w fun e w'=>e=.returned (.bool (n==m))∧w'=w:=by
 have p0:((⟨n.toArray⟩:ByteArray).toList==(⟨m.toArray⟩:ByteArray).toList)=(n==m):=by rw [ByteArray.toList_eq,ByteArray.toList_eq]
 cases h1:(n==m)
 all_goals
  have p1:=p0.trans h1;clear p0;go_enter Tryz.func169,Tryz.ntmps169;go_wp2_with fail;go_ret;exact ⟨rfl,rfl⟩
def JdS (w:World) (v:Value) (ns:List (List UInt8)):Prop:=
 ∃ a c,v=.slice a ns.length c∧ns.length≤c∧c≤maxLen∧ ∀ i (h:i<ns.length), ∃ g x,a=some ⟨g,x,none⟩∧w.cell? ⟨g,x+i * 4,none⟩=some (.string ⟨ns[i].toArray⟩)
def Qr (is hides:List UInt8→Bool) (ns:List (List UInt8)):Nat→Nat
 | 0=>ns.length
 | i+1=>if is (ns.getD i [])=true then i else if hides (ns.getD i [])=true then ns.length else Qr is hides ns i
def JZ (is hides:List UInt8→Bool) (ns:List (List UInt8)):Nat:=Qr is hides ns ns.length
theorem Jbu (is hides:List UInt8→Bool) (ns:List (List UInt8)): ∀ i,i≤ns.length→Qr is hides ns i≤ns.length
 | 0,_=>Nat.le_refl _
 | i+1,h=>by
   unfold Qr;split
   ·omega
   ·split
    ·exact Nat.le_refl _
    ·exact Jbu is hides ns i (by omega)
set_option maxRecDepth 4000 in
theorem Jcs (K1 K2:Nat) (caps1 caps2:Array Value) (is hides:List UInt8→Bool) (w:World) (v:Value) (ns:List (List UInt8)) (h:JdS w v ns) (hK1:Jy K1) (hK2:Jy K2)
  (h1: ∀ n:List UInt8,Calls Tryz.prog K1 (#[.string ⟨n.toArray⟩]++caps1) w fun e w'=>e=.returned (.bool (is n))∧w'=w)
  (h2: ∀ n:List UInt8,Calls Tryz.prog K2 (#[.string ⟨n.toArray⟩]++caps2) w fun e w'=>e=.returned (.bool (hides n))∧w'=w):
  Calls Tryz.prog 168 #[v,.func (.func K1) #[] caps1,.func (.func K2) #[] caps2] w fun e w'=>e=.returned (.int .i64 (JZ is hides ns))∧w'=w:=by
 obtain ⟨a,c,rfl,hc1,hc2,hcell⟩:=h;unfold maxLen at hc2;unfold Jy at hK1 hK2;obtain ⟨R,hR⟩: ∃ R,JZ is hides ns=R:=⟨_,rfl⟩;rw [hR];have HR:=Ja hR;clear hR;have H1:=Ja h1;have H2:=Ja h2;have HC:=Ja hcell;clear h1 h2 hcell;go_enter Tryz.func168,Tryz.ntmps168;go_wp2_with fail;go_loopw [7] (fun i wr=> ∃ k:Nat,k≤ns.length∧i=.int .i64 ((k:Int) - 1)∧w=wr∧Hid (Qr is hides ns k=R)) (fun i _=>(intOf i+1).toNat)
 case atStart=>exact ⟨ns.length,Nat.le_refl _,rfl,rfl,HR⟩
 case round=>
  obtain ⟨k,hk,rfl,rfl,hH⟩:=hrel;clear HR;cases k with
  | zero=>
    have hRe:R=ns.length:=hH.out.symm;subst hRe;clear hH;go_wp2_with fail;go_ret;exact ⟨rfl,rfl⟩
  | succ i=>
    obtain ⟨g,x,rfl,hx⟩:=HC.out i (by omega);have hge:decide ((0:Int)≤(i:Int))=true:=by simp
    have e1:((i+1:Nat):Int) - 1=i:=by omega
    rw [e1];have hS:=hH.out;unfold Qr at hS;have hg:ns.getD i []=ns[i]:=by simp [List.getD,List.getElem?_eq_getElem (show i<ns.length by omega)]
    rw [hg] at hS;have HS:=Ja hS;have C1:=Ja (H1.out ns[i]);have C2:=Ja (H2.out ns[i]);clear hS hH hg e1;generalize ns[i]=n at *;cases hi:is n
    ·rw [hi] at C1 HS;cases hh:hides n
     ·rw [hh] at C2 HS;have HS2:Hid (Qr is hides ns i=R):=by have:=HS.out;rw [Hid];simpa using this
      clear HS hi hh;go_wp2_with fail;refine C1.out.mono ?_;rintro e w1 ⟨rfl,rfl⟩;go_wp2_with fail;refine C2.out.mono ?_;rintro e w2 ⟨rfl,rfl⟩;go_wp2_with fail;go_roundw
      case rel=>exact ⟨i,by omega,by go_num,by first | rfl | trivial,HS2⟩
      case measure=>simp [intOf]
     ·rw [hh] at C2 HS;have hRe:R=ns.length:=by have:=HS.out;simpa using this.symm
      subst hRe;clear HS hi hh;go_wp2_with fail;refine C1.out.mono ?_;rintro e w1 ⟨rfl,rfl⟩;go_wp2_with fail;refine C2.out.mono ?_;rintro e w2 ⟨rfl,rfl⟩;go_wp2_with fail;go_ret;exact ⟨rfl,rfl⟩
    ·rw [hi] at C1 HS;have hRe:R=i:=by have:=HS.out;simpa using this.symm
     subst hRe;clear HS hi;go_wp2_with fail;refine C1.out.mono ?_;rintro e w1 ⟨rfl,rfl⟩;go_wp2_with fail;go_ret;exact ⟨rfl,rfl⟩
theorem Jo1:Jy 238:=JC Tryz.func238 (by kernel_rfl) (by kernel_rfl)
theorem Jo2:Jy 239:=JC Tryz.func239 (by kernel_rfl) (by kernel_rfl)
theorem Jo3:Jy 240:=JC Tryz.func240 (by kernel_rfl) (by kernel_rfl)
theorem Jo4:Jy 241:=JC Tryz.func241 (by kernel_rfl) (by kernel_rfl)
theorem JoS:Jy 169:=JC Tryz.func169 (by kernel_rfl) (by kernel_rfl)
theorem JoT:Jy 170:=JC Tryz.func170 (by kernel_rfl) (by kernel_rfl)
theorem JdS.take {w:World} {a:Option Addr} {n c:Nat} {ns:List (List UInt8)} (h:JdS w (.slice a n c) ns) {m:Nat} (hm:m≤ns.length):JdS w (.slice a m c) (ns.take m):=by
 obtain ⟨a',c',he,h1,h2,h3⟩:=h;simp only [Value.slice.injEq] at he;obtain ⟨rfl,rfl,rfl⟩:=he;refine ⟨a,c,by rw [List.length_take,Nat.min_eq_left hm],by rw [List.length_take];omega,h2,fun i hi=>?_⟩;rw [List.length_take] at hi;obtain ⟨g,x,e,hx⟩:=h3 i (by omega);exact ⟨g,x,e,by rw [List.getElem_take];exact hx⟩
def Jm (ns:List (List UInt8)) (n:List UInt8):Nat:=
 if n=[108,105] then JZ (· ==[108,105]) QO (ns.take (if YL n=true then JZ (· ==[112]) J5 ns else ns.length))
 else if YL n=true then JZ (· ==[112]) J5 ns else ns.length
set_option maxRecDepth 4000 in
theorem Je7 (w:World) (v:Value) (ns:List (List UInt8)) (n:List UInt8) (h:JdS w v ns):
  Calls Tryz.prog 163 #[v,.string ⟨n.toArray⟩] w fun e w'=>e=.returned (.int .i64 (Jm ns n))∧w'=w:=by
 have hb:=Ja (fun w=>Jls n w);have hp:=Ja (Jcs 238 239 #[] #[] (· ==[112]) J5 w v ns h Jo1 Jo2 (fun n=>JsH n w) (fun n=>Jhz n w));have hle:JZ (· ==[112]) J5 ns≤ns.length:=Jbu _ _ _ _ (Nat.le_refl _);obtain ⟨F,hF⟩: ∃ F,(if YL n=true then JZ (· ==[112]) J5 ns else ns.length)=F:=⟨_,rfl⟩;have hFl:F≤ns.length:=by rw [←hF];split<;>omega
 obtain ⟨a,c,rfl,hc1,hc2,hcell⟩:=id h;have hl:=Ja (Jcs 240 241 #[] #[] (· ==[108,105]) QO w (.slice a F c) (ns.take F) (h.take hFl) Jo3 Jo4 (fun n=>Jrt n w) (fun n=>Jhx n w));unfold Jm;rw [hF];have hbl:n=[108,105]→YL n=true:=fun e=>by subst e;rfl
 unfold maxLen at hc2;have HF:=Ja hF;clear hF hcell h;generalize JZ (· ==[108,105]) QO (ns.take F)=L at *;generalize JZ (· ==[112]) J5 ns=Q at *;cases hbk:YL n
 ·have hne:n≠[108,105]:=fun e=>by have:=hbl e;rw [hbk] at this;simp at this
  have e1:(n==[108,105])=false:=by simpa using hne
  have e2:=(Jp n _).trans e1;rw [hbk] at hb;rw [if_neg hne];have hFn:F=ns.length:=by rw [←HF.out,hbk];simp
  subst hFn;clear hbk hbl HF hl hp hne hFl;go_enter Tryz.func163,Tryz.ntmps163;go_wp2_with fail;refine (hb.out _).mono ?_;rintro e w1 ⟨rfl,rfl⟩;go_wp2_with fail;go_ret;exact ⟨rfl,rfl⟩
 ·rw [hbk] at hb;have hFQ:F=Q:=by rw [←HF.out,hbk];simp
  subst hFQ;by_cases hli:n=[108,105]
  ·have e1:(n==[108,105])=true:=by simpa using hli
   have e2:=(Jp n _).trans e1;rw [if_pos hli];clear hbk hbl HF hli;go_enter Tryz.func163,Tryz.ntmps163;go_wp2_with fail;refine (hb.out _).mono ?_;rintro e w1 ⟨rfl,h1⟩;obtain rfl:w=w1:=h1.symm;go_wp2_with fail;refine hp.out.mono ?_;rintro e w1 ⟨rfl,h1⟩;obtain rfl:w=w1:=h1.symm;go_wp2_with fail;refine hl.out.mono ?_;rintro e w1 ⟨rfl,h1⟩;obtain rfl:w=w1:=h1.symm;go_wp2_with fail;go_ret;exact ⟨rfl,rfl⟩
  ·have e1:(n==[108,105])=false:=by simpa using hli
   have e2:=(Jp n _).trans e1;rw [if_neg hli];clear hbk hbl HF hli hl;go_enter Tryz.func163,Tryz.ntmps163;go_wp2_with fail;refine (hb.out _).mono ?_;rintro e w1 ⟨rfl,h1⟩;obtain rfl:w=w1:=h1.symm;go_wp2_with fail;refine hp.out.mono ?_;rintro e w1 ⟨rfl,h1⟩;obtain rfl:w=w1:=h1.symm;go_wp2_with fail;go_ret;exact ⟨rfl,rfl⟩
end Go.Proofs.YtlcljanibjdejaaGreat
