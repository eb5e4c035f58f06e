/- Trees as they are thought of: nodes, a builder's steps, what is built of tokens; the text in them. Nodes in memory: rows that are only read (LiesP, Ns), and a builder with what is open (Bd). (*builder).put. A builder's text and its open row are changed: setText, setOpen, pop; (*builder).endText. Nodes that were put one behind the other, texts joined, as a function. (*builder).put, endText, closeFrom, over the builder's state. (*builder).closeFrom, closeTag, end. copied; (*builder).openTag; tree.Build. (*builder).openTag. tree.Build. textIn, SameNodes. SameNodes of nodes that are the same. -/
import Derived.Test.YtlcljanibjdejaaGreatXb03
import Derived.Laws.OwnMore
import Derived.WalkSmall
namespace Go.Proofs.YtlcljanibjdejaaGreat
open Go.RowKit Go.Maps
/-- A node of a tree. -/
inductive Nd where
  | mk (name : List UInt8) (attrs : List Pair) (text : List UInt8) (kids : List Nd)
def Nd.name : Nd → List UInt8 | .mk n _ _ _ => n
def Nd.attrs : Nd → List Pair | .mk _ a _ _ => a
def Nd.text : Nd → List UInt8 | .mk _ _ t _ => t
def Nd.kids : Nd → List Nd | .mk _ _ _ k => k
theorem Nd.eta (n : Nd) : Nd.mk n.name n.attrs n.text n.kids = n := by cases n; rfl
def goneN (n : List UInt8) : Bool := (n == [115, 99, 114, 105, 112, 116]) || (n == [115, 116, 121, 108, 101]) || (n == [116, 101, 109, 112, 108, 97, 116, 101])
/-- The text in a tree, without that in elements that are gone, if that is asked for. -/
def textNs (gone : Bool) : List Nd → List UInt8
  | [] => []
  | .mk n _ t k :: r => (if (gone && goneN n) = true then [] else t ++ textNs gone k) ++ textNs gone r
/-- An element that is open. -/
structure Op where
  name : List UInt8
  attrs : List Pair
  kids : List Nd
def Op.nd (o : Op) : Nd := .mk o.name o.attrs [] o.kids
def Op.put (o : Op) (n : Nd) : Op := { o with kids := o.kids ++ [n] }
/-- What is open: those around the innermost one, the nearest first; the innermost one; text behind its kids. -/
structure St where
  up : List Op
  cur : Op
  text : List UInt8
def St.all (s : St) : List Op := s.up.reverse ++ [s.cur]
def St.names (s : St) : List (List UInt8) := s.all.map Op.name
def textN (t : List UInt8) : Nd := .mk [] [] t []
def St.put (s : St) (n : Nd) : St := { s with cur := s.cur.put n }
def St.endText (s : St) : St := if s.text = [] then s else ⟨s.up, s.cur.put (textN s.text), []⟩
def St.pop (s : St) : St :=
  match s.up with
  | [] => s.endText
  | o :: up => ⟨up, o.put s.endText.cur.nd, []⟩
def St.close : Nat → St → St
  | 0, s => s
  | k + 1, s => St.close k s.pop
def St.closeFrom (s : St) (a : Nat) : St := s.close (s.up.length + 1 - a)
def St.openIn (s : St) (t : Tok) : St :=
  if emptyN t.name = true then s.endText.put (.mk t.name t.attrs [] []) else ⟨s.endText.cur :: s.up, ⟨t.name, t.attrs, []⟩, []⟩
def St.openTag (s : St) (t : Tok) : St :=
  if 8 < (s.closeFrom (closedL s.names t.name)).up.length + 1 then s.closeFrom (closedL s.names t.name) else (s.closeFrom (closedL s.names t.name)).openIn t
def St.closeTag (s : St) (n : List UInt8) : St := s.closeFrom (innerL (· == n) (fun _ => false) s.names)
def St.step (s : St) (t : Tok) : St := if t.kind = 1 then { s with text := s.text ++ t.text } else if t.kind = 2 then s.openTag t else s.closeTag t.name
def St.said (s : St) : List UInt8 := s.all.flatMap (fun o => textNs false o.kids) ++ s.text
end Go.Proofs.YtlcljanibjdejaaGreat
namespace Go.Proofs.YtlcljanibjdejaaGreat
open Go.RowKit Go.Maps
/-- n elements of z cells each lie where a slice says, in a block that is P. -/
def LiesP (w : World) (P : Nat → Prop) (v : Value) (n z : Nat) (xs : List Value) : Prop :=
  xs.length = n * z ∧ ((n = 0 ∧ ∃ a c, v = .slice a 0 c ∧ c ≤ maxLen) ∨ (∃ g o c, v = .slice (some ⟨g, o, none⟩) n c ∧ n ≤ c ∧ c ≤ maxLen ∧ g < w.heap.size ∧ P g ∧ ∀ j u, xs[j]? = some u → w.cell? ⟨g, o + j, none⟩ = some u))
theorem LiesP.lies {w : World} {P : Nat → Prop} {v : Value} {n z : Nat} {xs : List Value} (h : LiesP w P v n z xs) : Lies w v n z xs := by
  refine ⟨h.1, ?_⟩
  rcases h.2 with ⟨h0, a, c, rfl, h1⟩ | ⟨g, o, c, rfl, h1, h2, _, _, h3⟩
  · exact .inr (.inr ⟨h0, a, c, rfl, h1⟩)
  · exact .inr (.inl ⟨g, o, c, rfl, h1, h2, h3⟩)
theorem LiesP.mono {w : World} {P Q : Nat → Prop} {v : Value} {n z : Nat} {xs : List Value} (h : LiesP w P v n z xs) (hPQ : ∀ g, g < w.heap.size → P g → Q g) : LiesP w Q v n z xs := by
  refine ⟨h.1, ?_⟩
  rcases h.2 with h0 | ⟨g, o, c, e, h1, h2, h3, h4, h5⟩
  · exact .inl h0
  · exact .inr ⟨g, o, c, e, h1, h2, h3, hPQ g h3 h4, h5⟩
theorem cell_keepsS {S : List Nat} {w w' : World} (hk : Keeps S w w') {a : Addr} {u : Value} (ha : a.block ∉ S) (h : w.cell? a = some u) : w'.cell? a = some u := by
  have hlt : a.block < w.heap.size := by
    rcases Nat.lt_or_ge a.block w.heap.size with h' | h'
    · exact h'
    · unfold World.cell? at h
      rw [Array.getElem?_eq_none h'] at h
      simp at h
  exact (World.cell?_of_block (hk.block _ hlt ha)).trans h
theorem LiesP.keeps {w w' : World} {S : List Nat} {P : Nat → Prop} {v : Value} {n z : Nat} {xs : List Value} (h : LiesP w P v n z xs) (hk : Keeps S w w') (hS : ∀ g, P g → g ∉ S) : LiesP w' P v n z xs := by
  refine ⟨h.1, ?_⟩
  rcases h.2 with h0 | ⟨g, o, c, e, h1, h2, h3, h4, h5⟩
  · exact .inl h0
  · exact .inr ⟨g, o, c, e, h1, h2, Nat.lt_of_lt_of_le h3 hk.size, h4, fun j u hj => cell_keepsS hk (hS g h4) (h5 j u hj)⟩
theorem LiesP.of_row {w : World} {B : Nat} {e : TypeId} {z : Nat} {v : Value} {n : Nat} {xs : List Value} {P : Nat → Prop} (h : w.ownsRow B e z v n xs) (hP : ∀ g, v.ownBlock = some g → P g) : LiesP w P v n z xs := by
  refine ⟨h.1, ?_⟩
  have hlt := h.lt
  rcases h.2 with ⟨rfl, h0⟩ | ⟨g, cap, cur, rfl, hb, hg, h3, h4, _⟩
  · exact .inl ⟨h0, none, 0, rfl, by simp [maxLen]⟩
  · refine .inr ⟨g, 0, cap, rfl, h3, h4, (hlt g rfl).2, hP g rfl, fun j u hj => ?_⟩
    have := h.cells (g := g) rfl j u hj
    rw [add_zero] at this
    rw [Nat.zero_add]
    exact this
/-- A node with the slices that its cells hold. -/
structure Pn where
  nd : Nd
  av : Value
  kv : Value
def pnCells (p : Pn) : List Value := [.string ⟨p.nd.name.toArray⟩, p.av, .string ⟨p.nd.text.toArray⟩, p.kv]
def pnsCells (l : List Pn) : List Value := l.flatMap pnCells
theorem pnsCells_len (l : List Pn) : (pnsCells l).length = l.length * 4 := by
  induction l with
  | nil => rfl
  | cons p l ih => simp only [pnsCells, List.flatMap_cons, List.length_append] at ih ⊢; rw [ih]; simp [pnCells]; omega
/-- Nodes that are only read, in blocks that are P. -/
inductive Ns (w : World) (P : Nat → Prop) : Value → List Nd → Prop
  | mk (v : Value) (l : List Pn) (ns : List Nd) (e : l.map Pn.nd = ns) (h : LiesP w P v l.length 4 (pnsCells l)) (ha : ∀ p ∈ l, LiesP w P p.av p.nd.attrs.length 2 (pairCells p.nd.attrs)) (hk : ∀ p ∈ l, Ns w P p.kv p.nd.kids) : Ns w P v ns
theorem Ns.mono {w : World} {P Q : Nat → Prop} {v : Value} {ns : List Nd} (h : Ns w P v ns) (hPQ : ∀ g, g < w.heap.size → P g → Q g) : Ns w Q v ns := by
  induction h with
  | mk v l ns e h ha hk ih => exact .mk v l ns e (h.mono hPQ) (fun p hp => (ha p hp).mono hPQ) ih
theorem Ns.keeps {w w' : World} {S : List Nat} {P : Nat → Prop} {v : Value} {ns : List Nd} (h : Ns w P v ns) (hk : Keeps S w w') (hS : ∀ g, P g → g ∉ S) : Ns w' P v ns := by
  induction h with
  | mk v l ns e h ha _ ih => exact .mk v l ns e (h.keeps hk hS) (fun p hp => (ha p hp).keeps hk hS) ih
theorem Ns.nil (w : World) (P : Nat → Prop) (a : Option Addr) (c : Nat) (hc : c ≤ maxLen) : Ns w P (.slice a 0 c) [] := .mk _ [] _ rfl ⟨rfl, .inl ⟨rfl, a, c, rfl, hc⟩⟩ (by simp) (by simp)
theorem pn_at (l : List Pn) (k j : Nat) (hk : k < l.length) (hj : j < 4) : (pnsCells l)[k * 4 + j]? = (pnCells l[k])[j]? := by
  induction l generalizing k with
  | nil => simp at hk
  | cons p l ih =>
    have e : pnsCells (p :: l) = pnCells p ++ pnsCells l := by simp [pnsCells]
    have h4 : (pnCells p).length = 4 := rfl
    rw [e]
    cases k with
    | zero => rw [Nat.zero_mul, Nat.zero_add, List.getElem?_append_left (by omega)]; rfl
    | succ k =>
      rw [List.getElem?_append_right (by omega), h4, show (k + 1) * 4 + j - 4 = k * 4 + j from by omega]
      exact ih k (by simpa using hk)
theorem lies_pn {w : World} {g o : Nat} {l : List Pn} (h : ∀ j u, (pnsCells l)[j]? = some u → w.cell? ⟨g, o + j, none⟩ = some u) (k : Nat) (hk : k < l.length) :
    w.cell? ⟨g, o + k * 4, none⟩ = some (.string ⟨l[k].nd.name.toArray⟩) ∧ w.cell? ⟨g, o + k * 4 + 1, none⟩ = some l[k].av ∧ w.cell? ⟨g, o + k * 4 + 2, none⟩ = some (.string ⟨l[k].nd.text.toArray⟩) ∧ w.cell? ⟨g, o + k * 4 + 3, none⟩ = some l[k].kv := by
  have e : ∀ j, j < 4 → o + k * 4 + j = o + (k * 4 + j) := fun j _ => by omega
  refine ⟨?_, ?_, ?_, ?_⟩
  · exact h (k * 4) _ ((pn_at l k 0 hk (by omega)).trans rfl)
  · rw [e 1 (by omega)]; exact h _ _ ((pn_at l k 1 hk (by omega)).trans rfl)
  · rw [e 2 (by omega)]; exact h _ _ ((pn_at l k 2 hk (by omega)).trans rfl)
  · rw [e 3 (by omega)]; exact h _ _ ((pn_at l k 3 hk (by omega)).trans rfl)
/-- An open element with the slices that its cells hold, and its kids with theirs. -/
structure Po where
  o : Op
  av : Value
  kv : Value
  ks : List Pn
def poCells (p : Po) : List Value := [.string ⟨p.o.name.toArray⟩, p.av, .string ⟨#[]⟩, p.kv]
def posCells (l : List Po) : List Value := l.flatMap poCells
theorem posCells_len (l : List Po) : (posCells l).length = l.length * 4 := by
  induction l with
  | nil => rfl
  | cons p l ih => simp only [posCells, List.flatMap_cons, List.length_append] at ih ⊢; rw [ih]; simp [poCells]; omega
theorem posCells_add (l : List Po) (p : Po) : posCells (l ++ [p]) = posCells l ++ poCells p := by simp [posCells]
def kidBlocks (l : List Po) : List Nat := l.flatMap fun p => p.kv.ownBlock.toList
/-- What a builder may still change. -/
def touchB (r : Nat) (openv textv : Value) (l : List Po) : List Nat := r :: (textv.ownBlock.toList ++ (openv.ownBlock.toList ++ kidBlocks l))
/-- Blocks that are done. -/
def DoneB (B : Nat) (T : List Nat) (g : Nat) : Prop := B ≤ g ∧ g ∉ T
/-- A step of a builder: what changed is what it may change, and what it may change then is that, or is new. -/
def Stp (w : World) (T : List Nat) (w' : World) (T' : List Nat) : Prop := Keeps T w w' ∧ ∀ g, g ∈ T' → g < w.heap.size → g ∈ T
theorem Stp.refl (w : World) (T : List Nat) : Stp w T w T := ⟨Keeps.refl _ _, fun _ h _ => h⟩
theorem Stp.trans {w w1 w2 : World} {T T1 T2 : List Nat} (h : Stp w T w1 T1) (k : Stp w1 T1 w2 T2) : Stp w T w2 T2 :=
  ⟨⟨k.1.os.trans h.1.os, k.1.tape.trans h.1.tape, k.1.output.trans h.1.output, Nat.le_trans h.1.size k.1.size, fun i hi hT => (k.1.block i (Nat.lt_of_lt_of_le hi h.1.size) (fun hm => hT (h.2 i hm hi))).trans (h.1.block i hi hT)⟩,
    fun g hg hlt => h.2 g (k.2 g hg (Nat.lt_of_lt_of_le hlt h.1.size)) hlt⟩
theorem Stp.nil {w w' : World} (h : Keeps [] w w') (T : List Nat) : Stp w T w' T := ⟨h.mono (fun _ hm => absurd hm List.not_mem_nil), fun _ h _ => h⟩
theorem Stp.below {w w' : World} {T T' : List Nat} {B : Nat} (h : Stp w T w' T') (hT : ∀ g, g ∈ T → B ≤ g) (hB : B ≤ w.heap.size) : Below B w w' := h.1.below hB hT
structure Bd (w : World) (B r : Nat) (openv textv : Value) (l : List Po) (text : List UInt8) : Prop where
  blk : w.heap[r]? = some (.cells #[openv, textv] 115 (0, 0))
  opn : w.ownsRow B 45 4 openv l.length (posCells l)
  txt : w.ownsRow B 5 1 textv text.length (Lib.byteCells text)
  kids : ∀ p ∈ l, p.ks.map Pn.nd = p.o.kids ∧ w.ownsRow B 45 4 p.kv p.ks.length (pnsCells p.ks)
  attrs : ∀ p ∈ l, LiesP w (DoneB B (touchB r openv textv l)) p.av p.o.attrs.length 2 (pairCells p.o.attrs)
  done : ∀ p ∈ l, ∀ q ∈ p.ks, LiesP w (DoneB B (touchB r openv textv l)) q.av q.nd.attrs.length 2 (pairCells q.nd.attrs) ∧ Ns w (DoneB B (touchB r openv textv l)) q.kv q.nd.kids
  apart : (openv.ownBlock.toList ++ kidBlocks l).Nodup
  hr : B ≤ r
  pos : 0 < B
section
variable {w w' : World} {B r : Nat} {openv textv : Value} {l : List Po} {text : List UInt8}
theorem Bd.lt (h : Bd w B r openv textv l text) : r < w.heap.size := by
  rcases Nat.lt_or_ge r w.heap.size with h' | h'
  · exact h'
  · have := h.blk; rw [Array.getElem?_eq_none h'] at this; simp at this
theorem Bd.cell0 (h : Bd w B r openv textv l text) : w.cell? ⟨r, 0, none⟩ = some openv := by
  have := h.blk; simp [World.cell?, this]
theorem Bd.cell1 (h : Bd w B r openv textv l text) : w.cell? ⟨r, 1, none⟩ = some textv := by
  have := h.blk; simp [World.cell?, this]
theorem Bd.free (h : Bd w B r openv textv l text) (j : Nat) : w.frozen? ⟨r, j, none⟩ = false := by
  have := h.blk; simp [World.frozen?, this]
/-- The list that is open ends in the innermost one. -/
theorem Bd.form {p : Po} (h : Bd w B r openv textv (l ++ [p]) text) : ∃ go cap, openv = .slice (some ⟨go, 0, none⟩) (l.length + 1) cap ∧ B ≤ go ∧ go < w.heap.size ∧ l.length + 1 ≤ cap ∧ cap ≤ maxLen := by
  have h1 := h.opn
  have hlt := h1.lt
  rcases h1.2 with ⟨_, h0⟩ | ⟨g, cap, cur, e, hb, _, h3, h4, _⟩
  · simp at h0
  · subst e
    have := (hlt g rfl).2
    simp only [List.length_append, List.length_singleton] at h3 ⊢
    exact ⟨g, cap, rfl, hb, this, h3, h4⟩
/-- Nothing that a builder has is changed. -/
theorem Bd.keepsNil (h : Bd w B r openv textv l text) (hk : Keeps [] w w') : Bd w' B r openv textv l text := by
  have n0 : ∀ g, DoneB B (touchB r openv textv l) g → g ∉ ([] : List Nat) := fun _ _ => List.not_mem_nil
  refine ⟨?_, hk.owns h.opn (fun _ _ => List.not_mem_nil), hk.owns h.txt (fun _ _ => List.not_mem_nil), fun p hp => ⟨(h.kids p hp).1, hk.owns (h.kids p hp).2 (fun _ _ => List.not_mem_nil)⟩, fun p hp => (h.attrs p hp).keeps hk n0, fun p hp q hq => ⟨(h.done p hp q hq).1.keeps hk n0, (h.done p hp q hq).2.keeps hk n0⟩, h.apart, h.hr, h.pos⟩
  rw [hk.block r h.lt List.not_mem_nil]; exact h.blk
theorem mem_kidBlocks {g : Nat} : g ∈ kidBlocks l ↔ ∃ p ∈ l, p.kv.ownBlock = some g := by
  simp [kidBlocks]
theorem kidBlocks_add (p : Po) : kidBlocks (l ++ [p]) = kidBlocks l ++ p.kv.ownBlock.toList := by simp [kidBlocks]
/-- Cells of the innermost one. -/
theorem posCells_last (l : List Po) (p : Po) (j : Nat) (hj : j < 4) : (posCells (l ++ [p]))[l.length * 4 + j]? = (poCells p)[j]? := by
  rw [posCells_add, List.getElem?_append_right (by rw [posCells_len]; omega), posCells_len]
  congr 1
  omega
theorem posCells_set (l : List Po) (p : Po) (kv : Value) (o : Op) (ks : List Pn) (ho : o.name = p.o.name) : (posCells (l ++ [p])).set (l.length * 4 + 3) kv = posCells (l ++ [⟨o, p.av, kv, ks⟩]) := by
  rw [posCells_add, posCells_add, List.set_append_right _ _ (by rw [posCells_len]; omega), posCells_len]
  congr 1
  rw [show l.length * 4 + 3 - l.length * 4 = 3 from by omega]
  simp [poCells, ho]
/-- A node is put into the innermost one: its kids' row has grown, and the slice is stored. -/
theorem Bd.put {p : Po} {q : Pn} {kv3 : Value} {go cap : Nat} (h : Bd w B r openv textv (l ++ [p]) text) (hk : Keeps p.kv.ownBlock.toList w w') (ho : w'.ownsRow B 45 4 kv3 (p.ks.length + 1) (pnsCells p.ks ++ pnCells q))
    (hw : kv3.ownBlock = p.kv.ownBlock ∨ ∃ n, kv3.ownBlock = some n ∧ w.heap.size ≤ n) (hqa : LiesP w (DoneB B (touchB r openv textv (l ++ [p]))) q.av q.nd.attrs.length 2 (pairCells q.nd.attrs)) (hqk : Ns w (DoneB B (touchB r openv textv (l ++ [p]))) q.kv q.nd.kids)
    (hv : openv = .slice (some ⟨go, 0, none⟩) (l.length + 1) cap) :
    Bd (w'.setCell ⟨go, l.length * 4 + 3, none⟩ kv3) B r openv textv (l ++ [⟨p.o.put q.nd, p.av, kv3, p.ks ++ [q]⟩]) text ∧ Stp w (touchB r openv textv (l ++ [p])) (w'.setCell ⟨go, l.length * 4 + 3, none⟩ kv3) (touchB r openv textv (l ++ [⟨p.o.put q.nd, p.av, kv3, p.ks ++ [q]⟩])) := by
  have hap := h.apart
  rw [kidBlocks_add] at hap
  have hgo : openv.ownBlock = some go := by rw [hv]; rfl
  rw [hgo] at hap
  simp only [Option.toList_some, List.cons_append, List.nil_append, List.nodup_cons, List.mem_append, not_or] at hap
  obtain ⟨⟨hgl, hgp⟩, hnd⟩ := hap
  rw [List.nodup_append] at hnd
  obtain ⟨hnl, _, hlp⟩ := hnd
  have hS : ∀ g, p.kv.ownBlock = some g ↔ g ∈ p.kv.ownBlock.toList := fun g => by simp
  have hpl := (h.kids p (by simp)).2
  -- the blocks in w'
  have hgo' : go ∉ p.kv.ownBlock.toList := hgp
  have opn' : w'.ownsRow B 45 4 openv (l.length + 1) (posCells (l ++ [p])) := by
    have := hk.owns h.opn (fun g hg => by rw [hgo] at hg; simp at hg; subst hg; exact hgo')
    simpa using this
  have txt' := hk.owns h.txt (fun g hg hm => rows_apart h.txt hpl (by decide) hg (by simpa using hm))
  have kid' : ∀ u ∈ l, w'.ownsRow B 45 4 u.kv u.ks.length (pnsCells u.ks) := fun u hu => hk.owns (h.kids u (by simp [hu])).2 (fun g hg hm => hlp g (mem_kidBlocks.2 ⟨u, hu, hg⟩) g hm rfl)
  have hT : ∀ g, DoneB B (touchB r openv textv (l ++ [p])) g → g ∉ p.kv.ownBlock.toList := fun g hg hm => hg.2 (by simp only [touchB, kidBlocks_add, List.mem_cons, List.mem_append]; exact .inr (.inr (.inr (.inr hm))))
  have hTgo : ∀ g, DoneB B (touchB r openv textv (l ++ [p])) g → g ≠ go := fun g hg e => hg.2 (by simp only [touchB, hgo, List.mem_cons, List.mem_append]; exact .inr (.inr (.inl (by simp [e]))))
  -- kv3's block is not the open row's
  have hlt_go : go < w.heap.size := (h.opn.lt go hgo).2
  have h3go : kv3.ownBlock ≠ some go := by
    rcases hw with hw | ⟨n, hw, hn⟩
    · rw [hw]; intro e; exact hgp (by simp [e])
    · rw [hw]; intro e; simp at e; omega
  -- the store
  subst hv
  obtain ⟨hst, hgr⟩ := opn'.stored (l.length * 4 + 3) kv3
  rw [posCells_set l p kv3 (p.o.put q.nd) (p.ks ++ [q]) rfl] at hst
  have hks : Keeps [go] w' (w'.setCell ⟨go, l.length * 4 + 3, none⟩ kv3) := (Keeps.refl [go] w').setCell (.inl (by simp)) _
  have hBgo : B ≤ go := (h.opn.lt go hgo).1
  -- done blocks stay done
  have hD : ∀ g, g < w.heap.size → DoneB B (touchB r (.slice (some ⟨go, 0, none⟩) (l.length + 1) cap) textv (l ++ [p])) g → DoneB B (touchB r (.slice (some ⟨go, 0, none⟩) (l.length + 1) cap) textv (l ++ [⟨p.o.put q.nd, p.av, kv3, p.ks ++ [q]⟩])) g := fun g hg hd => ⟨hd.1, fun hm => by
    simp only [touchB, kidBlocks_add, List.mem_cons, List.mem_append] at hm
    have hd2 := hd.2
    simp only [touchB, kidBlocks_add, List.mem_cons, List.mem_append, not_or] at hd2
    rcases hm with hm | hm | hm | hm | hm
    · exact hd2.1 hm
    · exact hd2.2.1 hm
    · exact hd2.2.2.1 hm
    · exact hd2.2.2.2.1 hm
    · rcases hw with hw | ⟨n, hw, hn⟩
      · rw [hw] at hm; exact hd2.2.2.2.2 hm
      · rw [hw] at hm; simp at hm; omega⟩
  have liesUp : ∀ {v : Value} {n z : Nat} {xs : List Value}, LiesP w (DoneB B (touchB r (.slice (some ⟨go, 0, none⟩) (l.length + 1) cap) textv (l ++ [p]))) v n z xs → LiesP (w'.setCell ⟨go, l.length * 4 + 3, none⟩ kv3) (DoneB B (touchB r (.slice (some ⟨go, 0, none⟩) (l.length + 1) cap) textv (l ++ [⟨p.o.put q.nd, p.av, kv3, p.ks ++ [q]⟩]))) v n z xs := fun hL =>
    ((((hL.keeps hk hT).keeps hks (fun g hg => by simpa using hTgo g hg))).mono (Q := fun g => DoneB B (touchB r (.slice (some ⟨go, 0, none⟩) (l.length + 1) cap) textv (l ++ [p])) g) (fun _ _ h => h)) |> fun h9 => by
      have hb := hL
      refine ⟨h9.1, ?_⟩
      rcases h9.2 with h0 | ⟨g, o, c, e, h1, h2, h3, h4, h5⟩
      · exact .inl h0
      · rcases hb.2 with ⟨hz, a, c', e', _⟩ | ⟨g', o', c', e', _, _, h3', _, _⟩
        · subst e'
          simp only [Value.slice.injEq] at e
          exact .inl ⟨hz, a, c', rfl, by omega⟩
        · rw [e] at e'
          simp only [Value.slice.injEq, Option.some.injEq, Addr.mk.injEq, and_true] at e'
          obtain ⟨⟨rfl, rfl⟩, _, rfl⟩ := e'
          exact .inr ⟨g, o, c, e, h1, h2, h3, hD g h3' h4, h5⟩
  have nsUp : ∀ {v : Value} {ns : List Nd}, Ns w (DoneB B (touchB r (.slice (some ⟨go, 0, none⟩) (l.length + 1) cap) textv (l ++ [p]))) v ns → Ns (w'.setCell ⟨go, l.length * 4 + 3, none⟩ kv3) (DoneB B (touchB r (.slice (some ⟨go, 0, none⟩) (l.length + 1) cap) textv (l ++ [⟨p.o.put q.nd, p.av, kv3, p.ks ++ [q]⟩]))) v ns := fun hN => by
    induction hN with
    | mk v l' ns e h ha _ ih => exact .mk v l' ns e (liesUp h) (fun p hp => liesUp (ha p hp)) ih
  have hrgo : r ≠ go := fun e => block_ne h.opn (b := r) h.blk (by decide) (by rw [e]; rfl)
  have hrkv : r ∉ p.kv.ownBlock.toList := fun hm => block_ne hpl h.blk (by decide) (by simpa using hm)
  refine ⟨⟨?_, ?_, ?_, ?_, ?_, ?_, ?_, h.hr, h.pos⟩, ?_⟩
  · rw [hks.block r (Nat.lt_of_lt_of_le h.lt hk.size) (by simpa using hrgo), hk.block r h.lt hrkv]
    exact h.blk
  · simpa using hst
  · exact hks.owns txt' (fun g hg hm => by simp at hm; subst hm; exact rows_apart txt' opn' (by decide) hg rfl)
  · intro u hu
    rcases List.mem_append.1 hu with hu | hu
    · refine ⟨(h.kids u (by simp [hu])).1, hks.owns (kid' u hu) (fun g hg hm => ?_)⟩
      simp at hm
      subst hm
      exact hgl (mem_kidBlocks.2 ⟨u, hu, hg⟩)
    · simp at hu
      subst hu
      refine ⟨by simp [Op.put, (h.kids p (by simp)).1], ?_⟩
      have : w'.ownsRow B 45 4 kv3 (p.ks ++ [q]).length (pnsCells (p.ks ++ [q])) := by
        have e : pnsCells (p.ks ++ [q]) = pnsCells p.ks ++ pnCells q := by simp [pnsCells]
        rw [e]
        simpa using ho
      exact hks.owns this (fun g hg hm => by simp at hm; subst hm; exact h3go hg)
  · intro u hu
    rcases List.mem_append.1 hu with hu | hu
    · exact liesUp (h.attrs u (by simp [hu]))
    · simp at hu
      subst hu
      exact liesUp (h.attrs p (by simp))
  · intro u hu x hx
    rcases List.mem_append.1 hu with hu | hu
    · have := h.done u (by simp [hu]) x hx
      exact ⟨liesUp this.1, nsUp this.2⟩
    · simp at hu
      subst hu
      simp at hx
      rcases hx with hx | hx
      · have := h.done p (by simp) x hx
        exact ⟨liesUp this.1, nsUp this.2⟩
      · subst hx
        exact ⟨liesUp hqa, nsUp hqk⟩
  · rw [kidBlocks_add, hgo]
    simp only [Option.toList_some, List.cons_append, List.nil_append, List.nodup_cons, List.mem_append, not_or]
    refine ⟨⟨hgl, ?_⟩, ?_⟩
    · intro hm
      exact h3go (by simpa using hm)
    · rw [List.nodup_append]
      refine ⟨hnl, ?_, ?_⟩
      · cases kv3.ownBlock <;> simp
      · intro a ha b hb e
        subst e
        rcases hw with hw | ⟨n, hw, hn⟩
        · rw [hw] at hb; exact hlp a ha a hb rfl
        · rw [hw] at hb
          simp at hb
          subst hb
          obtain ⟨u, hu, hub⟩ := mem_kidBlocks.1 ha
          have := ((h.kids u (by simp [hu])).2.lt _ hub).2
          omega
  · refine ⟨(hk.mono (fun g hg _ => ?_)).trans (hks.mono (fun g hg _ => ?_)), fun g hg hlt => ?_⟩
    · simp only [touchB, kidBlocks_add, List.mem_cons, List.mem_append]; exact .inr (.inr (.inr (.inr hg)))
    · simp at hg; subst hg; simp only [touchB, hgo, List.mem_cons, List.mem_append]; exact .inr (.inr (.inl (by simp)))
    · simp only [touchB, kidBlocks_add, List.mem_cons, List.mem_append] at hg ⊢
      rcases hg with hm | hm | hm | hm | hm
      · exact .inl hm
      · exact .inr (.inl hm)
      · exact .inr (.inr (.inl hm))
      · exact .inr (.inr (.inr (.inl hm)))
      · rcases hw with hw | ⟨n, hw, hn⟩
        · rw [hw] at hm; exact .inr (.inr (.inr (.inr hm)))
        · rw [hw] at hm; simp at hm; omega
end
end Go.Proofs.YtlcljanibjdejaaGreat
namespace Go.Proofs.YtlcljanibjdejaaGreat
open Go.RowKit Go.Maps
theorem info79 : (Tryz.prog.info? 45).map (fun i => (i.zero, i.size, i.bytes)) = some (some (.agg #[.string ⟨#[]⟩, .slice none 0 0, .string ⟨#[]⟩, .slice none 0 0]), 4, 80) := by kernel_rfl
def zeroNd : List Value := [.string ⟨#[]⟩, .slice none 0 0, .string ⟨#[]⟩, .slice none 0 0]
/-- A row of nodes that has grown by one that is nothing yet. -/
theorem grow_form {w : World} {B n : Nat} {v : Value} {xs : List Value} (h : w.ownsRow B 45 4 v (n + 1) (xs ++ zeroNd)) (hx : xs.length = n * 4) :
    ∃ g c, v = .slice (some ⟨g, 0, none⟩) (n + 1) c ∧ n + 1 ≤ c ∧ c ≤ maxLen ∧ B ≤ g ∧ g < w.heap.size ∧ (∀ j, j < 4 → w.cell? ⟨g, n * 4 + j, none⟩ = zeroNd[j]?) ∧ ∀ j, w.frozen? ⟨g, j, none⟩ = false := by
  have hlt := h.lt
  rcases h.2 with ⟨_, h0⟩ | ⟨g, cap, cur, e, hb, _, h3, h4, _⟩
  · omega
  · subst e
    refine ⟨g, cap, rfl, h3, h4, hb, (hlt g rfl).2, fun j hj => ?_, fun j => h.frozenAt j⟩
    rw [h.cellAt _ (by omega), List.getElem?_append_right (by omega), hx]
    congr 1
    omega
theorem put_ne {ko : Option Addr} {n kc g3 m c3 go s t : Nat} (hgo : go ∉ (Value.slice ko n kc).ownBlock.toList) (hw : (Value.slice (some ⟨g3, 0, none⟩) m c3).ownBlock = (Value.slice ko n kc).ownBlock ∨ (Value.slice (some ⟨g3, 0, none⟩) m c3).ownBlock = some t) (hs : go < s) (ht : s ≤ t := by simp) : g3 ≠ go := by
  rcases hw with hw | hw
  · intro e
    rw [← hw] at hgo
    simp [Value.ownBlock, e] at hgo
  · simp [Value.ownBlock] at hw
    omega
theorem setCell_comm (w : World) {a b : Addr} (h : a.block ≠ b.block) (u v : Value) : (w.setCell a u).setCell b v = (w.setCell b v).setCell a u := by
  unfold World.setCell
  congr 1
  apply Array.ext_getElem?
  intro i
  simp only [Array.getElem?_modify]
  by_cases h1 : a.block = i <;> by_cases h2 : b.block = i
  · exact absurd (h1.trans h2.symm) h
  · simp [h1, h2]
  · simp [h1, h2]
  · simp [h1, h2]
/-- Four cells behind the others, stored one by one. -/
theorem stored4 {w : World} {B n g c : Nat} {xs : List Value} (h : w.ownsRow B 45 4 (.slice (some ⟨g, 0, none⟩) (n + 1) c) (n + 1) (xs ++ zeroNd)) (hx : xs.length = n * 4) (u0 u1 u2 u3 : Value) :
    ((((w.setCell ⟨g, n * 4, none⟩ u0).setCell ⟨g, n * 4 + 1, none⟩ u1).setCell ⟨g, n * 4 + 2, none⟩ u2).setCell ⟨g, n * 4 + 3, none⟩ u3).ownsRow B 45 4 (.slice (some ⟨g, 0, none⟩) (n + 1) c) (n + 1) (xs ++ [u0, u1, u2, u3]) := by
  have h4 := ((((h.stored (n * 4) u0).1.stored (n * 4 + 1) u1).1.stored (n * 4 + 2) u2).1.stored (n * 4 + 3) u3).1
  have e : ((((xs ++ zeroNd).set (n * 4) u0).set (n * 4 + 1) u1).set (n * 4 + 2) u2).set (n * 4 + 3) u3 = xs ++ [u0, u1, u2, u3] := by
    rw [List.set_append_right _ _ (by omega), List.set_append_right _ _ (by omega), List.set_append_right _ _ (by omega), List.set_append_right _ _ (by omega), hx]
    rw [show n * 4 - n * 4 = 0 from by omega, show n * 4 + 1 - n * 4 = 1 from by omega, show n * 4 + 2 - n * 4 = 2 from by omega, show n * 4 + 3 - n * 4 = 3 from by omega]
    rfl
  rw [e] at h4
  exact h4
theorem keeps4 {S : List Nat} {a w : World} (h : Keeps S a w) {g n : Nat} (hg : g ∈ S ∨ a.heap.size ≤ g) (u0 u1 u2 u3 : Value) :
    Keeps S a ((((w.setCell ⟨g, n * 4, none⟩ u0).setCell ⟨g, n * 4 + 1, none⟩ u1).setCell ⟨g, n * 4 + 2, none⟩ u2).setCell ⟨g, n * 4 + 3, none⟩ u3) :=
  (((h.setCell hg u0).setCell hg u1).setCell hg u2).setCell hg u3
theorem own_or {ko : Option Addr} {n kc g3 m c3 s t : Nat} (hw : (Value.slice (some ⟨g3, 0, none⟩) m c3).ownBlock = (Value.slice ko n kc).ownBlock ∨ (Value.slice (some ⟨g3, 0, none⟩) m c3).ownBlock = some t) (ht : s ≤ t) : g3 ∈ (Value.slice ko n kc).ownBlock.toList ∨ s ≤ g3 := by
  rcases hw with hw | hw
  · left
    rw [← hw]
    simp [Value.ownBlock]
  · simp [Value.ownBlock] at hw
    right
    omega
theorem own_or2 {ko : Option Addr} {n kc g3 m c3 s t : Nat} (hw : (Value.slice (some ⟨g3, 0, none⟩) m c3).ownBlock = (Value.slice ko n kc).ownBlock ∨ (Value.slice (some ⟨g3, 0, none⟩) m c3).ownBlock = some t) (ht : s ≤ t) : (Value.slice (some ⟨g3, 0, none⟩) m c3).ownBlock = (Value.slice ko n kc).ownBlock ∨ ∃ k, (Value.slice (some ⟨g3, 0, none⟩) m c3).ownBlock = some k ∧ s ≤ k := by
  rcases hw with hw | hw
  · exact .inl hw
  · exact .inr ⟨t, hw, ht⟩
end Go.Proofs.YtlcljanibjdejaaGreat
namespace Go.Proofs.YtlcljanibjdejaaGreat
open Go.RowKit Go.Maps
theorem LiesP.move {w w' : World} {B : Nat} {S T T' : List Nat} {v : Value} {n z : Nat} {xs : List Value} (h : LiesP w (DoneB B T) v n z xs) (hk : Keeps S w w') (hS : ∀ g, g ∈ S → g ∈ T) (hT : ∀ g, g < w.heap.size → g ∈ T' → g ∈ T) : LiesP w' (DoneB B T') v n z xs :=
  ((h.mono (Q := fun g => DoneB B T g ∧ DoneB B T' g) (fun g hg hd => ⟨hd, hd.1, fun hm => hd.2 (hT g hg hm)⟩)).keeps hk (fun g hg hm => hg.1.2 (hS g hm))).mono (fun _ _ hg => hg.2)
theorem Ns.move {w w' : World} {B : Nat} {S T T' : List Nat} {v : Value} {ns : List Nd} (h : Ns w (DoneB B T) v ns) (hk : Keeps S w w') (hS : ∀ g, g ∈ S → g ∈ T) (hT : ∀ g, g < w.heap.size → g ∈ T' → g ∈ T) : Ns w' (DoneB B T') v ns :=
  ((h.mono (Q := fun g => DoneB B T g ∧ DoneB B T' g) (fun g hg hd => ⟨hd, hd.1, fun hm => hd.2 (hT g hg hm)⟩)).keeps hk (fun g hg hm => hg.1.2 (hS g hm))).mono (fun _ _ hg => hg.2)
section
variable {w w' : World} {B r : Nat} {openv textv : Value} {l : List Po} {text : List UInt8}
theorem mem_touch {g : Nat} : g ∈ touchB r openv textv l ↔ g = r ∨ textv.ownBlock = some g ∨ openv.ownBlock = some g ∨ ∃ p ∈ l, p.kv.ownBlock = some g := by
  simp [touchB, mem_kidBlocks]
/-- The block r is another, in a world where the text's row has changed. -/
theorem Bd.setText (h : Bd w B r openv textv l text) (hk : Keeps textv.ownBlock.toList w w') {tv : Value} {tx : List UInt8} (ho : w'.ownsRow B 5 1 tv tx.length (Lib.byteCells tx)) (hw : tv.ownBlock = textv.ownBlock ∨ ∃ n, tv.ownBlock = some n ∧ w.heap.size ≤ n) :
    Bd (w'.setCell ⟨r, 1, none⟩ tv) B r openv tv l tx ∧ Stp w (touchB r openv textv l) (w'.setCell ⟨r, 1, none⟩ tv) (touchB r openv tv l) := by
  have hB : B ≤ w.heap.size := Nat.le_trans h.hr (Nat.le_of_lt h.lt)
  have hrt : r ∉ textv.ownBlock.toList := fun hm => block_ne h.txt h.blk (by decide) (by simpa using hm)
  have hks : Keeps [r] w' (w'.setCell ⟨r, 1, none⟩ tv) := (Keeps.refl [r] w').setCell (.inl (by simp)) _
  have hblk' : w'.heap[r]? = some (.cells #[openv, textv] 115 (0, 0)) := by rw [hk.block r h.lt hrt]; exact h.blk
  have hkk : Keeps (r :: textv.ownBlock.toList) w (w'.setCell ⟨r, 1, none⟩ tv) := (hk.to (by simp; exact fun _ h => .inr h)).trans (hks.to (by simp))
  have hS : ∀ g, g ∈ r :: textv.ownBlock.toList → g ∈ touchB r openv textv l := by
    intro g hg
    rw [mem_touch]
    simp at hg
    rcases hg with hg | hg
    · exact .inl hg
    · exact .inr (.inl hg)
  have hT : ∀ g, g < w.heap.size → g ∈ touchB r openv tv l → g ∈ touchB r openv textv l := by
    intro g hg hm
    rw [mem_touch] at hm ⊢
    rcases hm with hm | hm | hm | hm
    · exact .inl hm
    · rcases hw with hw | ⟨n, hw, hn⟩
      · exact .inr (.inl (hw ▸ hm))
      · rw [hw] at hm; simp at hm; omega
    · exact .inr (.inr (.inl hm))
    · exact .inr (.inr (.inr hm))
  have nd1 : ∀ {v : Value} {n : Nat} {xs : List Value}, w.ownsRow B 45 4 v n xs → (w'.setCell ⟨r, 1, none⟩ tv).ownsRow B 45 4 v n xs := fun hv => hkk.owns hv (fun g hg hm => by
    simp at hm
    rcases hm with hm | hm
    · subst hm; exact block_ne hv h.blk (by decide) hg
    · exact rows_apart hv h.txt (by decide) hg hm)
  refine ⟨⟨?_, nd1 h.opn, hks.owns ho (fun g hg hm => by simp at hm; subst hm; exact block_ne ho hblk' (by decide) hg), fun p hp => ⟨(h.kids p hp).1, nd1 (h.kids p hp).2⟩, fun p hp => (h.attrs p hp).move hkk hS hT, fun p hp q hq => ⟨(h.done p hp q hq).1.move hkk hS hT, (h.done p hp q hq).2.move hkk hS hT⟩, h.apart, h.hr, h.pos⟩, ?_⟩
  · simp [World.setCell, Array.getElem?_modify, hblk']
  · exact ⟨hkk.to hS, fun g hm hg => hT g hg hm⟩
/-- The innermost one is taken away from the open ones; what it was is done but for its own kids' row, which is done now. -/
theorem Bd.pop {p : Po} {go cap : Nat} (h : Bd w B r openv textv (l ++ [p]) text) (hv : openv = .slice (some ⟨go, 0, none⟩) (l.length + 1) cap) :
    Bd (w.setCell ⟨r, 0, none⟩ (.slice (some ⟨go, 0, none⟩) l.length cap)) B r (.slice (some ⟨go, 0, none⟩) l.length cap) textv l text ∧ Stp w (touchB r openv textv (l ++ [p])) (w.setCell ⟨r, 0, none⟩ (.slice (some ⟨go, 0, none⟩) l.length cap)) (touchB r (.slice (some ⟨go, 0, none⟩) l.length cap) textv l) ∧
      LiesP (w.setCell ⟨r, 0, none⟩ (.slice (some ⟨go, 0, none⟩) l.length cap)) (DoneB B (touchB r (.slice (some ⟨go, 0, none⟩) l.length cap) textv l)) p.av p.o.attrs.length 2 (pairCells p.o.attrs) ∧
      Ns (w.setCell ⟨r, 0, none⟩ (.slice (some ⟨go, 0, none⟩) l.length cap)) (DoneB B (touchB r (.slice (some ⟨go, 0, none⟩) l.length cap) textv l)) p.kv p.o.kids := by
  have hB : B ≤ w.heap.size := Nat.le_trans h.hr (Nat.le_of_lt h.lt)
  subst hv
  have hks : Keeps [r] w (w.setCell ⟨r, 0, none⟩ (.slice (some ⟨go, 0, none⟩) l.length cap)) := (Keeps.refl [r] w).setCell (.inl (by simp)) _
  have hS : ∀ g, g ∈ [r] → g ∈ touchB r (.slice (some ⟨go, 0, none⟩) (l.length + 1) cap) textv (l ++ [p]) := by
    intro g hg
    rw [mem_touch]
    simp at hg
    exact .inl hg
  have hT : ∀ g, g < w.heap.size → g ∈ touchB r (.slice (some ⟨go, 0, none⟩) l.length cap) textv l → g ∈ touchB r (.slice (some ⟨go, 0, none⟩) (l.length + 1) cap) textv (l ++ [p]) := by
    intro g hg hm
    rw [mem_touch] at hm ⊢
    rcases hm with hm | hm | hm | ⟨q, hq, hm⟩
    · exact .inl hm
    · exact .inr (.inl hm)
    · exact .inr (.inr (.inl hm))
    · exact .inr (.inr (.inr ⟨q, by simp [hq], hm⟩))
  have nd1 : ∀ {e z : Nat} {v : Value} {n : Nat} {xs : List Value}, e ≠ 115 → w.ownsRow B e z v n xs → (w.setCell ⟨r, 0, none⟩ (.slice (some ⟨go, 0, none⟩) l.length cap)).ownsRow B e z v n xs := fun he hv => hks.owns hv (fun g hg hm => by
    simp at hm
    subst hm; exact block_ne hv h.blk he hg)
  have hop := h.opn
  rw [List.length_append, List.length_singleton, posCells_add] at hop
  have hap := h.apart
  rw [kidBlocks_add, ← List.append_assoc, List.nodup_append] at hap
  have hkid := (h.kids p (by simp)).2
  have hkw := nd1 (by decide) hkid
  have hkrow : LiesP (w.setCell ⟨r, 0, none⟩ (.slice (some ⟨go, 0, none⟩) l.length cap)) (DoneB B (touchB r (.slice (some ⟨go, 0, none⟩) l.length cap) textv l)) p.kv p.ks.length 4 (pnsCells p.ks) := by
    refine LiesP.of_row hkw (fun g hg => ⟨(hkid.lt g hg).1, fun hm => ?_⟩)
    rw [mem_touch] at hm
    rcases hm with hm | hm | hm | ⟨q, hq, hm⟩
    · subst hm; exact block_ne hkid h.blk (by decide) hg
    · exact rows_apart hkid h.txt (by decide) hg hm
    · exact hap.2.2 g (List.mem_append_left _ (by simp [Value.ownBlock] at hm ⊢; exact hm.symm)) g (by simpa using hg) rfl
    · exact hap.2.2 g (List.mem_append_right _ (mem_kidBlocks.2 ⟨q, hq, hm⟩)) g (by simpa using hg) rfl
  refine ⟨⟨?_, nd1 (by decide) (ownsRow_pop (posCells_len l) hop), nd1 (by decide) h.txt, fun q hq => ⟨(h.kids q (by simp [hq])).1, nd1 (by decide) (h.kids q (by simp [hq])).2⟩, fun q hq => (h.attrs q (by simp [hq])).move hks hS hT, fun q hq x hx => ⟨(h.done q (by simp [hq]) x hx).1.move hks hS hT, (h.done q (by simp [hq]) x hx).2.move hks hS hT⟩, ?_, h.hr, h.pos⟩, ?_, (h.attrs p (by simp)).move hks hS hT, ?_⟩
  · have := h.blk
    simp [World.setCell, Array.getElem?_modify, this]
  · exact hap.1
  · exact ⟨hks.to hS, fun g hm hg => hT g hg hm⟩
  · exact .mk _ p.ks _ (h.kids p (by simp)).1 hkrow (fun q hq => (h.done p (by simp) q hq).1.move hks hS hT) (fun q hq => (h.done p (by simp) q hq).2.move hks hS hT)
/-- One more is open, behind the others. -/
theorem Bd.push {q : Po} (h : Bd w B r openv textv l text) (hk : Keeps openv.ownBlock.toList w w') {ov : Value} (ho : w'.ownsRow B 45 4 ov (l.length + 1) (posCells l ++ poCells q)) (hw : ov.ownBlock = openv.ownBlock ∨ ∃ n, ov.ownBlock = some n ∧ w.heap.size ≤ n)
    (hq : q.ks = []) (hq2 : q.o.kids = []) (hq3 : q.kv = .slice none 0 0) (hqa : LiesP w (DoneB B (touchB r openv textv l)) q.av q.o.attrs.length 2 (pairCells q.o.attrs)) :
    Bd (w'.setCell ⟨r, 0, none⟩ ov) B r ov textv (l ++ [q]) text ∧ Stp w (touchB r openv textv l) (w'.setCell ⟨r, 0, none⟩ ov) (touchB r ov textv (l ++ [q])) := by
  have hB : B ≤ w.heap.size := Nat.le_trans h.hr (Nat.le_of_lt h.lt)
  have hro : r ∉ openv.ownBlock.toList := fun hm => block_ne h.opn h.blk (by decide) (by simpa using hm)
  have hks : Keeps [r] w' (w'.setCell ⟨r, 0, none⟩ ov) := (Keeps.refl [r] w').setCell (.inl (by simp)) _
  have hblk' : w'.heap[r]? = some (.cells #[openv, textv] 115 (0, 0)) := by rw [hk.block r h.lt hro]; exact h.blk
  have hkk : Keeps (r :: openv.ownBlock.toList) w (w'.setCell ⟨r, 0, none⟩ ov) := (hk.to (by simp; exact fun _ h => .inr h)).trans (hks.to (by simp))
  have hS : ∀ g, g ∈ r :: openv.ownBlock.toList → g ∈ touchB r openv textv l := by
    intro g hg
    rw [mem_touch]
    simp at hg
    rcases hg with hg | hg
    · exact .inl hg
    · exact .inr (.inr (.inl hg))
  have hT : ∀ g, g < w.heap.size → g ∈ touchB r ov textv (l ++ [q]) → g ∈ touchB r openv textv l := by
    intro g hg hm
    rw [mem_touch] at hm ⊢
    rcases hm with hm | hm | hm | ⟨p, hp, hm⟩
    · exact .inl hm
    · exact .inr (.inl hm)
    · rcases hw with hw | ⟨n, hw, hn⟩
      · exact .inr (.inr (.inl (hw ▸ hm)))
      · rw [hw] at hm; simp at hm; omega
    · rcases List.mem_append.1 hp with hp | hp
      · exact .inr (.inr (.inr ⟨p, hp, hm⟩))
      · simp at hp; subst hp; rw [hq3] at hm; simp [Value.ownBlock] at hm
  have hap := h.apart
  have kid1 : ∀ p ∈ l, (w'.setCell ⟨r, 0, none⟩ ov).ownsRow B 45 4 p.kv p.ks.length (pnsCells p.ks) := fun p hp => hkk.owns (h.kids p hp).2 (fun g hg hm => by
    simp at hm
    rcases hm with hm | hm
    · subst hm; exact block_ne (h.kids p hp).2 h.blk (by decide) hg
    · exact (List.nodup_append.1 hap).2.2 g (by simpa using hm) g (mem_kidBlocks.2 ⟨p, hp, hg⟩) rfl)
  refine ⟨⟨?_, ?_, ?_, ?_, ?_, ?_, ?_, h.hr, h.pos⟩, ?_⟩
  · simp [World.setCell, Array.getElem?_modify, hblk']
  · rw [posCells_add, List.length_append, List.length_singleton]
    exact hks.owns ho (fun g hg hm => by simp at hm; subst hm; exact block_ne ho hblk' (by decide) hg)
  · exact hkk.owns h.txt (fun g hg hm => by
      simp at hm
      rcases hm with hm | hm
      · subst hm; exact block_ne h.txt h.blk (by decide) hg
      · exact rows_apart h.txt h.opn (by decide) hg hm)
  · intro p hp
    rcases List.mem_append.1 hp with hp | hp
    · exact ⟨(h.kids p hp).1, kid1 p hp⟩
    · simp at hp
      subst hp
      rw [hq, hq2, hq3]
      exact ⟨rfl, World.ownsRow_nil _ _ _ _⟩
  · intro p hp
    rcases List.mem_append.1 hp with hp | hp
    · exact (h.attrs p hp).move hkk hS hT
    · simp at hp
      subst hp
      exact hqa.move hkk hS hT
  · intro p hp x hx
    rcases List.mem_append.1 hp with hp | hp
    · exact ⟨(h.done p hp x hx).1.move hkk hS hT, (h.done p hp x hx).2.move hkk hS hT⟩
    · simp at hp
      subst hp
      rw [hq] at hx
      simp at hx
  · have e0 : (Value.slice none 0 0).ownBlock = none := rfl
    rw [kidBlocks_add, hq3, e0, Option.toList_none, List.append_nil]
    rw [List.nodup_append] at hap ⊢
    refine ⟨?_, hap.2.1, ?_⟩
    · cases (Value.ownBlock ov) <;> simp
    · intro a ha b hb e
      subst e
      rcases hw with hw | ⟨n, hw, hn⟩
      · exact hap.2.2 a (hw ▸ ha) a hb rfl
      · obtain ⟨u, hu, hub⟩ := mem_kidBlocks.1 hb
        have := ((h.kids u hu).2.lt _ hub).2
        have e9 : a = n := by
          have h9 : a ∈ ov.ownBlock.toList := ha
          rw [hw] at h9
          simpa using h9
        omega
  · exact ⟨hkk.to hS, fun g hm hg => hT g hg hm⟩
end
/-- How much a builder holds. -/
def St.weight (s : St) : Nat := (s.all.map fun o => o.kids.length + 1).sum + if s.text = [] then 0 else 1
end Go.Proofs.YtlcljanibjdejaaGreat
namespace Go.Proofs.YtlcljanibjdejaaGreat
/-- Nodes that were put, and text behind them. -/
structure Lst where
  all : List Nd
  text : List UInt8
def Lst.done (s : Lst) : List Nd := if s.text.isEmpty = true then s.all else s.all ++ [textN s.text]
def Lst.put (s : Lst) (n : Nd) : Lst := if n.name.isEmpty = true then ⟨s.all, s.text ++ n.text⟩ else ⟨s.done ++ [n], []⟩
/-- How many cells' worth was put. -/
def Lst.weight (s : Lst) : Nat := s.all.length + s.text.length
theorem Lst.done_len (s : Lst) : s.done.length ≤ s.weight := by
  unfold Lst.done Lst.weight
  cases h : s.text
  · simp
  · simp
end Go.Proofs.YtlcljanibjdejaaGreat
namespace Go.Proofs.YtlcljanibjdejaaGreat
open Go.RowKit Go.Maps
/-- A builder whose state is s, and what it may still change. -/
def BdT (w : World) (B r : Nat) (s : St) (T : List Nat) : Prop := ∃ openv textv l p, T = touchB r openv textv (l ++ [p]) ∧ l.map Po.o = s.up.reverse ∧ p.o = s.cur ∧ Bd w B r openv textv (l ++ [p]) s.text
theorem BdT.keepsNil {w w' : World} {B r : Nat} {s : St} {T : List Nat} (h : BdT w B r s T) (hk : Keeps [] w w') : BdT w' B r s T := by
  obtain ⟨o, t, l, p, e1, e2, e3, h⟩ := h
  exact ⟨o, t, l, p, e1, e2, e3, h.keepsNil hk⟩
theorem BdT.ge {w : World} {B r : Nat} {s : St} {T : List Nat} (h : BdT w B r s T) : (∀ g, g ∈ T → B ≤ g ∧ g < w.heap.size) ∧ B ≤ w.heap.size := by
  obtain ⟨o, t, l, p, rfl, e2, e3, h⟩ := h
  refine ⟨fun g hg => ?_, Nat.le_trans h.hr (Nat.le_of_lt h.lt)⟩
  rw [mem_touch] at hg
  rcases hg with rfl | hg | hg | ⟨q, hq, hg⟩
  · exact ⟨h.hr, h.lt⟩
  · exact h.txt.lt g hg
  · exact h.opn.lt g hg
  · exact (h.kids q hq).2.lt g hg
end Go.Proofs.YtlcljanibjdejaaGreat
namespace Go.Proofs.YtlcljanibjdejaaGreat
open Go.RowKit Go.Maps
theorem LiesP.form {w : World} {P : Nat → Prop} {v : Value} {n z : Nat} {xs : List Value} (h : LiesP w P v n z xs) : ∃ o c, v = .slice o n c := by
  obtain ⟨o, c, h, _⟩ := h.lies.form
  exact ⟨o, c, h⟩
/-- The innermost one, read out of the open row. -/
theorem Bd.last {w : World} {B r : Nat} {openv textv : Value} {l : List Po} {p : Po} {text : List UInt8} (h : Bd w B r openv textv (l ++ [p]) text) {go cap : Nat} (hv : openv = .slice (some ⟨go, 0, none⟩) (l.length + 1) cap) :
    w.cell? ⟨go, l.length * 4, none⟩ = some (.string ⟨p.o.name.toArray⟩) ∧ w.cell? ⟨go, l.length * 4 + 1, none⟩ = some p.av ∧ w.cell? ⟨go, l.length * 4 + 2, none⟩ = some (.string ⟨#[]⟩) ∧ w.cell? ⟨go, l.length * 4 + 3, none⟩ = some p.kv := by
  subst hv
  have hop := h.opn
  rw [List.length_append, List.length_singleton] at hop
  refine ⟨?_, ?_, ?_, ?_⟩
  · have := hop.cellAt (l.length * 4 + 0) (by omega)
    rw [posCells_last _ _ _ (by omega)] at this
    exact this
  · rw [hop.cellAt _ (by omega), posCells_last _ _ _ (by omega)]; rfl
  · rw [hop.cellAt _ (by omega), posCells_last _ _ _ (by omega)]; rfl
  · rw [hop.cellAt _ (by omega), posCells_last _ _ _ (by omega)]; rfl
end Go.Proofs.YtlcljanibjdejaaGreat
namespace Go.Proofs.YtlcljanibjdejaaGreat
open Go.RowKit Go.Maps
end Go.Proofs.YtlcljanibjdejaaGreat
namespace Go.Proofs.YtlcljanibjdejaaGreat
open Go.RowKit Go.Maps
theorem cell_blk {w : World} {g : Nat} {cs : Array Value} {t : TypeId} (h : w.heap[g]? = some (.cells cs t (0, 0))) (j : Nat) : w.cell? ⟨g, j, none⟩ = cs[j]? := by
  unfold World.cell?; simp only; rw [h]; simp
theorem free_blk {w : World} {g : Nat} {cs : Array Value} {t : TypeId} (h : w.heap[g]? = some (.cells cs t (0, 0))) (j : Nat) : w.frozen? ⟨g, j, none⟩ = false := by
  unfold World.frozen?; simp only; rw [h]; simp
end Go.Proofs.YtlcljanibjdejaaGreat
namespace Go.Proofs.YtlcljanibjdejaaGreat
open Go.RowKit Go.Maps
/-- A string's bytes are appended onto a row of one's own: where the row lies then. -/
theorem run_append_string_at {P : Program} (w : World) (base : Nat) (t u ty e : TypeId) (i : TypeInfo) (ht : P.underlying t = some (.slice e)) (hu : P.underlying u = some .string) (hi : P.info? e = some i) (hz : i.zero = some (.int .u8 0))
    (hsize : i.size = 1) (hby : i.bytes = 1) (v : Value) (n : Nat) (xs : List Value) (hown : w.ownsRow base e 1 v n xs) (s : ByteArray)
    (h63 : n + s.size ≤ maxLen) (hbytes : n + s.size ≤ 140737488355328) (hbase : base ≤ w.heap.size) :
    ∃ v' w', (Builtin.append_ #[t, u] ty #[v, .string s]).run P w = .ok v' w' ∧ w'.ownsRow base e 1 v' (n + s.size) (xs ++ Lib.strCells s) ∧ w.grownBy w' v.ownBlock ∧
      (v'.ownBlock = v.ownBlock ∨ ∃ k, v'.ownBlock = some k ∧ w.heap.size ≤ k) := by
  obtain ⟨v', w', hr, h1, h2, h3⟩ := Lib.run_append_own_string (P := P) w base t u ty e i ht hu hi hz hsize hby v n xs hown s h63 hbytes hbase
  refine ⟨v', w', hr, h1, h2, ?_⟩
  have hxl : xs.length = n := by simpa using hown.1
  rcases hown.2 with ⟨rfl, rfl⟩ | ⟨g, cap, cur, rfl, hbg, hg, hnc, hcm, hcs, htake⟩
  · obtain ⟨v2, w2, hr2, h12, h22, _⟩ := Lib.run_append_own_string (P := P) w w.heap.size t u ty e i ht hu hi hz hsize hby (.slice none 0 0) 0 [] (World.ownsRow_nil _ _ _ _) s h63 hbytes (Nat.le_refl _)
    rw [hr] at hr2
    simp only [Result.ok.injEq] at hr2
    obtain ⟨rfl, rfl⟩ := hr2
    cases hb : v'.ownBlock with
    | none => exact .inl rfl
    | some k => exact .inr ⟨k, rfl, (h12.lt k hb).1⟩
  · by_cases hroom : n + s.size ≤ cap
    · have hcs' : cur.size = cap := by simpa using hcs
      have hr2 := Lib.run_append_room_string (P := P) w t u ty e i ht hu hi hsize g n cap cur hg s hroom (by omega)
      rw [hr] at hr2
      simp only [Result.ok.injEq] at hr2
      rw [hr2.1]
      exact .inl rfl
    · have holds : ∀ j u, xs[j]? = some u → w.cell? ((⟨g, 0, none⟩ : Addr).add j) = some u := hown.cells (g := g) rfl
      have hsmall : n + s.size ≤ 9223372036854775807 := by simp only [maxLen] at h63; omega
      have hr2 := Lib.run_append_grow_string (P := P) w t u ty e i (.int .u8 0) ht hu hi hz ⟨g, 0, none⟩ n cap xs (by rw [hsize]; simpa using hxl) holds s (by omega) (by omega) (by rw [hby]; exact growslice_fits (by omega) (by omega))
      rw [hr] at hr2
      simp only [Result.ok.injEq] at hr2
      rw [hr2.1]
      exact .inr ⟨_, rfl, Nat.le_refl _⟩
theorem step_str_at {P : Program} {ops : Array Oper} {o : Oper} {a : Act} {w : World} {K : Act → World → Prop} {Q : Exit → Act → World → Prop} {E : Prop} (hg : o.guard = none) (sl x : Operand) (t u : TypeId)
    (ho : o.op = .call { callee := .builtin .append, args := #[sl, x], argTypes := #[t, u] })
    (base : Nat) (e : TypeId) (i : TypeInfo) (ht : P.underlying t = some (.slice e)) (hu : P.underlying u = some .string) (hi : P.info? e = some i) (hz : i.zero = some (.int .u8 0))
    (hsize : i.size = 1) (hby : i.bytes = 1)
    (v : Value) (n : Nat) (xs : List Value) (hs : a.eval sl = v) (hown : w.ownsRow base e 1 v n xs) (s : ByteArray) (hx : a.eval x = .string s)
    (h63 : n + s.size ≤ maxLen) (hbytes : n + s.size ≤ 140737488355328) (hbase : base ≤ w.heap.size)
    (h : ∀ v' w', w'.ownsRow base e 1 v' (n + s.size) (xs ++ Lib.strCells s) → w.grownBy w' v.ownBlock → (v'.ownBlock = v.ownBlock ∨ ∃ k, v'.ownBlock = some k ∧ w.heap.size ≤ k) → K (a.put o.dst v') w') :
    if Region.wanted o (yielded ops a.tmps) = true then Oper.wp P o a w K Q else E := by
  refine step_is hg ?_
  obtain ⟨v', w', hr, h2, h3, h4⟩ := run_append_string_at (P := P) w base t u o.type e i ht hu hi hz hsize hby v n xs hown s h63 hbytes hbase
  unfold Oper.wp execOp
  simp only [ho, resolve, invoke, builtin, Sem.run_bind, Sem.run_pure, Result.andThen_ok, List.map_toArray, List.map_cons, List.map_nil, hs, hx, hr]
  exact h v' w' h2 h3 h4
theorem info5b : (Tryz.prog.info? 5).map (fun i => (i.zero, i.size, i.bytes)) = some (some (.int .u8 0), 1, 1) := by kernel_rfl
theorem byteCells_str (l : List UInt8) (t : List UInt8) : Lib.byteCells l ++ Lib.strCells ⟨t.toArray⟩ = Lib.byteCells (l ++ t) := by
  simp [Lib.byteCells, Lib.strCells]
end Go.Proofs.YtlcljanibjdejaaGreat
namespace Go.Proofs.YtlcljanibjdejaaGreat
open Go.RowKit Go.Maps
/-- Nodes that are only read, in any blocks. -/
theorem Ns.keeps0 {w w' : World} {P : Nat → Prop} {v : Value} {ns : List Nd} (h : Ns w P v ns) (hk : Keeps [] w w') : Ns w' P v ns := h.keeps hk (fun _ _ => List.not_mem_nil)
end Go.Proofs.YtlcljanibjdejaaGreat
namespace Go.Proofs.YtlcljanibjdejaaGreat
open Go.RowKit Go.Maps
set_option maxRecDepth 8000 in
set_option maxHeartbeats 8000000 in
theorem sameNodes_eq (P Q : Nat → Prop) (w0 : World) (va : Value) (ns : List Nd) (h : Ns w0 P va ns) : ∀ (vb : Value) (w : World), Keeps [] w0 w → Ns w Q vb ns →
    Calls Tryz.prog 25 #[va, vb] w fun e w' => e = .returned (.bool true) ∧ ∃ n, w' = w.drewN n := by
  induction h with
  | mk v la ns hns hl haa hk ih =>
    intro vb w hkw hb
    cases hb with
    | mk _ lb _ hnb hlb hab hkb =>
    have hM : la.map Pn.nd = lb.map Pn.nd := hns.trans hnb.symm
    have hlen : la.length = lb.length := by simpa using congrArg List.length hM
    have hn : (((la.length : Int) != (lb.length : Int))) = false := by simp; omega
    have hla := (hl.keeps hkw (fun _ _ => List.not_mem_nil)).lies
    obtain ⟨oa, ca, rfl, h1, h2⟩ := hla.form
    have hlb' := hlb.lies
    obtain ⟨ob, cb, rfl, h3, h4⟩ := hlb'.form
    unfold maxLen at h2 h4
    have HL := hide hlen
    have HM := hide hM
    have HA := hide hla
    have HB := hide hlb'
    have HI := hide ih
    have HK := hide hkw
    have HAA := hide haa
    have HAB := hide hab
    have HKB := hide hkb
    clear hlen hM hla hlb' ih hkw haa hab hkb hl hlb hk hns hnb
    go_enter Tryz.func25, Tryz.ntmps25
    go_wp2_with fail
    go_loopw [5] (fun i wr => ∃ k : Nat, k ≤ la.length ∧ i = .int .i64 k ∧ Hid (∃ m, wr = w.drewN m)) (fun i _ => la.length - (intOf i).toNat)
    case atStart => exact ⟨0, Nat.zero_le _, rfl, 0, rfl⟩
    case round =>
      obtain ⟨k, hk, rfl, hW⟩ := hrel
      have hkw : Keeps [] w wr := by obtain ⟨m, hm⟩ := hW.out; rw [hm]; exact (Keeps.refl _ _).drewN _
      by_cases hlt : k < la.length
      · obtain ⟨ga, xa, ea, hca⟩ := (HA.out.keeps hkw).addr (by omega)
        obtain ⟨gb, xb, eb, hcb⟩ := (HB.out.keeps hkw).addr (by rw [← HL.out]; omega)
        subst ea
        subst eb
        have hltb : k < lb.length := by rw [← HL.out]; exact hlt
        obtain ⟨a0, a1, a2, a3⟩ := lies_pn hca k hlt
        obtain ⟨b0, b1, b2, b3⟩ := lies_pn hcb k hltb
        have hpq : la[k].nd = lb[k].nd := by
          have h9 : (la.map Pn.nd)[k]? = (lb.map Pn.nd)[k]? := by rw [HM.out]
          simpa [List.getElem?_eq_getElem hlt, List.getElem?_eq_getElem hltb] using h9
        have hpa := ((HAA.out la[k] (List.getElem_mem hlt)).keeps (HK.out.trans hkw) (fun _ _ => List.not_mem_nil)).lies
        have hpb := ((HAB.out lb[k] (List.getElem_mem hltb)).keeps hkw (fun _ _ => List.not_mem_nil)).lies
        have hsa := hide (fun n : Nat => sameAttrs_any (wr.drewN n) la[k].av lb[k].av la[k].nd.attrs lb[k].nd.attrs (hpa.keeps ((Keeps.refl [] wr).drewN n)) (hpb.keeps ((Keeps.refl [] wr).drewN n)))
        have hkb := HKB.out lb[k] (List.getElem_mem hltb)
        rw [← hpq] at hkb
        have hsn := hide (fun n : Nat => HI.out la[k] (List.getElem_mem hlt) lb[k].kv (wr.drewN n) ((HK.out.trans hkw).drewN n) (hkb.keeps0 (hkw.drewN n)))
        clear hca hcb hpa hpb hkb
        generalize la[k] = p at *
        generalize lb[k] = q at *
        obtain ⟨np, avp, kvp⟩ := p
        obtain ⟨nq', avq, kvq⟩ := q
        simp only at hpq
        subst hpq
        simp only at a0 a1 a2 a3 b0 b1 b2 b3 hsa hsn
        simp only [decide_true] at hsa
        generalize np.name = nm at *
        generalize np.text = tx at *
        go_wp2_with fail
        go_quiet ((first | (go_at_call 92; exact Calls.quiet_of (hsa.out _)) | (go_at_call 25; exact Calls.quiet_of (hsn.out _))))
        go_wp2_with fail
        go_roundw
        case rel => exact ⟨k + 1, by omega, by go_num, by obtain ⟨m, hm⟩ := hW.out; exact ⟨m + nq, by rw [hm]; simp⟩⟩
        case measure => simp [intOf]; omega
      · go_wp2_with fail
        go_ret
        exact ⟨rfl, hW.out⟩
end Go.Proofs.YtlcljanibjdejaaGreat
