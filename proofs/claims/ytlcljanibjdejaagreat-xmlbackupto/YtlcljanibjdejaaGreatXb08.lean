/- Flat$1, flat. flat, Flat. page, treeBegun. Trees: what is built is right, and built of its own tokens again it is the same; walls. Clean trees, as functions: all text stays; what is clean is right, and cleaned again it is the same. A link, and an attribute, in the light of a base: link, attr. Package nodes: List: nodes that were put, texts joined; endText, All. Package nodes: List: Put of one node, All. An element that is made: Kp. Package nodes: List: All, and a list that has just been made. Nodes are put, each as it must be: put, cleaned. What Read answers of a text without < and &, and of one with a comment. What Read answers of a tag whose attributes are written plainly. What is printed is read as it was: readL (toksP l) = l for tokens that Check passes. What is printed is read as it was: readL (toksP l) = l for tokens that Check passes. What is read is right: chkL (readL s) = 0. A slice of tokens that came in: what is read of it lies there ('Toks'), and how much it is. TreeKeeps' walk: no text is lost. How much is read of a text: bulkL (readL l) ≤ 12 * l.length. How much nodes are, and how much is built. What is read, built and cleaned of a text is no more than may be printed. printText, of a text that may be longer than one that is read. -/
import Derived.Test.YtlcljanibjdejaaGreatXb07
import Derived.Deep.SlicePairs
namespace Go.Proofs.YtlcljanibjdejaaGreat
open Go.RowKit Go.Maps
/-- An append onto a row of one's own, and where the row lies then. -/
theorem wpList_append_own_at9 {P : Program} (w : World) {ops : Array Oper} {rest : List Oper} {o : Oper} {a : Act} {Q : Exit → Act → World → Prop} (hgd : o.guard = none) (s x : Operand) (t : TypeId)
    (ho : o.op = .call { callee := .builtin .append, args := #[s, x], argTypes := #[t, t] })
    (base : Nat) (e : TypeId) (i : TypeInfo) (z : Value) (size bytes : Nat) (ht : P.underlying t = some (.slice e)) (hi : P.info? e = some i) (hz : i.zero = some z)
    (hsize : i.size = size) (hby : i.bytes = bytes) (hzs : z.cells.size = size) (hsz : 0 < size)
    (v : Value) (n : Nat) (xs : List Value) (hs : a.eval s = v) (hown : w.ownsRow base e size v n xs)
    (ad : Addr) (m c : Nat) (news : List Value) (hx : a.eval x = .slice (some ad) m c) (hl : news.length = m * size) (hnews : ∀ j u, news[j]? = some u → w.cell? (ad.add j) = some u) (h1 : ∀ u ∈ news, u.oneCell' = true)
    (h63 : n + m ≤ maxLen) (hbytes : (n + m) * bytes ≤ 140737488355328) (hbase : base ≤ w.heap.size)
    (h : ∀ v' w', w'.ownsRow base e size v' (n + m) (xs ++ news) → w.grownBy w' v.ownBlock → (v'.ownBlock = v.ownBlock ∨ v'.ownBlock = some w.heap.size) → wpList P ops Q rest (a.put o.dst v') w') : wpList P ops Q (o :: rest) a w := by
  refine wpList_plain hgd fun K hK => ?_
  obtain ⟨v', w', hr, h2, h3, _, h5⟩ := run_append_own_at (P := P) w base t o.type e i z size bytes ht hi hz hsize hby hzs hsz v n xs hown ad m c news hl hnews h1 h63 hbytes hbase
  unfold Oper.wp execOp
  simp only [ho, resolve, invoke, builtin, Sem.run_bind, Sem.run_pure, Result.andThen_ok, List.map_toArray, List.map_cons, List.map_nil, hs, hx, hr]
  exact hK _ _ (h v' w' h2 h3 h5)
/-- Tokens that are put one behind the other, and the slice of them in a block. -/
structure IsOut (w : World) (B b : Nat) (outv : Value) (l : List (Tok × Value)) : Prop where
  blk : w.heap[b]? = some (.cells #[outv] 26 (0, 0))
  row : w.ownsRow B 117 4 outv l.length (outCells l)
  attrs : ∀ p ∈ l, HasAttrs w B p
  hb : B ≤ b
def tO (b : Nat) (outv : Value) : List Nat := b :: outv.ownBlock.toList
theorem IsOut.lt {w : World} {B b : Nat} {outv : Value} {l : List (Tok × Value)} (h : IsOut w B b outv l) : b < w.heap.size := lt_of_block h.blk
theorem IsOut.ge {w : World} {B b : Nat} {outv : Value} {l : List (Tok × Value)} (h : IsOut w B b outv l) : ∀ g, g ∈ tO b outv → B ≤ g ∧ g < w.heap.size := by
  intro g hg
  simp [tO] at hg
  rcases hg with rfl | hg
  · exact ⟨h.hb, h.lt⟩
  · exact h.row.lt g hg
theorem IsOut.keepsNil {w w' : World} {B b : Nat} {outv : Value} {l : List (Tok × Value)} (h : IsOut w B b outv l) (hk : Keeps [] w w') : IsOut w' B b outv l :=
  ⟨by rw [hk.block b h.lt List.not_mem_nil]; exact h.blk, hk.owns h.row (fun _ _ => List.not_mem_nil), fun p hp => hk.owns (h.attrs p hp) (fun _ _ => List.not_mem_nil), h.hb⟩
end Go.Proofs.YtlcljanibjdejaaGreat
namespace Go.Proofs.YtlcljanibjdejaaGreat
open Go.RowKit Go.Maps
/-- The tokens of nodes. -/
def flatL : List Nd → List Tok
  | [] => []
  | .mk n a t k :: r => (if n.isEmpty = true then [⟨1, [], [], t⟩] else ⟨2, n, a, []⟩ :: (flatL k ++ if emptyN n = true then [] else [⟨3, n, [], []⟩])) ++ flatL r
/-- Attributes of all nodes are few. -/
def FewNs : List Nd → Prop
  | [] => True
  | .mk _ a _ k :: r => a.length ≤ 2000000 ∧ FewNs k ∧ FewNs r
end Go.Proofs.YtlcljanibjdejaaGreat
namespace Go.Proofs.YtlcljanibjdejaaGreat
open Go.RowKit Go.Maps
theorem HasMax.pos {w : World} (h : HasMax w) : 0 < w.heap.size := by
  unfold HasMax World.cell? at h
  rcases Nat.eq_zero_or_pos w.heap.size with h0 | h0
  · rw [Array.getElem?_eq_none (by simp [h0])] at h
    simp at h
  · exact h0
end Go.Proofs.YtlcljanibjdejaaGreat
namespace Go.Proofs.YtlcljanibjdejaaGreat
open Go.RowKit
/-- Is the last one a text? -/
def endsText (l : List Nd) : Bool := l.getLast?.map Nd.name == some []
theorem endsText_snoc (l : List Nd) (n : Nd) : endsText (l ++ [n]) = (n.name == []) := by simp [endsText]
theorem getElem_mid {α : Type} (pre : List α) (n : α) (r : List α) : (pre ++ n :: r)[pre.length]? = some n := by simp
theorem prev_mid (pre : List Nd) (r : List Nd) : prevText (pre ++ r) pre.length = endsText pre := by
  unfold prevText endsText
  rcases List.eq_nil_or_concat pre with rfl | ⟨l, m, rfl⟩
  · rfl
  · simp [List.concat_eq_append]
/-- None is too deep. -/
def Dp : Nat → List Nd → Prop
  | _, [] => True
  | d, .mk n _ _ k :: r => (n = [] ∨ d < 8) ∧ Dp (d + 1) k ∧ Dp d r
theorem Dp_nil (d : Nat) : Dp d [] := by rw [Dp]; trivial
theorem fitsF_walk : ∀ (r pre : List Nd) (ar : List Nd) (c : Nat), c ≤ 3000 → ((walkL fitsF (pre ++ r) r pre.length ar c) = (((c + sizeNs r : Nat) : Int), true) ∧ c + sizeNs r ≤ 3000 ∧ Dp ar.length r) ∨ ((walkL fitsF (pre ++ r) r pre.length ar c).2 = false ∧ ¬ (c + sizeNs r ≤ 3000 ∧ Dp ar.length r))
  | [], pre, ar, c, h => .inl ⟨by rw [walkL]; simp [sizeNs], by simpa [sizeNs] using h, Dp_nil _⟩
  | .mk n a t k :: r, pre, ar, c, h => by
    rw [walkL]
    have hR : Dp ar.length (.mk n a t k :: r) ↔ (n = [] ∨ ar.length < 8) ∧ Dp (ar.length + 1) k ∧ Dp ar.length r := by rw [Dp]
    have hS : sizeNs (.mk n a t k :: r) = 1 + sizeNs k + sizeNs r := by rw [sizeNs]
    rw [hR, hS]
    clear hR hS
    have hw : wrap64 ((c : Int) + 1) = ((c + 1 : Nat) : Int) := by unfold wrap64; omega
    have hf : fitsF c (pre ++ .mk n a t k :: r) pre.length ar = (((c + 1 : Nat) : Int), decide (((c + 1 : Nat) : Int) ≤ 3000) && ((n == []) || decide (ar.length < 8))) := by
      unfold fitsF
      rw [hw, getElem_mid]
      rfl
    rw [hf]
    by_cases h1 : c + 1 ≤ 3000
    · rw [show decide (((c + 1 : Nat) : Int) ≤ 3000) = true from decide_eq_true (by omega)]
      by_cases h2 : n = [] ∨ ar.length < 8
      · have hb : (true && ((n == []) || decide (ar.length < 8))) = true := by
          rcases h2 with rfl | h2
          · rfl
          · simp [h2]
        rw [hb]
        simp only [if_true]
        have ihk := fitsF_walk k [] (ar ++ [.mk n a t k]) (c + 1) h1
        simp only [List.nil_append, List.length_nil, List.length_append, List.length_singleton] at ihk
        rcases ihk with ⟨k1, k2, k3⟩ | ⟨k1, k2⟩
        · rw [k1]
          simp only [if_true]
          have ihr := fitsF_walk r (pre ++ [.mk n a t k]) ar (c + 1 + sizeNs k) k2
          simp only [List.append_assoc, List.singleton_append, List.length_append, List.length_singleton] at ihr
          rcases ihr with ⟨r1, r2, r3⟩ | ⟨r1, r2⟩
          · exact .inl ⟨by rw [r1, show c + 1 + sizeNs k + sizeNs r = c + (1 + sizeNs k + sizeNs r) from by omega], by omega, h2, k3, r3⟩
          · exact .inr ⟨r1, fun h => r2 ⟨by omega, h.2.2.2⟩⟩
        · rw [if_neg (by rw [k1]; simp)]
          exact .inr ⟨rfl, fun h => k2 ⟨by omega, h.2.2.1⟩⟩
      · have hb : (true && ((n == []) || decide (ar.length < 8))) = false := by
          rw [not_or] at h2
          simp [h2.1]
          omega
        rw [hb]
        exact .inr ⟨rfl, fun h => h2 h.2.1⟩
    · rw [show decide (((c + 1 : Nat) : Int) ≤ 3000) = false from decide_eq_false (by omega)]
      exact .inr ⟨rfl, fun h => by omega⟩
def St.size (s : St) : Nat := (s.all.map fun o => sizeNs o.kids).sum + s.up.length + if s.text = [] then 0 else 1
end Go.Proofs.YtlcljanibjdejaaGreat
namespace Go.Proofs.YtlcljanibjdejaaGreat
def Lst.said (s : Lst) : List UInt8 := textNs false s.all ++ s.text
/-- How many nodes were put. -/
def Lst.size (s : Lst) : Nat := sizeNs s.all + if s.text.isEmpty = true then 0 else 1
end Go.Proofs.YtlcljanibjdejaaGreat
namespace Go.Proofs.YtlcljanibjdejaaGreat
open Go.RowKit Go.Maps
theorem pair_set01 {w : World} {b : Nat} {x y : Value} {t : TypeId} (h : w.heap[b]? = some (.cells #[x, y] t (0, 0))) (u v : Value) : ((w.setCell ⟨b, 0, none⟩ u).setCell ⟨b, 1, none⟩ v).heap[b]? = some (.cells #[u, v] t (0, 0)) := by
  simp [World.setCell, Array.getElem?_modify, h]
end Go.Proofs.YtlcljanibjdejaaGreat
namespace Go.Proofs.YtlcljanibjdejaaGreat
open Go.RowKit Go.Maps
/-- What a list may still change. -/
def touchL (r : Nat) (allv textv : Value) : List Nat := r :: (textv.ownBlock.toList ++ allv.ownBlock.toList)
structure Ls (w : World) (B r : Nat) (allv textv : Value) (l : List Pn) (text : List UInt8) : Prop where
  blk : w.heap[r]? = some (.cells #[allv, textv] 199 (0, 0))
  all : w.ownsRow B 45 4 allv l.length (pnsCells l)
  txt : w.ownsRow B 5 1 textv text.length (Lib.byteCells text)
  done : ∀ q ∈ l, LiesP w (DoneB B (touchL r allv textv)) q.av q.nd.attrs.length 2 (pairCells q.nd.attrs) ∧ Ns w (DoneB B (touchL r allv textv)) q.kv q.nd.kids
  hr : B ≤ r
  pos : 0 < B
section
variable {w w' : World} {B r : Nat} {allv textv : Value} {l : List Pn} {text : List UInt8}
theorem mem_touchL {g : Nat} : g ∈ touchL r allv textv ↔ g = r ∨ textv.ownBlock = some g ∨ allv.ownBlock = some g := by simp [touchL]
theorem Ls.lt (h : Ls w B r allv textv l text) : r < w.heap.size := lt_of_block h.blk
theorem Ls.cell0 (h : Ls w B r allv textv l text) : w.cell? ⟨r, 0, none⟩ = some allv := cell_blk h.blk 0
theorem Ls.cell1 (h : Ls w B r allv textv l text) : w.cell? ⟨r, 1, none⟩ = some textv := cell_blk h.blk 1
theorem Ls.free (h : Ls w B r allv textv l text) (j : Nat) : w.frozen? ⟨r, j, none⟩ = false := free_blk h.blk j
theorem Ls.keepsNil (h : Ls w B r allv textv l text) (hk : Keeps [] w w') : Ls w' B r allv textv l text :=
  ⟨by rw [hk.block r h.lt List.not_mem_nil]; exact h.blk, hk.owns h.all (fun _ _ => List.not_mem_nil), hk.owns h.txt (fun _ _ => List.not_mem_nil), fun q hq => ⟨(h.done q hq).1.keeps hk (fun _ _ => List.not_mem_nil), (h.done q hq).2.keeps hk (fun _ _ => List.not_mem_nil)⟩, h.hr, h.pos⟩
theorem Ls.ge (h : Ls w B r allv textv l text) : ∀ g, g ∈ touchL r allv textv → B ≤ g ∧ g < w.heap.size := fun g hg => by
  rcases mem_touchL.1 hg with rfl | hg | hg
  · exact ⟨h.hr, h.lt⟩
  · exact h.txt.lt g hg
  · exact h.all.lt g hg
/-- The text is another. -/
theorem Ls.setText (h : Ls w B r allv textv l text) (hk : Keeps textv.ownBlock.toList w w') {tv : Value} {tx : List UInt8} (ho : w'.ownsRow B 5 1 tv tx.length (Lib.byteCells tx)) (hw : tv.ownBlock = textv.ownBlock ∨ ∃ n, tv.ownBlock = some n ∧ w.heap.size ≤ n) :
    Ls (w'.setCell ⟨r, 1, none⟩ tv) B r allv tv l tx ∧ Stp w (touchL r allv textv) (w'.setCell ⟨r, 1, none⟩ tv) (touchL r allv tv) := by
  have hrt : r ∉ textv.ownBlock.toList := fun hm => block_ne h.txt h.blk (by decide) (by simpa using hm)
  have hks : Keeps [r] w' (w'.setCell ⟨r, 1, none⟩ tv) := (Keeps.refl [r] w').setCell (.inl (by simp)) _
  have hblk' : w'.heap[r]? = some (.cells #[allv, textv] 199 (0, 0)) := by rw [hk.block r h.lt hrt]; exact h.blk
  have hkk : Keeps (r :: textv.ownBlock.toList) w (w'.setCell ⟨r, 1, none⟩ tv) := (hk.to (by simp; exact fun _ h => .inr h)).trans (hks.to (by simp))
  have hS : ∀ g, g ∈ r :: textv.ownBlock.toList → g ∈ touchL r allv textv := by
    intro g hg
    rw [mem_touchL]
    simp at hg
    rcases hg with hg | hg
    · exact .inl hg
    · exact .inr (.inl hg)
  have hT : ∀ g, g < w.heap.size → g ∈ touchL r allv tv → g ∈ touchL r allv textv := by
    intro g hg hm
    rw [mem_touchL] at hm ⊢
    rcases hm with hm | hm | hm
    · exact .inl hm
    · rcases hw with hw | ⟨n, hw, hn⟩
      · exact .inr (.inl (hw ▸ hm))
      · rw [hw] at hm; simp at hm; omega
    · exact .inr (.inr hm)
  refine ⟨⟨?_, ?_, hks.owns ho (fun g hg hm => by simp at hm; subst hm; exact block_ne ho hblk' (by decide) hg), fun q hq => ⟨(h.done q hq).1.move hkk hS hT, (h.done q hq).2.move hkk hS hT⟩, h.hr, h.pos⟩, hkk.to hS, fun g hm hg => hT g hg hm⟩
  · simp [World.setCell, Array.getElem?_modify, hblk']
  · refine hkk.owns h.all (fun g hg hm => ?_)
    simp at hm
    rcases hm with hm | hm
    · subst hm; exact block_ne h.all h.blk (by decide) hg
    · exact rows_apart h.all h.txt (by decide) hg hm
/-- One node more, behind the others. -/
theorem Ls.push {q : Pn} (h : Ls w B r allv textv l text) (hk : Keeps allv.ownBlock.toList w w') {av : Value} (ho : w'.ownsRow B 45 4 av (l.length + 1) (pnsCells l ++ pnCells q)) (hw : av.ownBlock = allv.ownBlock ∨ ∃ n, av.ownBlock = some n ∧ w.heap.size ≤ n)
    (hqa : LiesP w (DoneB B (touchL r allv textv)) q.av q.nd.attrs.length 2 (pairCells q.nd.attrs)) (hqk : Ns w (DoneB B (touchL r allv textv)) q.kv q.nd.kids) :
    Ls (w'.setCell ⟨r, 0, none⟩ av) B r av textv (l ++ [q]) text ∧ Stp w (touchL r allv textv) (w'.setCell ⟨r, 0, none⟩ av) (touchL r av textv) := by
  have hro : r ∉ allv.ownBlock.toList := fun hm => block_ne h.all h.blk (by decide) (by simpa using hm)
  have hks : Keeps [r] w' (w'.setCell ⟨r, 0, none⟩ av) := (Keeps.refl [r] w').setCell (.inl (by simp)) _
  have hblk' : w'.heap[r]? = some (.cells #[allv, textv] 199 (0, 0)) := by rw [hk.block r h.lt hro]; exact h.blk
  have hkk : Keeps (r :: allv.ownBlock.toList) w (w'.setCell ⟨r, 0, none⟩ av) := (hk.to (by simp; exact fun _ h => .inr h)).trans (hks.to (by simp))
  have hS : ∀ g, g ∈ r :: allv.ownBlock.toList → g ∈ touchL r allv textv := by
    intro g hg
    rw [mem_touchL]
    simp at hg
    rcases hg with hg | hg
    · exact .inl hg
    · exact .inr (.inr hg)
  have hT : ∀ g, g < w.heap.size → g ∈ touchL r av textv → g ∈ touchL r allv textv := by
    intro g hg hm
    rw [mem_touchL] at hm ⊢
    rcases hm with hm | hm | hm
    · exact .inl hm
    · exact .inr (.inl hm)
    · rcases hw with hw | ⟨n, hw, hn⟩
      · exact .inr (.inr (hw ▸ hm))
      · rw [hw] at hm; simp at hm; omega
  have ec : pnsCells (l ++ [q]) = pnsCells l ++ pnCells q := by simp [pnsCells]
  refine ⟨⟨?_, ?_, ?_, fun p hp => ?_, h.hr, h.pos⟩, hkk.to hS, fun g hm hg => hT g hg hm⟩
  · simp [World.setCell, Array.getElem?_modify, hblk']
  · rw [ec, List.length_append, List.length_singleton]
    exact hks.owns ho (fun g hg hm => by simp at hm; subst hm; exact block_ne ho hblk' (by decide) hg)
  · refine hkk.owns h.txt (fun g hg hm => ?_)
    simp at hm
    rcases hm with hm | hm
    · subst hm; exact block_ne h.txt h.blk (by decide) hg
    · exact rows_apart h.txt h.all (by decide) hg hm
  · rcases List.mem_append.1 hp with hp | hp
    · exact ⟨(h.done p hp).1.move hkk hS hT, (h.done p hp).2.move hkk hS hT⟩
    · simp at hp
      subst hp
      exact ⟨hqa.move hkk hS hT, hqk.move hkk hS hT⟩
end
/-- A list whose state is s, and what it may still change. -/
def LsT (w : World) (B r : Nat) (s : Lst) (T : List Nat) : Prop := ∃ allv textv l, T = touchL r allv textv ∧ l.map Pn.nd = s.all ∧ Ls w B r allv textv l s.text
theorem LsT.keepsNil {w w' : World} {B r : Nat} {s : Lst} {T : List Nat} (h : LsT w B r s T) (hk : Keeps [] w w') : LsT w' B r s T := by
  obtain ⟨a, t, l, e1, e2, h⟩ := h
  exact ⟨a, t, l, e1, e2, h.keepsNil hk⟩
theorem LsT.ge {w : World} {B r : Nat} {s : Lst} {T : List Nat} (h : LsT w B r s T) : (∀ g, g ∈ T → B ≤ g ∧ g < w.heap.size) ∧ B ≤ w.heap.size := by
  obtain ⟨a, t, l, rfl, e2, h⟩ := h
  exact ⟨h.ge, Nat.le_trans h.hr (Nat.le_of_lt h.lt)⟩
set_option maxRecDepth 4000 in
set_option maxHeartbeats 4000000 in
theorem endTextL_any (B r : Nat) (s : Lst) (T : List Nat) (w : World) (h : LsT w B r s T) (hw : s.weight ≤ 4000000) :
    Calls Tryz.prog 250 #[.pointer (some ⟨r, 0, none⟩)] w fun e w' => e = .returned (.tuple #[]) ∧ ∃ T', LsT w' B r ⟨s.done, []⟩ T' ∧ Stp w T w' T' := by
  obtain ⟨allv, textv, l, rfl, e2, h⟩ := h
  obtain ⟨all, text⟩ := s
  simp only at e2 h
  have hll : l.length = all.length := by rw [← e2, List.length_map]
  simp only [Lst.weight] at hw
  rw [← hll] at hw
  have E2 := hide e2
  clear hll e2
  unfold Lst.done
  simp only
  have c1 := h.cell1
  by_cases hne : text = []
  · subst hne
    rw [if_pos (show ([] : List UInt8).isEmpty = true from rfl)]
    obtain ⟨o, c, ho⟩ := row_form h.txt
    subst ho
    go_enter Tryz.func250, Tryz.ntmps250
    go_wp2_with fail
    go_end0
    exact ⟨rfl, _, ⟨_, _, l, rfl, E2.out, h⟩, Stp.refl _ _⟩
  · rw [if_neg (by simpa using hne)]
    obtain ⟨g, cap, cur', hrv, hgb, hgc, hcap1, hcap2, hcur1, hcur2⟩ : ∃ g cap cur, textv = .slice (some ⟨g, 0, none⟩) text.length cap ∧ B ≤ g ∧ w.heap[g]? = some (.cells cur 5 (0, 0)) ∧ text.length ≤ cap ∧ cap ≤ maxLen ∧ cur.size = cap * 1 ∧ cur.toList.take (text.length * 1) = Lib.byteCells text := by
      rcases h.txt.2 with ⟨_, h0⟩ | h'
      · exact absurd (List.eq_nil_of_length_eq_zero h0) hne
      · exact h'
    subst hrv
    have hpos : 0 < text.length := List.length_pos_iff.2 hne
    obtain ⟨i0, hi, hz0, hz1, hz2⟩ := info_parts info79
    obtain ⟨ao, ac, hav⟩ := row_form h.all
    subst hav
    have c0 := h.cell0
    have hcv : ∀ W, Keeps [] w W → (convert 107 9 (.slice (some ⟨g, 0, none⟩) text.length cap)).run Tryz.prog W = .ok (.string ⟨text.toArray⟩) W := fun W hk => own_string (w := W) (hk.owns h.txt (fun _ _ => List.not_mem_nil)) 0
    have hcv1 := hcv w.drew ((Keeps.refl [] w).drew)
    have hcv2 := fun o => hcv (w.alloc o).drew (((Keeps.refl [] w).alloc o).drew)
    have c0a : ∀ o, (w.alloc o).cell? ⟨r, 0, none⟩ = some (.slice ao l.length ac) := fun o => (cell_past (a := ⟨r, 0, none⟩) h.lt o).trans c0
    have c1a : ∀ o, (w.alloc o).cell? ⟨r, 1, none⟩ = some (.slice (some ⟨g, 0, none⟩) text.length cap) := fun o => (cell_past (a := ⟨r, 1, none⟩) h.lt o).trans c1
    have hBw : B ≤ w.heap.size := Nat.le_trans h.hr (Nat.le_of_lt h.lt)
    have hrA : r ∉ (Value.slice ao l.length ac).ownBlock.toList := fun hm => block_ne h.all h.blk (by decide) (by simpa using hm)
    have hlt1 : (l.length : Int) < l.length + 1 := by omega
    clear hcur1 hcur2 hgc
    unfold maxLen at hcap2
    go_enter Tryz.func250, Tryz.ntmps250
    go_upto_region 1 with fail
    go_cut [] from 8 to 24 (fun wc => ∃ av', Ls wc B r av' (.slice (some ⟨g, 0, none⟩) text.length cap) (l ++ [⟨textN text, .slice none 0 0, .slice none 0 0⟩]) text ∧ Stp w (touchL r (.slice ao l.length ac) (.slice (some ⟨g, 0, none⟩) text.length cap)) wc (touchL r av' (.slice (some ⟨g, 0, none⟩) text.length cap)))
    case first =>
      go_region_law (refine step_own_at rfl _ _ 29 rfl B 45 i0 _ 4 80 Tryz.underlying29 hi hz0 hz1 hz2 (by kernel_rfl) (by decide) (.slice ao l.length ac) l.length (pnsCells l) rfl ((h.all.alloc _).drew) ⟨w.heap.size, 0, none⟩ 1 1 zeroNd rfl rfl (lit_cells w _ 45) (by intro u hu; simp [zeroNd] at hu; rcases hu with rfl | rfl | rfl | rfl <;> rfl) (by unfold maxLen; omega) (by omega) (Nat.le_trans hBw (by simp)) ?_; intro v3 w3 ho3 hg3 hw3; obtain ⟨g3, c3, hv3, hc31, hc32, hB3, hl3, hcl3, hfr3⟩ := grow_form ho3 (pnsCells_len l); subst hv3; unfold maxLen at hc32; have n0 : w3.cell? ⟨g3, l.length * 4, none⟩ = some (.string ⟨#[]⟩) := hcl3 0 (by decide); have n1 : w3.cell? ⟨g3, l.length * 4 + 1, none⟩ = some (.slice none 0 0) := hcl3 1 (by decide); have n2 : w3.cell? ⟨g3, l.length * 4 + 2, none⟩ = some (.string ⟨#[]⟩) := hcl3 2 (by decide); have n3 : w3.cell? ⟨g3, l.length * 4 + 3, none⟩ = some (.slice none 0 0) := hcl3 3 (by decide); clear hcl3; have hk3 : Keeps (Value.slice ao l.length ac).ownBlock.toList w w3 := (((Keeps.refl _ w).alloc _).drew).grown hg3 (fun i e => .inl (by simp [e])); have z0 := hfr3 (l.length * 4); have z1 := hfr3 (l.length * 4 + 1); have z2 := hfr3 (l.length * 4 + 2); have z3 := hfr3 (l.length * 4 + 3); have d3 := cell_keepsS hk3 (a := ⟨r, 0, none⟩) hrA c0; have d4 := cell_keepsS hk3 (a := ⟨r, 1, none⟩) hrA c1; have hb3 := (hk3.block r h.lt hrA).trans h.blk; have e3 : w3.frozen? ⟨r, 0, none⟩ = false := free_blk hb3 0; have hne3 : g3 ≠ r := put_ne hrA hw3 h.lt)
      all_goals go_wp2
      all_goals go_meet
      all_goals have hw1 : w.heap.size ≤ ((w.alloc (.cells #[.string ⟨#[]⟩, .slice none 0 0, .string ⟨#[]⟩, .slice none 0 0] 45)).drew).heap.size := by simp
      all_goals have hfin := h.push (q := ⟨textN text, .slice none 0 0, .slice none 0 0⟩) (keeps4 hk3 (own_or hw3 hw1) (.string ⟨#[]⟩) (.slice none 0 0) (.string ⟨text.toArray⟩) (.slice none 0 0)) (stored4 ho3 (pnsCells_len l) _ _ _ _) (own_or2 hw3 hw1) ⟨rfl, .inl ⟨rfl, none, 0, rfl, by simp [maxLen]⟩⟩ (Ns.nil _ _ none 0 (by simp [maxLen]))
      all_goals try rw [setCell_comm w3 (a := ⟨r, 0, none⟩) (b := ⟨g3, l.length * 4, none⟩) hne3.symm, setCell_comm _ (a := ⟨r, 0, none⟩) (b := ⟨g3, l.length * 4 + 1, none⟩) hne3.symm, setCell_comm _ (a := ⟨r, 0, none⟩) (b := ⟨g3, l.length * 4 + 2, none⟩) hne3.symm, setCell_comm _ (a := ⟨r, 0, none⟩) (b := ⟨g3, l.length * 4 + 3, none⟩) hne3.symm]
      all_goals exact ⟨_, hfin.1, hfin.2⟩
    case rest =>
      obtain ⟨av', h', hs'⟩ := hcut
      have e1 := h'.cell1
      have f1 := h'.free 1
      clear c0 c1 c0a c1a hcv1 hcv2 hcv
      go_wp2_with fail
      go_end0
      have hst := h'.setText (Keeps.refl _ _) (tx := []) (row_zero h'.txt) (.inl rfl)
      exact ⟨rfl, _, ⟨_, _, _, rfl, by simp [E2.out, textN], hst.1⟩, hs'.trans hst.2⟩
end Go.Proofs.YtlcljanibjdejaaGreat
namespace Go.Proofs.YtlcljanibjdejaaGreat
open Go.RowKit Go.Maps
/-- Four cells of a node. -/
def IsNd (w : World) (g : Nat) (n : List UInt8) (av : Value) (t : List UInt8) (kv : Value) : Prop :=
  w.cell? ⟨g, 0, none⟩ = some (.string ⟨n.toArray⟩) ∧ w.cell? ⟨g, 1, none⟩ = some av ∧ w.cell? ⟨g, 2, none⟩ = some (.string ⟨t.toArray⟩) ∧ w.cell? ⟨g, 3, none⟩ = some kv
theorem IsNd.keeps {w w' : World} {S : List Nat} {g : Nat} {n t : List UInt8} {av kv : Value} (h : IsNd w g n av t kv) (hk : Keeps S w w') (hg : g ∉ S) : IsNd w' g n av t kv :=
  ⟨cell_keepsS hk hg h.1, cell_keepsS hk hg h.2.1, cell_keepsS hk hg h.2.2.1, cell_keepsS hk hg h.2.2.2⟩
theorem IsNd.of {w : World} {g : Nat} {n t : List UInt8} {av kv : Value} {ty : TypeId} (h : w.heap[g]? = some (.cells #[.string ⟨n.toArray⟩, av, .string ⟨t.toArray⟩, kv] ty (0, 0))) : IsNd w g n av t kv :=
  ⟨cell_blk h 0, cell_blk h 1, cell_blk h 2, cell_blk h 3⟩
theorem DoneB.fresh {B : Nat} {T : List Nat} {g s : Nat} (hB : B ≤ s) (hT : ∀ g, g ∈ T → g < s) (hg : s ≤ g) : DoneB B T g := ⟨by omega, fun h => by have := hT g h; omega⟩
set_option maxRecDepth 4000 in
set_option maxHeartbeats 8000000 in
theorem putL_any (B r : Nat) (s : Lst) (T : List Nat) (w : World) (h : LsT w B r s T) (nm tx : List UInt8) (at' : List Pair) (ks : List Nd) (hw : s.weight + tx.length ≤ 4000000) (oa ok : Option Addr) (na ca nk ck : Nat) (g : Nat) (hN : IsNd w g nm (.slice oa na ca) tx (.slice ok nk ck))
    (hq : nm ≠ [] → LiesP w (DoneB B T) (.slice oa na ca) at'.length 2 (pairCells at') ∧ Ns w (DoneB B T) (.slice ok nk ck) ks) :
    Calls Tryz.prog 246 #[.pointer (some ⟨r, 0, none⟩), .slice (some ⟨g, 0, none⟩) 1 1] w fun e w' => e = .returned (.tuple #[]) ∧ ∃ T', LsT w' B r (s.put (.mk nm at' tx ks)) T' ∧ Stp w T w' T' := by
  obtain ⟨R, hR⟩ : ∃ R, s.put (.mk nm at' tx ks) = R := ⟨_, rfl⟩
  rw [hR]
  obtain ⟨n0, n1, n2, n3⟩ := id hN
  have HR := hide hR
  have Hh := hide h
  have Hw := hide hw
  have HN := hide hN
  have HQ := hide hq
  clear hR h hw hN hq
  go_enter Tryz.func246, Tryz.ntmps246
  go_wp2_with fail
  go_loopw [8] (fun i wr => (i = .int .i64 0 ∧ wr = w) ∨ (i = .int .i64 1 ∧ Hid (∃ T', LsT wr B r R T' ∧ Stp w T wr T'))) (fun i _ => 1 - (intOf i).toNat)
  case atStart => exact .inl ⟨rfl, rfl⟩
  case round =>
    rcases hrel with ⟨rfl, h9⟩ | ⟨rfl, hres⟩
    · obtain rfl : w = wr := h9.symm
      have hbx : (w.alloc (.cells #[.string ⟨nm.toArray⟩, .slice oa na ca, .string ⟨tx.toArray⟩, .slice ok nk ck] 45)).heap[w.heap.size]? = some (.cells #[.string ⟨nm.toArray⟩, .slice oa na ca, .string ⟨tx.toArray⟩, .slice ok nk ck] 45 (0, 0)) := heap_alloc_new w _
      have hka : Keeps [] w (w.alloc (.cells #[.string ⟨nm.toArray⟩, .slice oa na ca, .string ⟨tx.toArray⟩, .slice ok nk ck] 45)) := (Keeps.refl [] w).alloc _
      have HBX := hide hbx
      have HKA := hide hka
      clear hbx hka
      have hw0 := Hw.out
      simp only [Lst.weight] at hw0
      by_cases he : nm = []
      · have q0 : nm.isEmpty = true := by simpa using he
        have hRt : R = ⟨s.all, s.text ++ tx⟩ := by rw [← HR.out]; unfold Lst.put; rw [if_pos (show (Nd.mk nm at' tx ks).name.isEmpty = true from by simp [Nd.name, he])]; rfl
        subst hRt
        clear he
        obtain ⟨allv, textv, l, hTT, e2, hL⟩ := (Hh.out).keepsNil HKA.out
        have hge := ((Hh.out).keepsNil HKA.out).ge
        have HT := hide hTT
        have E2 := hide e2
        have hBW := hge.2
        have hrl := hL.lt
        have q1 := hL.cell1
        obtain ⟨t0, tc, htv⟩ := row_form hL.txt
        subst htv
        obtain ⟨i0, hi, hz0, hz1, hz2⟩ := info_parts info5b
        have b3 : (w.alloc (.cells #[.string ⟨nm.toArray⟩, .slice oa na ca, .string ⟨tx.toArray⟩, .slice ok nk ck] 45)).cell? ⟨w.heap.size, 2, none⟩ = some (.string ⟨tx.toArray⟩) := cell_blk HBX.out 2
        have hrt : r ∉ (Value.slice t0 s.text.length tc).ownBlock.toList := fun hm => block_ne hL.txt hL.blk (by decide) (by simpa using hm)
        have htsz : (⟨tx.toArray⟩ : ByteArray).size = tx.length := str_size tx
        clear hTT e2 hge
        go_upto_region 4 with fail
        obtain ⟨W, hWW⟩ : ∃ W, w.alloc (.cells #[.string ⟨nm.toArray⟩, .slice oa na ca, .string ⟨tx.toArray⟩, .slice ok nk ck] 45) = W := ⟨_, rfl⟩
        rw [hWW] at hL q1 b3 hBW hrl HKA ⊢
        clear hWW HBX
        go_region_law (refine step_str_at rfl _ _ 107 9 rfl B 5 i0 Tryz.underlying107 Tryz.underlying9 hi hz0 hz1 hz2 (.slice t0 s.text.length tc) s.text.length (Lib.byteCells s.text) rfl hL.txt.drew ⟨tx.toArray⟩ rfl (by rw [str_size]; unfold maxLen; omega) (by rw [str_size]; omega) hBW ?_; intro v3 w3 ho3 hg3 hw3; obtain ⟨o3, c3, hv3⟩ := row_form ho3; subst hv3; have hk3 : Keeps (Value.slice t0 s.text.length tc).ownBlock.toList W w3 := ((Keeps.refl _ W).drew).grown hg3 (fun i e => .inl (by simp [e])); have d1 := cell_keepsS hk3 (a := ⟨r, 1, none⟩) hrt q1; have d2 : w3.frozen? ⟨r, 1, none⟩ = false := free_blk ((hk3.block r hrl hrt).trans hL.blk) 1)
        all_goals go_wp2_with fail
        all_goals have ho4 : w3.ownsRow B 5 1 (.slice o3 (s.text.length + tx.length) c3) (s.text ++ tx).length (Lib.byteCells (s.text ++ tx))  := (by have h9 := ho3; rw [byteCells_str] at h9; rw [List.length_append]; exact h9)
        all_goals have hst := hL.setText hk3 ho4 hw3
        all_goals refine ⟨.inr ⟨by go_num, ⟨_, ⟨allv, _, l, rfl, E2.out, hst.1⟩, HT.out ▸ (Stp.nil HKA.out _).trans hst.2⟩⟩, ?_⟩
        all_goals (simp [intOf])
      · have q0 : nm.isEmpty = false := by simpa using he
        have hRt : R = ⟨s.done ++ [.mk nm at' tx ks], []⟩ := by rw [← HR.out]; unfold Lst.put; rw [if_neg (show ¬ (Nd.mk nm at' tx ks).name.isEmpty = true from by simpa [Nd.name] using he)]
        subst hRt
        have hqq := HQ.out he
        have HQ1 := hide (hqq.1.keeps HKA.out (fun _ _ => List.not_mem_nil))
        have HQ2 := hide (hqq.2.keeps HKA.out (fun _ _ => List.not_mem_nil))
        clear hqq HQ he
        have het := hide (endTextL_any B r s T _ ((Hh.out).keepsNil HKA.out) (by have := Hw.out; omega))
        have hgT := (Hh.out).ge
        have HGT := hide hgT
        clear hgT
        go_wp2_with fail
        obtain ⟨W0, hWW⟩ : ∃ W, w.alloc (.cells #[.string ⟨nm.toArray⟩, .slice oa na ca, .string ⟨tx.toArray⟩, .slice ok nk ck] 45) = W := ⟨_, rfl⟩
        rw [hWW] at HKA HBX HQ1 HQ2 het ⊢
        refine het.out.mono ?_
        rintro e W ⟨rfl, T1, ⟨allv, textv, l, rfl, e2, hL⟩, hS1⟩
        have E2 := hide e2
        have HS1 := hide hS1
        have hxT : w.heap.size ∉ T := fun hm => by have := (HGT.out.1 _ hm).2; omega
        have hb1 : W.heap[w.heap.size]? = some (.cells #[.string ⟨nm.toArray⟩, .slice oa na ca, .string ⟨tx.toArray⟩, .slice ok nk ck] 45 (0, 0)) := (hS1.1.block _ (lt_of_block HBX.out) hxT).trans HBX.out
        have hbl := lt_of_block hb1
        have hll : l.length ≤ 4000000 := by
          have h8 : l.length = s.done.length := by rw [← List.length_map (f := Pn.nd), e2]
          have := s.done_len
          have := Hw.out
          omega
        clear e2 hS1 het q0
        have hBW : B ≤ W.heap.size := Nat.le_trans hL.hr (Nat.le_of_lt hL.lt)
        obtain ⟨ao, ac, hav⟩ := row_form hL.all
        subst hav
        have c0 := hL.cell0
        have c0a : ∀ o, (W.alloc o).cell? ⟨r, 0, none⟩ = some (.slice ao l.length ac) := fun o => (cell_past (a := ⟨r, 0, none⟩) hL.lt o).trans c0
        have hrA : r ∉ (Value.slice ao l.length ac).ownBlock.toList := fun hm => block_ne hL.all hL.blk (by decide) (by simpa using hm)
        have b0 : W.cell? ⟨w.heap.size, 0, none⟩ = some (.string ⟨nm.toArray⟩) := cell_blk hb1 0
        have b1 : W.cell? ⟨w.heap.size, 1, none⟩ = some (.slice oa na ca) := cell_blk hb1 1
        have b2 : W.cell? ⟨w.heap.size, 2, none⟩ = some (.string ⟨tx.toArray⟩) := cell_blk hb1 2
        have b3 : W.cell? ⟨w.heap.size, 3, none⟩ = some (.slice ok nk ck) := cell_blk hb1 3
        have b0a : ∀ o, (W.alloc o).cell? ⟨w.heap.size, 0, none⟩ = some (.string ⟨nm.toArray⟩) := fun o => (cell_past (a := ⟨w.heap.size, 0, none⟩) hbl o).trans b0
        have b1a : ∀ o, (W.alloc o).cell? ⟨w.heap.size, 1, none⟩ = some (.slice oa na ca) := fun o => (cell_past (a := ⟨w.heap.size, 1, none⟩) hbl o).trans b1
        have b2a : ∀ o, (W.alloc o).cell? ⟨w.heap.size, 2, none⟩ = some (.string ⟨tx.toArray⟩) := fun o => (cell_past (a := ⟨w.heap.size, 2, none⟩) hbl o).trans b2
        have b3a : ∀ o, (W.alloc o).cell? ⟨w.heap.size, 3, none⟩ = some (.slice ok nk ck) := fun o => (cell_past (a := ⟨w.heap.size, 3, none⟩) hbl o).trans b3
        obtain ⟨i0, hi, hz0, hz1, hz2⟩ := info_parts info79
        have hlt1 : (l.length : Int) < l.length + 1 := by omega
        clear hb1
        have HQA := hide (HQ1.out.move HS1.out.1 (fun g hg => hg) (fun g h1 h2 => HS1.out.2 g h2 h1))
        have HQK := hide (HQ2.out.move HS1.out.1 (fun g hg => hg) (fun g h1 h2 => HS1.out.2 g h2 h1))
        go_upto_region 6 with fail
        go_region_law (refine step_own_at rfl _ _ 29 rfl B 45 i0 _ 4 80 Tryz.underlying29 hi hz0 hz1 hz2 (by kernel_rfl) (by decide) (.slice ao l.length ac) l.length (pnsCells l) rfl ((hL.all.alloc _).drew) ⟨W.heap.size, 0, none⟩ 1 1 zeroNd rfl rfl (lit_cells W _ 45) (by intro u hu; simp [zeroNd] at hu; rcases hu with rfl | rfl | rfl | rfl <;> rfl) (by unfold maxLen; omega) (by omega) (Nat.le_trans hBW (by simp)) ?_; intro v3 w3 ho3 hg3 hw3; obtain ⟨g3, c3, hv3, hc31, hc32, hB3, hl3, hcl3, hfr3⟩ := grow_form ho3 (pnsCells_len l); subst hv3; unfold maxLen at hc32; have n0 : w3.cell? ⟨g3, l.length * 4, none⟩ = some (.string ⟨#[]⟩) := hcl3 0 (by decide); have n1 : w3.cell? ⟨g3, l.length * 4 + 1, none⟩ = some (.slice none 0 0) := hcl3 1 (by decide); have n2 : w3.cell? ⟨g3, l.length * 4 + 2, none⟩ = some (.string ⟨#[]⟩) := hcl3 2 (by decide); have n3 : w3.cell? ⟨g3, l.length * 4 + 3, none⟩ = some (.slice none 0 0) := hcl3 3 (by decide); clear hcl3; have hk3 : Keeps (Value.slice ao l.length ac).ownBlock.toList W w3 := (((Keeps.refl _ W).alloc _).drew).grown hg3 (fun i e => .inl (by simp [e])); have z0 := hfr3 (l.length * 4); have z1 := hfr3 (l.length * 4 + 1); have z2 := hfr3 (l.length * 4 + 2); have z3 := hfr3 (l.length * 4 + 3); have d3 := cell_keepsS hk3 (a := ⟨r, 0, none⟩) hrA c0; have hb3 := (hk3.block r hL.lt hrA).trans hL.blk; have e3 : w3.frozen? ⟨r, 0, none⟩ = false := free_blk hb3 0; have hne3 : g3 ≠ r := put_ne hrA hw3 hL.lt)
        all_goals go_wp2_with fail
        all_goals have hw1 : W.heap.size ≤ ((W.alloc (.cells #[.string ⟨#[]⟩, .slice none 0 0, .string ⟨#[]⟩, .slice none 0 0] 45)).drew).heap.size := by simp
        all_goals have hfin := hL.push (q := ⟨.mk nm at' tx ks, .slice oa na ca, .slice ok nk ck⟩) (keeps4 hk3 (own_or hw3 hw1) (.string ⟨nm.toArray⟩) (.slice oa na ca) (.string ⟨tx.toArray⟩) (.slice ok nk ck)) (stored4 ho3 (pnsCells_len l) _ _ _ _) (own_or2 hw3 hw1) HQA.out HQK.out
        all_goals try rw [setCell_comm w3 (a := ⟨r, 0, none⟩) (b := ⟨g3, l.length * 4, none⟩) hne3.symm, setCell_comm _ (a := ⟨r, 0, none⟩) (b := ⟨g3, l.length * 4 + 1, none⟩) hne3.symm, setCell_comm _ (a := ⟨r, 0, none⟩) (b := ⟨g3, l.length * 4 + 2, none⟩) hne3.symm, setCell_comm _ (a := ⟨r, 0, none⟩) (b := ⟨g3, l.length * 4 + 3, none⟩) hne3.symm]
        all_goals refine ⟨.inr ⟨by go_num, ⟨_, ⟨_, _, _, rfl, by simp [E2.out], hfin.1⟩, (Stp.nil HKA.out _).trans (HS1.out.trans hfin.2)⟩⟩, ?_⟩
        all_goals (simp [intOf])
    · go_wp2_with fail
      go_end0
      exact ⟨rfl, hres.out⟩
end Go.Proofs.YtlcljanibjdejaaGreat
namespace Go.Proofs.YtlcljanibjdejaaGreat
open Go.RowKit Go.Maps
/-- An element that is made: its name, and the attributes that were kept so far. -/
structure Kp (w : World) (B q : Nat) (n : List UInt8) (av : Value) (kl : List Pair) : Prop where
  blk : w.heap[q]? = some (.cells #[.string ⟨n.toArray⟩, av, .string ⟨#[]⟩, .slice none 0 0] 45 (0, 0))
  row : w.ownsRow B 52 2 av kl.length (pairCells kl)
theorem Kp.ne {w : World} {B q : Nat} {n : List UInt8} {av : Value} {kl : List Pair} (h : Kp w B q n av kl) : q ∉ av.ownBlock.toList := fun hm => block_ne h.row h.blk (by decide) (by simpa using hm)
theorem Kp.keeps {w w' : World} {B q : Nat} {n : List UInt8} {av : Value} {kl : List Pair} {S : List Nat} (h : Kp w B q n av kl) (hk : Keeps S w w') (hq : q ∉ S) (ha : ∀ g, av.ownBlock = some g → g ∉ S) : Kp w' B q n av kl :=
  ⟨by rw [hk.block q (lt_of_block h.blk) hq]; exact h.blk, hk.owns h.row ha⟩
end Go.Proofs.YtlcljanibjdejaaGreat
namespace Go.Proofs.YtlcljanibjdejaaGreat
open Go.RowKit Go.Maps
theorem LsT.ns {w : World} {B r : Nat} {s : Lst} {T : List Nat} (h : LsT w B r s T) : ∃ allv textv, w.heap[r]? = some (.cells #[allv, textv] 199 (0, 0)) ∧ (∃ o n c, allv = .slice o n c) ∧ Ns w (fun g => B ≤ g) allv s.all := by
  obtain ⟨allv, textv, l, rfl, e2, h⟩ := h
  obtain ⟨o, c, ho⟩ := row_form h.all
  refine ⟨allv, textv, h.blk, ⟨o, _, c, ho⟩, .mk _ l _ e2 (LiesP.of_row h.all (fun g hg => (h.all.lt g hg).1)) (fun p hp => (h.done p hp).1.mono (fun _ _ hg => hg.1)) (fun p hp => (h.done p hp).2.mono (fun _ _ hg => hg.1))⟩
set_option maxHeartbeats 1000000 in
theorem allL_any (B r : Nat) (s : Lst) (T : List Nat) (w : World) (h : LsT w B r s T) (hw : s.weight ≤ 4000000) :
    Calls Tryz.prog 180 #[.pointer (some ⟨r, 0, none⟩)] w fun e w' => ∃ v, e = .returned v ∧ Ns w' (fun g => B ≤ g) v s.done ∧ Keeps T w w' := by
  have het := hide (endTextL_any B r s T w h hw)
  clear h
  go_enter Tryz.func180, Tryz.ntmps180
  go_wp2_with fail
  refine het.out.mono ?_
  rintro e w1 ⟨rfl, T1, h1, hs1⟩
  obtain ⟨allv, textv, hb, ⟨o, n, c, rfl⟩, hN⟩ := h1.ns
  have c0 : w1.cell? ⟨r, 0, none⟩ = some (.slice o n c) := cell_blk hb 0
  go_wp2_with fail
  go_ret
  exact ⟨_, rfl, hN, hs1.1⟩
/-- A list that has just been made. -/
theorem start_ls (w : World) (h0 : 0 < w.heap.size) : LsT (w.alloc (.cells #[.slice none 0 0, .slice none 0 0] 199)) w.heap.size w.heap.size ⟨[], []⟩ (touchL w.heap.size (.slice none 0 0) (.slice none 0 0)) :=
  ⟨.slice none 0 0, .slice none 0 0, [], rfl, rfl, heap_alloc_new w _, World.ownsRow_nil _ _ _ _, World.ownsRow_nil _ _ _ _, by simp, Nat.le_refl _, h0⟩
theorem cell_int {w : World} {g o pe : Nat} {k : Int} {t : List UInt8} {ty : TypeId} (hp : w.heap[pe]? = some (.cells #[.int .i64 k] ty (0, 0))) (h : w.cell? ⟨g, o, none⟩ = some (.string ⟨t.toArray⟩)) : g ≠ pe := by
  rintro rfl
  unfold World.cell? at h
  simp only at h
  rw [hp] at h
  cases o with
  | zero => simp at h
  | succ o => simp at h
/-- What lies as it must does not lie in the block of a number. -/
theorem LiesP.avoid {w : World} {P : Nat → Prop} {v : Value} {n z : Nat} {xs : List Value} (h : LiesP w P v n z xs) (h0 : 0 < n → ∃ t : List UInt8, xs[0]? = some (.string ⟨t.toArray⟩)) {pe : Nat} {k : Int} {ty : TypeId} (hp : w.heap[pe]? = some (.cells #[.int .i64 k] ty (0, 0))) : LiesP w (fun g => P g ∧ g ≠ pe) v n z xs := by
  refine ⟨h.1, ?_⟩
  rcases h.2 with h1 | ⟨g, o, c, rfl, h1, h2, h3, h4, h5⟩
  · exact .inl h1
  · by_cases hn : n = 0
    · subst hn
      exact .inl ⟨rfl, _, c, rfl, h2⟩
    · obtain ⟨t, ht⟩ := h0 (by omega)
      exact .inr ⟨g, o, c, rfl, h1, h2, h3, ⟨h4, cell_int hp (h5 0 _ ht)⟩, h5⟩
theorem pairs_first (l : List Pair) : 0 < l.length → ∃ t : List UInt8, (pairCells l)[0]? = some (.string ⟨t.toArray⟩) := fun h => ⟨_, pair_at0 l 0 h⟩
theorem pns_first (l : List Pn) : 0 < l.length → ∃ t : List UInt8, (pnsCells l)[0]? = some (.string ⟨t.toArray⟩) := fun h => by
  have := pn_at l 0 0 h (by omega)
  exact ⟨_, this.trans rfl⟩
theorem Ns.avoid {w : World} {P : Nat → Prop} {v : Value} {ns : List Nd} (h : Ns w P v ns) {pe : Nat} {k : Int} {ty : TypeId} (hp : w.heap[pe]? = some (.cells #[.int .i64 k] ty (0, 0))) : Ns w (fun g => P g ∧ g ≠ pe) v ns := by
  induction h with
  | mk v l ns e h ha _ ih => exact .mk v l ns e (h.avoid (pns_first l) hp) (fun p hp' => (ha p hp').avoid (pairs_first _) hp) ih
theorem LiesP.keepsInt {w w' : World} {P : Nat → Prop} {n : Nat} {v : Value} {l : List Pair} (h : LiesP w P v n 2 (pairCells l)) (hn : n = l.length) {pe : Nat} {k : Int} {ty : TypeId} (hp : w.heap[pe]? = some (.cells #[.int .i64 k] ty (0, 0))) (hk : Keeps [pe] w w') : LiesP w' P v n 2 (pairCells l) :=
  ((h.avoid (fun h0 => pairs_first l (by omega)) hp).keeps hk (fun g hg => by simpa using hg.2)).mono (fun _ _ hg => hg.1)
theorem Ns.keepsInt {w w' : World} {P : Nat → Prop} {v : Value} {ns : List Nd} (h : Ns w P v ns) {pe : Nat} {k : Int} {ty : TypeId} (hp : w.heap[pe]? = some (.cells #[.int .i64 k] ty (0, 0))) (hk : Keeps [pe] w w') : Ns w' P v ns :=
  ((h.avoid hp).keeps hk (fun g hg => by simpa using hg.2)).mono (fun _ _ hg => hg.1)
/-- A list does not hang on a number in a block of its own. -/
theorem LsT.keepsInt {w w' : World} {B r : Nat} {s : Lst} {T : List Nat} (h : LsT w B r s T) {pe : Nat} {k : Int} (hp : w.heap[pe]? = some (.cells #[.int .i64 k] 22 (0, 0))) (hk : Keeps [pe] w w') : LsT w' B r s T := by
  obtain ⟨allv, textv, l, rfl, e2, h⟩ := h
  have hr : r ≠ pe := fun e => by
    have := h.blk
    rw [e, hp] at this
    simp at this
  refine ⟨allv, textv, l, rfl, e2, ⟨by rw [hk.block r h.lt (by simpa using hr)]; exact h.blk, hk.owns h.all (fun g hg hm => by simp at hm; subst hm; exact block_ne h.all hp (by decide) hg), hk.owns h.txt (fun g hg hm => by simp at hm; subst hm; exact block_ne h.txt hp (by decide) hg), fun q hq => ⟨(h.done q hq).1.keepsInt rfl hp hk, (h.done q hq).2.keepsInt hp hk⟩, h.hr, h.pos⟩⟩
end Go.Proofs.YtlcljanibjdejaaGreat
namespace Go.Proofs.YtlcljanibjdejaaGreat
open Go.RowKit Go.Maps
/-- Values of attributes are no longer than a text of Go may be. -/
def ValNs : List Nd → Prop
  | [] => True
  | .mk _ a _ k :: r => (a.length ≤ 1000000 ∧ ∀ p ∈ a, p.2.length ≤ maxLen) ∧ ValNs k ∧ ValNs r
theorem ValNs.at {n : Nd} : {ns : List Nd} → ValNs ns → n ∈ ns → n.attrs.length ≤ 1000000 ∧ (∀ p ∈ n.attrs, p.2.length ≤ maxLen) ∧ ValNs n.kids
  | .mk _ a _ k :: r, h, hm => by
    rw [ValNs] at h
    rcases List.mem_cons.1 hm with rfl | hm
    · exact ⟨h.1.1, h.1.2, h.2.1⟩
    · exact ValNs.at h.2.2 hm
end Go.Proofs.YtlcljanibjdejaaGreat
namespace Go.Proofs.YtlcljanibjdejaaGreat
end Go.Proofs.YtlcljanibjdejaaGreat
namespace Go.Proofs.YtlcljanibjdejaaGreat
end Go.Proofs.YtlcljanibjdejaaGreat
namespace Go.Proofs.YtlcljanibjdejaaGreat
end Go.Proofs.YtlcljanibjdejaaGreat
namespace Go.Proofs.YtlcljanibjdejaaGreat
theorem chkFrom_cons {p : Int} {t : Tok} {r : List Tok} (h : chkFrom p (t :: r) = 0) : chkT t = 0 ∧ ¬ (t.kind = 1 ∧ p = 1) ∧ chkFrom t.kind r = 0 := by
  unfold chkFrom at h
  split at h
  · rename_i hc; exact absurd h hc
  · rename_i hc
    split at h
    · simp at h
    · rename_i h2
      exact ⟨by simpa using hc, h2, h⟩
end Go.Proofs.YtlcljanibjdejaaGreat
namespace Go.Proofs.YtlcljanibjdejaaGreat
theorem encode_ne (n : Nat) : Lib.encodeRune n ≠ [] := by
  unfold Lib.encodeRune Lib.encodeRuneZ
  rw [Ne, List.map_eq_nil_iff]
  repeat' split
  all_goals simp
theorem takeOne_ne (l : List UInt8) (h : l ≠ []) : (takeOne l).1 ≠ [] := by
  unfold takeOne
  split
  · split
    · exact encode_ne _
    · exact encode_ne _
  · cases l with
    | nil => exact absurd rfl h
    | cons a l => simp
theorem takeL_ne {l : List UInt8} (h : l ≠ []) : (takeL l).1 ≠ [] := by
  cases l with
  | nil => exact absurd rfl h
  | cons c l =>
    by_cases hc : c = 38
    · rw [takeL_and c l hc]
      intro e
      exact takeOne_ne (c :: l) (by simp) (List.append_eq_nil_iff.1 e).1
    · rw [takeL_other c l hc]
      simp
/-- The kind of the last token, or p. -/
def lastK : Int → List Tok → Int
  | p, [] => p
  | _, t :: r => lastK t.kind r
theorem lastK_app (p : Int) (a b : List Tok) : lastK p (a ++ b) = lastK (lastK p a) b := by
  induction a generalizing p with
  | nil => rfl
  | cons t a ih => exact ih t.kind
theorem chkFrom_app {p : Int} {a b : List Tok} (ha : chkFrom p a = 0) (hb : chkFrom (lastK p a) b = 0) : chkFrom p (a ++ b) = 0 := by
  induction a generalizing p with
  | nil => exact hb
  | cons t a ih =>
    obtain ⟨h1, h2, h3⟩ := chkFrom_cons ha
    rw [List.cons_append]
    unfold chkFrom
    rw [if_neg (by simpa using h1), if_neg h2]
    exact ih h3 hb
theorem chkFrom_one {p : Int} {t : Tok} (h1 : chkT t = 0) (h2 : ¬ (t.kind = 1 ∧ p = 1)) : chkFrom p [t] = 0 := by
  unfold chkFrom
  rw [if_neg (by simpa using h1), if_neg h2]
  rfl
theorem endT_good {p : Int} (hp : p ≠ 1) (raw : List UInt8) : chkFrom p (endT raw) = 0 := by
  unfold endT
  split
  · rfl
  · rename_i h
    exact chkFrom_one (by simp [chkT, textTok, takeL_ne h]) (fun hq => hp hq.2)
/-- How many tokens are there, with the text that isn't taken yet? -/
def count (raw : List UInt8) (out : List Tok) : Nat := out.length + (endT raw).length
theorem count_tag (raw : List UInt8) (out : List Tok) (t : Tok) : count [] (out ++ endT raw ++ [t]) = count raw out + 1 := by
  simp [count, endT]
  omega
structure Good (k : Nat) (raw : List UInt8) (out : List Tok) : Prop where
  right : chkFrom 0 out = 0
  last : lastK 0 out ≠ 1
  few : count raw out ≤ k
theorem Good.tag {k k' : Nat} {raw : List UInt8} {out : List Tok} (h : Good k raw out) (t : Tok) (ht : chkT t = 0) (hk : t.kind ≠ 1) (hkk : k < k') : Good k' [] (out ++ endT raw ++ [t]) := by
  refine ⟨?_, ?_, by rw [count_tag]; have := h.few; omega⟩
  · exact chkFrom_app (chkFrom_app h.right (endT_good h.last raw)) (chkFrom_one ht (fun hq => hk hq.1))
  · rw [lastK_app]; exact hk
theorem Good.on {k k' : Nat} {raw raw' : List UInt8} {out : List Tok} (h : Good k raw out) (hk : k < k') : Good k' raw' out := by
  refine ⟨h.right, h.last, ?_⟩
  have h1 := h.few
  have h2 := endT_len raw'
  unfold count at h1 ⊢
  omega
end Go.Proofs.YtlcljanibjdejaaGreat
namespace Go.Proofs.YtlcljanibjdejaaGreat
open Go.RowKit Go.Maps Go.Deep
def bulkP (l : List Pair) : Nat := (l.map fun p => p.1.length + p.2.length + 2).sum
def bulkT (t : Tok) : Nat := t.name.length + t.text.length + bulkP t.attrs + 4
def bulkL (l : List Tok) : Nat := (l.map bulkT).sum
theorem str_backA (s : ByteArray) : (⟨s.data.toList.toArray⟩ : ByteArray) = s := WideShapes.bytes_inj (by simp)
theorem addr_plain {w : World} {a : Addr} {u : Value} (h : w.cell? a = some u) : ∃ g o, a = ⟨g, o, none⟩ := by
  obtain ⟨g, o, f⟩ := a
  cases f with
  | none => exact ⟨g, o, rfl⟩
  | some x =>
    unfold World.cell? at h
    simp only [Option.isSome_some, if_true] at h
    split at h <;> simp at h
theorem lies_of {w : World} {a : Addr} {len cap z : Nat} (hz : 0 < z) (hl : len ≤ cap) (hc : cap ≤ maxLen) {xs : List Value} (hx : xs.length = len * z) (h : ∀ j u, xs[j]? = some u → w.cell? (a.add j) = some u) : Lies w (.slice (some a) len cap) len z xs := by
  refine ⟨hx, ?_⟩
  by_cases h0 : len = 0
  · subst h0
    exact .inr (.inr ⟨rfl, _, _, rfl, hc⟩)
  · have hpos : 0 < xs.length := by rw [hx]; exact Nat.mul_pos (by omega) hz
    have h1 := h 0 _ (List.getElem?_eq_getElem hpos)
    have e0 : a.add 0 = a := by simp [Addr.add]
    rw [e0] at h1
    obtain ⟨g, o, rfl⟩ := addr_plain h1
    refine .inr (.inl ⟨g, o, cap, rfl, hl, hc, fun j u hj => ?_⟩)
    have h2 := h j u hj
    have e1 : (⟨g, o, none⟩ : Addr).add j = ⟨g, o + j, none⟩ := by by_cases hj0 : j = 0 <;> simp [Addr.add, hj0]
    rw [e1] at h2
    exact h2
theorem four {α : Type} {l : List α} (h : l.length = 4) : ∃ a b c d, l = [a, b, c, d] := by
  match l, h with
  | [a, b, c, d], _ => exact ⟨a, b, c, d, rfl⟩
section
variable {H : Type} {enc : TypeId × Value → H} {w : World} {base : Nat} {spare : Nat → Bool} {held : Bool}
theorem bulkAll_map {α : Type} (f : α → DataW H) (g : α → Nat) (hfg : ∀ x, g x ≤ Rows.uptoBulk (f x)) (l : List α) : (l.map g).sum ≤ Rows.uptoBulkAll (l.map f) := by
  induction l with
  | nil => simp
  | cons x l ih =>
    have := hfg x
    simp only [List.map_cons, List.sum_cons, Rows.uptoBulkAll]
    omega
theorem attrs_down {n : Nat} {v : Value} {x : DataW H × List MemPlace} (h : DataW.trod enc Tryz.prog w base spare held n 43 [v] = some x) : ∃ la : List Pair, Lies w v la.length 2 (pairCells la) ∧ bulkP la ≤ Rows.uptoBulk x.1 := by
  rcases open_slice_pairs Tryz.underlying43 Tryz.underlying52 (by kernel_rfl) rfl rfl (by kernel_rfl) (by kernel_rfl) h with ⟨hv, _⟩ | ⟨a, len, cap, m, n', V0, V1, D0, D1, P0, P1, hv, _, hl, hm, hmm, rfl, hx⟩
  · simp at hv
    subst hv
    exact ⟨[], ⟨rfl, .inl ⟨rfl, rfl⟩⟩, by simp [bulkP]⟩
  · simp at hv
    subst hv
    have hlm : len ≤ m := by rw [hmm]; split <;> omega
    have each : ∀ i, i < len → ∃ q : Pair, w.cell? (a.add (i * 2)) = some (.string ⟨q.1.toArray⟩) ∧ w.cell? (a.add (i * 2 + 1)) = some (.string ⟨q.2.toArray⟩) ∧ D0 i = .lit (.string q.1) ∧ D1 i = .lit (.string q.2) := by
      intro i hi
      obtain ⟨h0, h1, h2, h3⟩ := hx i (by omega)
      obtain ⟨s0, e0, f0, _⟩ := DataW.trod_string Tryz.underlying9 h2
      obtain ⟨s1, e1, f1, _⟩ := DataW.trod_string Tryz.underlying9 h3
      simp at e0 e1 f0 f1
      refine ⟨(s0.data.toList, s1.data.toList), ?_, ?_, f0.1, f1.1⟩
      · rw [str_backA, h0, e0]
      · rw [str_backA, h1, e1]
    obtain ⟨q, hq⟩ := choose_lt each
    refine ⟨(List.range len).map q, ?_, ?_⟩
    · rw [List.length_map, List.length_range]
      refine lies_of (by decide) hl hm (by rw [pairCells_len]; simp) fun j u hj => ?_
      have hj2 : j < len * 2 := by
        have := (List.getElem?_eq_some_iff.1 hj).1
        rw [pairCells_len] at this
        simpa using this
      have hi : j / 2 < ((List.range len).map q).length := by simp; omega
      have hi' : j / 2 < len := by omega
      have hel : ((List.range len).map q)[j / 2] = q (j / 2) := by simp
      rcases Nat.mod_two_eq_zero_or_one j with hr | hr
      · have := pair_at0 ((List.range len).map q) (j / 2) hi
        rw [show j / 2 * 2 = j from by omega, hj, hel] at this
        rw [this]
        have h9 := (hq (j / 2) hi').1
        rwa [show j / 2 * 2 = j from by omega] at h9
      · have := pair_at1 ((List.range len).map q) (j / 2) hi
        rw [show j / 2 * 2 + 1 = j from by omega, hj, hel] at this
        rw [this]
        have h9 := (hq (j / 2) hi').2.1
        rwa [show j / 2 * 2 + 1 = j from by omega] at h9
    · simp only [Rows.uptoBulk]
      have e : (List.range len).map (fun i => DataW.agg [D0 i, D1 i]) = (List.range len).map (fun i => DataW.agg [.lit (.string (q i).1), .lit (.string (q i).2)]) :=
        List.map_congr_left fun i hi => by rw [(hq i (List.mem_range.1 hi)).2.2.1, (hq i (List.mem_range.1 hi)).2.2.2]
      have hb := bulkAll_map (H := H) (fun i => DataW.agg [.lit (.string (q i).1), .lit (.string (q i).2)]) (fun i => (q i).1.length + (q i).2.length + 2) (fun i => by simp [Rows.uptoBulk, Rows.uptoBulkAll]; omega) (List.range len)
      rw [e]
      have e2 : bulkP ((List.range len).map q) = ((List.range len).map fun i => (q i).1.length + (q i).2.length + 2).sum := by simp [bulkP, Function.comp_def]
      rw [e2]
      omega
end
end Go.Proofs.YtlcljanibjdejaaGreat
namespace Go.Proofs.YtlcljanibjdejaaGreat
open Go.RowKit Go.Maps
theorem bulkP_len (l : List Pair) : l.length ≤ bulkP l ∧ ∀ p ∈ l, p.1.length ≤ bulkP l := by
  induction l with
  | nil => simp [bulkP]
  | cons a l ih =>
    simp only [bulkP, List.map_cons, List.sum_cons] at ih ⊢
    refine ⟨by simp; omega, fun p hp => ?_⟩
    rcases List.mem_cons.1 hp with rfl | hp
    · omega
    · have := ih.2 p hp; omega
theorem bulkL_mem {t : Tok} {l : List Tok} (h : t ∈ l) : bulkT t ≤ bulkL l := by
  induction l with
  | nil => simp at h
  | cons a l ih =>
    simp only [bulkL, List.map_cons, List.sum_cons] at ih ⊢
    rcases List.mem_cons.1 h with rfl | h
    · omega
    · have := ih h; omega
end Go.Proofs.YtlcljanibjdejaaGreat
namespace Go.Proofs.YtlcljanibjdejaaGreat
theorem takeF_len : ∀ (f : Nat) (l : List UInt8), (takeF f l).1.length ≤ 4 * l.length
  | 0, l => by simp [takeF]
  | f + 1, [] => by simp [takeF]
  | f + 1, c :: l => by
    unfold takeF
    split
    · have h1 := takeOne_le (c :: l) (by simp)
      have h2 := takeF_len f ((c :: l).drop (takeOne (c :: l)).2.1)
      rw [List.length_drop] at h2
      simp only [List.length_append]
      omega
    · have h2 := takeF_len f l
      simp only [List.length_cons]
      omega
theorem takeL_len (l : List UInt8) : (takeL l).1.length ≤ 4 * l.length := takeF_len _ _
end Go.Proofs.YtlcljanibjdejaaGreat
namespace Go.Proofs.YtlcljanibjdejaaGreat
open Go.RowKit Go.Maps
/-- How much nodes are. -/
def bulkNs : List Nd → Nat
  | [] => 0
  | .mk n a t k :: r => n.length + t.length + bulkP a + bulkNs k + 3 + bulkNs r
theorem bulkNs_cons (n : Nd) (r : List Nd) : bulkNs (n :: r) = n.name.length + n.text.length + bulkP n.attrs + bulkNs n.kids + 3 + bulkNs r := by
  obtain ⟨n, a, t, k⟩ := n
  rw [bulkNs]
  rfl
theorem bulkNs_size : (ns : List Nd) → sizeNs ns ≤ bulkNs ns
  | [] => by simp [sizeNs, bulkNs]
  | .mk n a t k :: r => by
    have h1 := bulkNs_size k
    have h2 := bulkNs_size r
    rw [sizeNs, bulkNs]
    omega
theorem bulkNs_fits : (ns : List Nd) → bulkNs ns ≤ 1100000 → FitsNs ns ∧ FewNs ns
  | [], _ => by simp [FitsNs, FewNs]
  | .mk n a t k :: r, h => by
    rw [bulkNs] at h
    have h1 := bulkNs_fits k (by omega)
    have h2 := bulkNs_fits r (by omega)
    have h3 := bulkP_len a
    rw [FitsNs, FewNs]
    exact ⟨⟨⟨by unfold maxLen; omega, fun p hp => by have := h3.2 p hp; unfold maxLen; omega⟩, h1.1, h2.1⟩, by omega, h1.2, h2.2⟩
theorem bulkNs_append (a b : List Nd) : bulkNs (a ++ b) = bulkNs a + bulkNs b := by
  induction a with
  | nil => simp [bulkNs]
  | cons n a ih => rw [List.cons_append, bulkNs_cons, bulkNs_cons, ih]; omega
end Go.Proofs.YtlcljanibjdejaaGreat
namespace Go.Proofs.YtlcljanibjdejaaGreat
open Go.RowKit Go.Maps
/-- What a token weighs: as many as stand in its element's place. -/
def wT (t : Tok) : Nat := if t.kind = 2 then 2 else if t.kind = 1 then 1 else 0
def wL (ts : List Tok) : Nat := (ts.map wT).sum
theorem wL_app (a b : List Tok) : wL (a ++ b) = wL a + wL b := by simp [wL]
theorem endT_w (raw : List UInt8) : wL (endT raw) = if raw = [] then 0 else 1 := by
  unfold endT
  split
  · rfl
  · simp [wL, wT, textTok]
def Light (k : Nat) (raw : List UInt8) (out : List Tok) : Prop := wL out + (if raw = [] then 0 else 1) ≤ k
theorem Light.tag {k k' : Nat} {raw : List UInt8} {out : List Tok} (h : Light k raw out) (t : Tok) (hk : k + wT t ≤ k') : Light k' [] (out ++ endT raw ++ [t]) := by
  unfold Light at h ⊢
  rw [wL_app, wL_app, endT_w]
  have : wL [t] = wT t := by simp [wL]
  rw [this, if_pos rfl]
  omega
theorem Light.on {k k' : Nat} {raw raw' : List UInt8} {out : List Tok} (h : Light k raw out) (hk : k < k') : Light k' raw' out := by
  unfold Light at h ⊢
  split
  · omega
  · omega
def wN (ns : List Nd) : Nat := (flatL ns).length
def St.wt (s : St) : Nat := (s.all.map fun o => wN o.kids).sum + 2 * s.up.length + if s.text = [] then 0 else 1
def Lst.wt (s : Lst) : Nat := wN s.all + if s.text.isEmpty = true then 0 else 1
/-- How much names are. -/
def namesN : List Nd → Nat
  | [] => 0
  | .mk n _ _ k :: r => n.length + 5 + namesN k + namesN r
def Lst.nm (s : Lst) : Nat := namesN s.all + if s.text.isEmpty = true then 0 else 5
end Go.Proofs.YtlcljanibjdejaaGreat
namespace Go.Proofs.YtlcljanibjdejaaGreat
open Go.RowKit Go.Maps
theorem putL_app (a b : List UInt8) : putL (a ++ b) = putL a ++ putL b := by simp [putL]
theorem putL_take (t : List UInt8) (k m : Nat) : putL (t.take (k + m)) = putL (t.take k) ++ putL ((t.drop k).take m) := by
  rw [List.take_add, putL_app]
set_option maxRecDepth 4000 in
set_option maxHeartbeats 2000000 in
theorem printText_all (B b : Nat) (l t : List UInt8) (w : World) (h : IsBld B b l w) (hBw : B ≤ w.heap.size) (ht : t.length ≤ 38000000) (hl : l.length ≤ 700000000) :
    Calls Tryz.prog 142 #[.pointer (some ⟨b, 0, none⟩), .string ⟨t.toArray⟩] w fun e w' => e = .returned (.tuple #[]) ∧ IsBld B b (l ++ putL t) w' ∧ KeepsB B b w w' := by
  go_enter Tryz.func142, Tryz.ntmps142
  go_wp2_with fail
  go_loopg [1] (t.length + 1) (fun g v wr => ∃ (k : Nat) (X : ByteArray), k ≤ t.length ∧ t.length + 1 ≤ g + k ∧ v = .string X ∧ Hid (X.data.toList = t.drop k) ∧ X.size + k = t.length ∧ IsBld B b (l ++ putL (t.take k)) wr ∧ KeepsB B b w wr)
  case atStart => exact ⟨0, ⟨t.toArray⟩, Nat.zero_le _, by omega, rfl, rfl, rfl, by simpa [putL] using h, KeepsB.refl _ _ _⟩
  case round =>
    obtain ⟨k, X, hk, hg, rfl, hX, hXs, hbk, hkw⟩ := hrel
    by_cases hz : X.size = 0
    · have hkt : k = t.length := by omega
      have htk : t.take k = t := List.take_of_length_le (by omega)
      rw [htk] at hbk
      clear hkt htk
      have hgt : decide ((0 : Int) < (X.size : Int)) = false := by rw [hz]; rfl
      go_wp2_with fail
      go_end0
      exact ⟨rfl, hbk, hkw⟩
    · obtain ⟨f, rfl⟩ : ∃ f, gk = f + 1 := ⟨gk - 1, by omega⟩
      obtain ⟨m, hm⟩ : ∃ m, m = min X.size 3000 := ⟨_, rfl⟩
      have hm1 : 1 ≤ m := by omega
      have hm2 : m ≤ X.size := by omega
      have hm3 : m ≤ 3000 := by omega
      have hmin : min (X.size : Int) 3000 = (m : Int) := by omega
      have hgt : decide ((0 : Int) < (X.size : Int)) = true := by simp; omega
      have hpos : 0 < X.size := by omega
      clear hm
      have hPd : (X.extract 0 m).data.toList = (t.drop k).take m := by
        rw [Lib.extract_data, hX.out]
        simp
      have hPl : ((t.drop k).take m).length = m := by
        have := len_size X
        rw [hX.out] at this
        rw [List.length_take, this]
        omega
      have hRd : (X.extract m X.size).data.toList = t.drop (k + m) := by
        rw [Lib.extract_to_end, hX.out, List.drop_drop]
      have hRs : (X.extract m X.size).size + (k + m) = t.length := by simp; omega
      have hPs : (X.extract 0 m).size = m := by simp; omega
      have hput := hide (fun w => put_any (X.extract 0 m) w (by unfold maxLen; omega))
      have hans : putAns (X.extract 0 m).data.toList = (putL ((t.drop k).take m), 0) := by
        unfold putAns
        rw [hPd, if_neg (by omega)]
      rw [hans] at hput
      have hpl1 := putL_le (t.take k)
      have hpl2 := putL_le ((t.drop k).take m)
      have htl : (t.take k).length ≤ 38000000 := by rw [List.length_take]; omega
      have hwr := hide (fun (w : World) h hB => write_all B b (l ++ putL (t.take k)) (putL ((t.drop k).take m)) w h (by rw [List.length_append]; omega) hB)
      have HT := hide (putL_take t k m)
      have HRd := hide hRd
      have hBr := Nat.le_trans hBw hkw.size
      clear hPd hRd hPl hans hpl1 hpl2 htl
      generalize putL ((t.drop k).take m) = T at *
      generalize putL (t.take k) = Y at *
      go_wp2_with fail
      refine (hput.out _).mono ?_
      rintro e w2 ⟨rfl, hk2⟩
      unfold two
      go_wp2_with fail
      refine (hwr.out _ (hbk.keeps hk2) (Nat.le_trans hBr hk2.size)).mono ?_
      rintro e w3 ⟨rfl, hb3, hk3⟩
      have hb3' : IsBld B b (l ++ putL (t.take (k + m))) w3 := by rw [HT.out, ← List.append_assoc]; exact hb3
      have hkw3 : KeepsB B b w w3 := (hkw.trans (KeepsB.of hk2)).trans hk3
      go_wp2_with fail
      go_roundg f
      case measure => omega
      case rel => exact ⟨k + m, X.extract m X.size, by omega, by omega, rfl, HRd, hRs, hb3', hkw3⟩
end Go.Proofs.YtlcljanibjdejaaGreat
