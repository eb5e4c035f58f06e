/- nodes.Walk, fits, CheckText, checkNode, nodes.Check, tree.Check. fits, CheckText, checkNode. printText, of a text that is no longer than one that is read. printOpen, Print. tags, tokenBegun. checkNode, nodes.Check, tree.Check. nodes.Check, tree.Check. Flat$1, flat. flat, Flat. Words of markup: the texts of nodes, spelt out with blanks. strings.IndexByte, LastIndexByte and Join, laid at this program. Words of markup: IndexRune of a rune that is no byte. -/
import Derived.Test.YtlcljanibjdejaaGreatSo10
import Derived.Shelf.Strings.FieldsFuncAny
import Derived.Shelf.Strings.FieldsFuncGrows
import Derived.Shelf.Strings.Runes
import Derived.Shelf.Strings.OnBuilder
import Derived.Shelf.Small.Strs
import Derived.Shelf.Strings.LastIndex
import Derived.Lib.OthersKept
import Derived.Laws.Runes
import Derived.WalkMore
import Derived.Deep.RegionHeld3
namespace Go.Proofs.YtlcljanibjdejaaGreat
open Go.RowKit Go.Maps
set_option maxHeartbeats 1000000 in
theorem Walk_any {σ : Type} {K : Nat} {caps : Array Value} {f : σ → List Nd → Nat → List Nd → σ × Bool} {I : σ → World → Prop} {S : List Nat} {B1 : Nat} {P : Nat → Prop} {F : List Nd → Prop} (V : Vis K caps f I S B1 P F)
    (w : World) (v : Value) (ns : List Nd) (h : Ns w P v ns) (s : σ) (hI : I s w) (hB : B1 ≤ w.heap.size) (hsz : sizeNs ns ≤ 2000000) (hF : F ns) :
    Calls Tryz.prog 87 #[v, .func (.func K) #[] caps] w fun e w' => e = .returned (.bool (walkL f ns ns 0 [] s).2) ∧ I (walkL f ns ns 0 [] s).1 w' ∧ Keeps S w w' := by
  have hc := hide (walk_all V w v ns h w [] (Keeps.refl _ _) (fun _ _ => List.not_mem_nil) s (.slice none 0 0) [] hI (World.ownsRow_nil _ _ _ _) hB (by simpa using hsz) hF)
  simp only [List.map_nil] at hc
  generalize walkL f ns ns 0 [] s = R at *
  obtain ⟨o, c, hv⟩ := h.form
  subst hv
  clear h
  go_enter Tryz.func87, Tryz.ntmps87
  go_wp2_with fail
  refine hc.out.mono ?_
  rintro e w1 ⟨rfl, h1, _, h2⟩
  go_wp2_with fail
  go_ret
  exact ⟨rfl, h1, h2.mono (fun g hg _ => by simpa [chgW, Value.ownBlock] using hg)⟩
/-- A number in a block. -/
def IsNum (w : World) (c : Nat) (t : TypeId) (s : Int) : Prop := w.heap[c]? = some (.cells #[.int .i64 s] t (0, 0))
theorem IsNum.keeps {S : List Nat} {w w' : World} {c : Nat} {t : TypeId} {s : Int} (h : IsNum w c t s) (hk : Keeps S w w') (hc : c ∉ S) : IsNum w' c t s := by
  unfold IsNum at *
  rw [hk.block c (lt_of_block h) hc]; exact h
theorem IsNum.set {w : World} {c : Nat} {t : TypeId} {s : Int} (h : IsNum w c t s) (u : Int) : IsNum (w.setCell ⟨c, 0, none⟩ (.int .i64 u)) c t u := by
  unfold IsNum at *
  simp [World.setCell, Array.getElem?_modify, h]
def fitsF (s : Int) (b : List Nd) (i : Nat) (ar : List Nd) : Int × Bool :=
  (wrap64 (s + 1), decide (wrap64 (s + 1) ≤ 3000) && ((b[i]?.map Nd.name == some []) || decide (ar.length < 8)))
set_option maxRecDepth 4000 in
set_option maxHeartbeats 2000000 in
theorem fits1_any (P : Nat → Prop) (B1 c : Nat) (s : Int) (w : World) (v : Value) (ns : List Nd) (i : Nat) (av : Value) (pl : List Pn) (hI : IsNum w c 3 s) (hN : Ns w P v ns) (hi : i < ns.length) (hrow : w.ownsRow B1 45 4 av pl.length (pnsCells pl)) (hpl : pl.length ≤ 2000000) (hc : ∀ g, P g → g ≠ c) :
    Calls Tryz.prog 251 #[v, .int .i64 i, av, .pointer (some ⟨c, 0, none⟩)] w fun e w' => e = .returned (.bool (fitsF s ns i (pl.map Pn.nd)).2) ∧ IsNum w' c 3 (fitsF s ns i (pl.map Pn.nd)).1 ∧ Keeps [c] w w' := by
  unfold fitsF
  simp only
  cases hN with
  | mk _ l _ hns hl ha hk =>
  obtain ⟨o, c', rfl, h1, h2⟩ := hl.lies.form
  obtain ⟨ao, ac, hav⟩ := row_form hrow
  subst hav
  subst hns
  rw [List.length_map] at hi
  have hd0 : w.cell? ⟨c, 0, none⟩ = some (.int .i64 s) := cell_blk hI 0
  have hd1 : w.frozen? ⟨c, 0, none⟩ = false := free_blk hI 0
  rcases hl.2 with ⟨h0, _⟩ | ⟨g, x, c9, e9, _, _, _, hPg, hcl⟩
  · omega
  simp only [Value.slice.injEq] at e9
  obtain ⟨rfl, _, rfl⟩ := e9
  obtain ⟨a0, _, _, _⟩ := lies_pn hcl i hi
  have hgc : g ≠ c := hc g hPg
  have a0s : ∀ u, (w.setCell ⟨c, 0, none⟩ u).cell? ⟨g, x + i * 4, none⟩ = some (.string ⟨l[i].nd.name.toArray⟩) := fun u =>
    cell_keepsS ((Keeps.refl [c] w).setCell (p := ⟨c, 0, none⟩) (.inl (by simp)) u) (a := ⟨g, x + i * 4, none⟩) (by simpa using hgc) a0
  have hnm : ((l.map Pn.nd)[i]?.map Nd.name == some []) = decide (l[i].nd.name = []) := by
    rw [List.getElem?_map, List.getElem?_eq_getElem hi, Bool.eq_iff_iff]
    simp
  rw [hnm, List.length_map]
  have p0 := emptyB l[i].nd.name
  have hst := hI.set (wrap64 (s + 1))
  have hks : Keeps [c] w (w.setCell ⟨c, 0, none⟩ (.int .i64 (wrap64 (s + 1)))) := (Keeps.refl [c] w).setCell (.inl (by simp)) _
  clear hcl hnm hrow ha hk hl
  obtain ⟨S1, hS1⟩ : ∃ S1, wrap64 (s + 1) = S1 := ⟨_, rfl⟩
  rw [hS1] at hst hks ⊢
  generalize l[i].nd.name = nm at *
  unfold maxLen at h2
  have d2 : (w.setCell ⟨c, 0, none⟩ (.int .i64 S1)).cell? ⟨c, 0, none⟩ = some (.int .i64 S1) := cell_blk hst 0
  by_cases q1 : S1 ≤ 3000
  · have q1b : decide (S1 ≤ 3000) = true := by simpa using q1
    rw [q1b, Bool.true_and]
    by_cases q2 : nm = []
    · have q2b : decide (nm = []) = true := by simpa using q2
      rw [q2b]
      rw [Bool.true_or]
      subst q2
      clear p0 q2b
      go_enter Tryz.func251, Tryz.ntmps251
      go_wp2_with fail
      go_ret
      exact ⟨rfl, hst, hks⟩
    · have q2b : decide (nm = []) = false := by simpa using q2
      rw [q2b]
      rw [Bool.false_or]
      have q2e : nm.isEmpty = false := by cases nm <;> simp_all
      clear q2 p0 q2b
      by_cases q3 : pl.length < 8
      · have q3b : decide (pl.length < 8) = true := by simpa using q3
        have q3c : (pl.length : Int) < 8 := by omega
        rw [q3b]
        go_enter Tryz.func251, Tryz.ntmps251
        go_wp2_with fail
        go_ret
        exact ⟨rfl, hst, hks⟩
      · have q3b : decide (pl.length < 8) = false := by simpa using q3
        have q3c : ¬ (pl.length : Int) < 8 := by omega
        rw [q3b]
        go_enter Tryz.func251, Tryz.ntmps251
        go_wp2_with fail
        go_ret
        exact ⟨rfl, hst, hks⟩
  · have q1b : decide (S1 ≤ 3000) = false := by simpa using q1
    rw [q1b, Bool.false_and]
    go_enter Tryz.func251, Tryz.ntmps251
    go_wp2_with fail
    go_ret
    exact ⟨rfl, hst, hks⟩
end Go.Proofs.YtlcljanibjdejaaGreat
namespace Go.Proofs.YtlcljanibjdejaaGreat
open Go.RowKit Go.Maps
theorem enters251 : Enters 251 := enters_of Tryz.func251 (by kernel_rfl) (by kernel_rfl)
theorem Ns.lt {w : World} {P : Nat → Prop} {v : Value} {ns : List Nd} (h : Ns w P v ns) : Ns w (fun g => g < w.heap.size) v ns := h.mono (fun _ hg _ => hg)
theorem fits_vis (c B1 : Nat) (h : c < B1) : Vis 251 #[.pointer (some ⟨c, 0, none⟩)] fitsF (fun s w => IsNum w c 3 s) [c] B1 (fun g => g < c) (fun _ => True) where
  call s w v ns i av pl hI hN _ hi hrow hpl _ := fits1_any _ B1 c s w v ns i av pl hI hN hi hrow hpl (fun g hg => by omega)
  stable s w w' L hL hI hk := hI.keeps hk (fun hm => by have := hL c hm; omega)
  down _ _ _ _ := trivial
  low g hg := by simp at hg; omega
  enters := enters251
  part g hg := ⟨by omega, by simp; omega⟩
set_option maxHeartbeats 1000000 in
theorem fits_any (w : World) (P : Nat → Prop) (v : Value) (ns : List Nd) (h : Ns w P v ns) (hsz : sizeNs ns ≤ 2000000) :
    Calls Tryz.prog 181 #[v] w fun e w' => e = .returned (.bool (walkL fitsF ns ns 0 [] 0).2) ∧ Keeps [] w w' := by
  have hka : Keeps [] w (w.alloc (.cells #[.int .i64 0] 3)) := (Keeps.refl [] w).alloc _
  have hc := hide (Walk_any (fits_vis w.heap.size (w.heap.size + 1) (by omega)) (w.alloc (.cells #[.int .i64 0] 3)) v ns (h.lt.keeps0 hka) 0 (heap_alloc_new w _) (by simp) hsz trivial)
  generalize walkL fitsF ns ns 0 [] 0 = R at *
  obtain ⟨o, c, hv⟩ := h.form
  subst hv
  clear h
  go_enter Tryz.func181, Tryz.ntmps181
  go_wp2_with fail
  refine hc.out.mono ?_
  rintro e w1 ⟨rfl, _, h2⟩
  go_wp2_with fail
  go_ret
  refine ⟨rfl, ?_⟩
  have h3 := keeps_within hka h2 (fun g hg hlt => by simp at hg; omega)
  exact h3
def chkTextOf (tx : List UInt8) (at' : List Pair) (ks : List Nd) (prev : Bool) : Int := if tx.isEmpty = true ∨ 0 < at'.length ∨ 0 < ks.length then 1 else if prev = true then 4 else 0
def prevText (b : List Nd) (i : Nat) : Bool := decide (0 < i) && (b[i - 1]?.map Nd.name == some [])
def chkText (b : List Nd) (i : Nat) : Int :=
  match b[i]? with
  | none => 0
  | some n => chkTextOf n.text n.attrs n.kids (prevText b i)
set_option maxRecDepth 4000 in
set_option maxHeartbeats 4000000 in
theorem checkText_any (w : World) (P : Nat → Prop) (v : Value) (ns : List Nd) (i : Nat) (hN : Ns w P v ns) (hi : i < ns.length) :
    Calls Tryz.prog 183 #[v, .int .i64 i] w fun e w' => e = .returned (.int .i64 (chkText ns i)) ∧ Keeps [] w w' := by
  cases hN with
  | mk _ l _ hns hl ha hk =>
  obtain ⟨o, c', rfl, h1, h2⟩ := hl.lies.form
  subst hns
  rw [List.length_map] at hi
  obtain ⟨g, x, rfl, hcl⟩ := hl.lies.addr (by omega)
  obtain ⟨a0, a1, a2, a3⟩ := lies_pn hcl i hi
  have hprev : 0 < i → ∃ pn : List UInt8, w.cell? ⟨g, x + (i - 1) * 4, none⟩ = some (.string ⟨pn.toArray⟩) ∧ prevText (l.map Pn.nd) i = pn.isEmpty := fun h0 => by
    refine ⟨l[i - 1].nd.name, (lies_pn hcl (i - 1) (by omega)).1, ?_⟩
    unfold prevText
    rw [List.getElem?_map, List.getElem?_eq_getElem (by omega)]
    cases hq : l[i - 1].nd.name <;> simp [h0, hq]
  have hno : i = 0 → prevText (l.map Pn.nd) i = false := fun h0 => by simp [prevText, h0]
  have hc0 : chkText (l.map Pn.nd) i = chkTextOf l[i].nd.text l[i].nd.attrs l[i].nd.kids (prevText (l.map Pn.nd) i) := by
    unfold chkText
    rw [List.getElem?_map, List.getElem?_eq_getElem hi]
    rfl
  rw [hc0]
  obtain ⟨oa, ca, hav⟩ := (ha l[i] (List.getElem_mem hi)).form
  obtain ⟨ok, ck, hkv⟩ := (hk l[i] (List.getElem_mem hi)).form
  rw [hav] at a1
  rw [hkv] at a3
  clear hcl hav hkv ha hk hl hc0
  generalize prevText (l.map Pn.nd) i = pb at *
  generalize l[i].nd = nd at *
  generalize nd.attrs = at' at *
  generalize nd.text = tx at *
  generalize nd.kids = ks at *
  generalize nd.name = nm at *
  have hka : Keeps [] w (w.alloc (.cells #[.string ⟨nm.toArray⟩, .slice oa at'.length ca, .string ⟨tx.toArray⟩, .slice ok ks.length ck] 45)) := (Keeps.refl [] w).alloc _
  unfold maxLen at h2
  cases t0 : tx.isEmpty
  · by_cases t1 : 0 < at'.length
    · have e1 : chkTextOf tx at' ks pb = 1 := by simp only [chkTextOf, t1, true_or, or_true, if_true]
      rw [e1]
      clear hprev hno e1
      go_enter Tryz.func183, Tryz.ntmps183
      go_wp2_with fail
      go_ret
      exact ⟨rfl, hka⟩
    · by_cases t2 : 0 < ks.length
      · have e1 : chkTextOf tx at' ks pb = 1 := by simp only [chkTextOf, t2, or_true, if_true]
        rw [e1]
        clear hprev hno e1
        go_enter Tryz.func183, Tryz.ntmps183
        go_wp2_with fail
        go_ret
        exact ⟨rfl, hka⟩
      · have e1 : chkTextOf tx at' ks pb = if pb = true then 4 else 0 := by simp only [chkTextOf, t0, t1, t2, or_self, if_false, Bool.false_eq_true]
        rw [e1]
        clear e1
        by_cases i0 : 0 < i
        · obtain ⟨pn, p9, hp9⟩ := hprev i0
          have p9a : ∀ o', (w.alloc o').cell? ⟨g, x + (i - 1) * 4, none⟩ = some (.string ⟨pn.toArray⟩) := fun o' => cell_keeps ((Keeps.refl [] w).alloc o') p9
          have i1 : ((i : Int) - 1) = ((i - 1 : Nat) : Int) := by omega
          have ib : i ≤ 9223372036854775807 := by omega
          rw [hp9]
          clear hprev hno hp9
          cases q : pn.isEmpty
          · rw [if_neg (by simp)]
            go_enter Tryz.func183, Tryz.ntmps183
            go_wp2_with fail
            go_ret
            exact ⟨rfl, hka⟩
          · rw [if_pos rfl]
            go_enter Tryz.func183, Tryz.ntmps183
            go_wp2_with fail
            go_ret
            exact ⟨rfl, hka⟩
        · have hi0 : i = 0 := by omega
          rw [hno hi0, if_neg (by simp)]
          clear hprev hno hi0
          go_enter Tryz.func183, Tryz.ntmps183
          go_wp2_with fail
          go_ret
          exact ⟨rfl, hka⟩
  · have e1 : chkTextOf tx at' ks pb = 1 := by simp only [chkTextOf, t0, true_or, if_true]
    rw [e1]
    clear hprev hno e1
    go_enter Tryz.func183, Tryz.ntmps183
    go_wp2_with fail
    go_ret
    exact ⟨rfl, hka⟩
end Go.Proofs.YtlcljanibjdejaaGreat
namespace Go.Proofs.YtlcljanibjdejaaGreat
open Go.RowKit Go.Maps
theorem IsBld.keeps {B b : Nat} {l : List UInt8} {w w' : World} (h : IsBld B b l w) (hk : Keeps [] w w') : IsBld B b l w' := by
  rcases h with ⟨hB, v, hb, ho, hne⟩ | ⟨hB, v, hb, ho, hne⟩
  · exact .inl ⟨hB, v, by rw [hk.block b (lt_of_block hb) List.not_mem_nil]; exact hb, hk.owns ho (fun _ _ => List.not_mem_nil), hne⟩
  · exact .inr ⟨hB, v, by rw [hk.block b (lt_of_block hb) List.not_mem_nil]; exact hb, hk.owns ho (fun _ _ => List.not_mem_nil), hne⟩
end Go.Proofs.YtlcljanibjdejaaGreat
namespace Go.Proofs.YtlcljanibjdejaaGreat
open Go.RowKit Go.Maps
/-- An attribute as it is printed. -/
def pairP (p : Pair) : List UInt8 := [32] ++ p.1 ++ [61, 34] ++ putL p.2 ++ [34]
def pairsP (l : List Pair) : List UInt8 := l.flatMap pairP
def openP (t : Tok) : List UInt8 := [60] ++ t.name ++ pairsP t.attrs ++ [62]
def tokP (t : Tok) : List UInt8 := if t.kind = 1 then putL t.text else if t.kind = 2 then openP t else [60, 47] ++ t.name ++ [62]
def toksP (l : List Tok) : List UInt8 := l.flatMap tokP
theorem pairsP_take (l : List Pair) (k : Nat) (hk : k < l.length) : pairsP (l.take (k + 1)) = pairsP (l.take k) ++ pairP l[k] := by
  rw [List.take_succ_eq_append_getElem hk]
  unfold pairsP
  rw [List.flatMap_append]
  simp
theorem app2 (a x : List UInt8) : ((⟨a.toArray⟩ : ByteArray) ++ ⟨x.toArray⟩) = ⟨(a ++ x).toArray⟩ := WideShapes.bytes_inj (by simp)
theorem toksP_take (l : List (Tok × Value)) (k : Nat) (hk : k < l.length) : toksP ((l.take (k + 1)).map (·.1)) = toksP ((l.take k).map (·.1)) ++ tokP l[k].1 := by
  rw [List.take_succ_eq_append_getElem hk, List.map_append]
  unfold toksP
  rw [List.flatMap_append]
  simp
theorem bld_new (w : World) : IsBld w.heap.size w.heap.size [] (w.alloc (.cells #[.pointer none, .slice none 0 0] 134)) :=
  .inl ⟨Nat.le_refl _, .slice none 0 0, heap_alloc_new w _, World.ownsRow_nil _ _ _ _, by simp [Value.ownBlock]⟩
end Go.Proofs.YtlcljanibjdejaaGreat
namespace Go.Proofs.YtlcljanibjdejaaGreat
open Go.RowKit Go.Maps
/-- Cells that are laid anew lie there. -/
theorem lies_new (w : World) (cs : Array Value) (t : TypeId) (n z : Nat) (hn : n ≤ maxLen) (hz : cs.size = n * z) : Lies (w.alloc (.cells cs t)) (.slice (some ⟨w.heap.size, 0, none⟩) n n) n z cs.toList :=
  ⟨by simpa using hz, .inr (.inl ⟨_, 0, n, rfl, Nat.le_refl _, hn, fun j u hj => by
    have := lit_cells w cs t j u hj
    rw [add_zero] at this
    rw [Nat.zero_add]
    exact this⟩)⟩
end Go.Proofs.YtlcljanibjdejaaGreat
namespace Go.Proofs.YtlcljanibjdejaaGreat
open Go.RowKit Go.Maps
def chkNodeOf (n : Nd) (b : List Nd) (i : Nat) (ar : List Nd) : Int :=
  if n.name.isEmpty = true then chkText b i
  else if (emptyN n.name && decide (0 < n.kids.length)) = true then 1
  else if chkL [⟨2, n.name, n.attrs, n.text⟩] ≠ 0 then chkL [⟨2, n.name, n.attrs, n.text⟩]
  else if closedL (ar.map Nd.name) n.name < ar.length then 4 else 0
def chkNode (b : List Nd) (i : Nat) (ar : List Nd) : Int :=
  match b[i]? with
  | none => 0
  | some n => chkNodeOf n b i ar
def FitsNs : List Nd → Prop
  | [] => True
  | .mk n a _ k :: r => (n.length ≤ maxLen ∧ Fits a) ∧ FitsNs k ∧ FitsNs r
theorem fits_mem {n : Nd} : {ns : List Nd} → FitsNs ns → n ∈ ns → (n.name.length ≤ maxLen ∧ Fits n.attrs) ∧ FitsNs n.kids
  | .mk m a t k :: r, h, hm => by
    unfold FitsNs at h
    rcases List.mem_cons.1 hm with rfl | hm
    · exact ⟨h.1, h.2.1⟩
    · exact fits_mem h.2.2 hm
theorem pns_named {w : World} {B : Nat} {av : Value} {pl : List Pn} (h : w.ownsRow B 45 4 av pl.length (pnsCells pl)) : Named w av ((pl.map Pn.nd).map Nd.name) := by
  rw [List.map_map]
  rcases h.2 with ⟨e, h0⟩ | ⟨g, cap, cur, e, hb, hg, h3, h4, _⟩
  · subst e
    refine ⟨none, 0, by simp [h0], by simp [h0], by simp [maxLen], fun i hi => ?_⟩
    simp [h0] at hi
  · subst e
    refine ⟨some ⟨g, 0, none⟩, cap, by simp, by simpa using h3, h4, fun i hi => ?_⟩
    rw [List.length_map] at hi
    refine ⟨g, 0, rfl, ?_⟩
    have h9 := pn_at pl i 0 hi (by omega)
    rw [Nat.add_zero] at h9
    rw [Nat.zero_add, h.cellAt _ (by omega), h9]
    simp [pnCells]
set_option maxRecDepth 4000 in
set_option maxHeartbeats 4000000 in
theorem checkNode_any (w : World) (P : Nat → Prop) (B1 : Nat) (v : Value) (ns : List Nd) (i : Nat) (av : Value) (pl : List Pn) (hN : Ns w P v ns) (hF : FitsNs ns) (hi : i < ns.length) (hrow : w.ownsRow B1 45 4 av pl.length (pnsCells pl)) (_hpl : pl.length ≤ 2000000) :
    Calls Tryz.prog 94 #[v, .int .i64 i, av] w fun e w' => e = .returned (.int .i64 (chkNode ns i (pl.map Pn.nd))) ∧ Keeps [] w w' := by
  have hct := hide (fun (W : World) (hk : Keeps [] w W) => checkText_any W P v ns i (hN.keeps0 hk) hi)
  have hc0 : chkNode ns i (pl.map Pn.nd) = chkNodeOf ns[i] ns i (pl.map Pn.nd) := by
    unfold chkNode
    rw [List.getElem?_eq_getElem hi]
  rw [hc0]
  have hfit := (fits_mem hF (List.getElem_mem hi)).1
  cases hN with
  | mk _ l _ hns hl ha hk =>
  obtain ⟨o, c', rfl, h1, h2⟩ := hl.lies.form
  obtain ⟨ao, ac, hav9⟩ := row_form hrow
  subst hav9
  have hil : i < l.length := by rw [← hns, List.length_map] at hi; exact hi
  have hni : ns[i] = l[i].nd := by subst hns; simp
  obtain ⟨g, x, rfl, hcl⟩ := hl.lies.addr (by omega)
  obtain ⟨a0, a1, a2, a3⟩ := lies_pn hcl i hil
  have hat := ha l[i] (List.getElem_mem hil)
  obtain ⟨oa, ca, hav⟩ := hat.form
  obtain ⟨ok, ck, hkv⟩ := (hk l[i] (List.getElem_mem hil)).form
  rw [hav] at a1 hat
  rw [hkv] at a3
  rw [hni] at hfit ⊢
  have hnmd := pns_named hrow
  have hcb := hide (fun (W : World) (hk : Keeps [] w W) => closedBy_any W (.slice ao pl.length ac) ((pl.map Pn.nd).map Nd.name) l[i].nd.name (pns_named (hk.owns hrow (fun _ _ => List.not_mem_nil))))
  have hcle := closedL_le ((pl.map Pn.nd).map Nd.name) l[i].nd.name
  unfold chkNodeOf
  clear hcl hav hkv ha hk hl hc0 hni hnmd hF
  simp only [List.length_map] at hcle ⊢
  generalize closedL ((pl.map Pn.nd).map Nd.name) l[i].nd.name = CL at *
  generalize l[i].nd = nd at *
  generalize chkText ns i = CT at *
  have hie := hide (fun W => isEmpty_any nd.name W)
  have hka : Keeps [] w (w.alloc (.cells #[.string ⟨nd.name.toArray⟩, .slice oa nd.attrs.length ca, .string ⟨nd.text.toArray⟩, .slice ok nd.kids.length ck] 45)) := (Keeps.refl [] w).alloc _
  have hck := hide (fun (W : World) (hk : Keeps [] w W) => check_any (W.alloc (.cells #[.int .i64 2, .string ⟨nd.name.toArray⟩, .slice oa nd.attrs.length ca, .string ⟨nd.text.toArray⟩] 117)) (.slice (some ⟨W.heap.size, 0, none⟩) 1 1) [⟨2, nd.name, nd.attrs, nd.text⟩] ⟨[(⟨2, nd.name, nd.attrs, nd.text⟩, .slice oa nd.attrs.length ca)], rfl, lies_new W _ 117 1 4 (by decide) rfl, by intro p hp; simp at hp; subst hp; exact hat.lies.keeps (hk.trans ((Keeps.refl [] W).alloc _))⟩ (by intro t ht; simp at ht; subst ht; exact hfit))
  generalize chkL [⟨2, nd.name, nd.attrs, nd.text⟩] = E at *
  generalize emptyN nd.name = EN at *
  clear hat hfit hrow
  generalize nd.attrs.length = na at *
  generalize nd.kids.length = nk at *
  generalize nd.name = nm at *
  generalize nd.text = tx at *
  unfold maxLen at h2
  clear hns hi
  cases t0 : nm.isEmpty
  · rw [if_neg (by simp)]
    obtain ⟨W1, hW1⟩ : ∃ W1, w.alloc (.cells #[.string ⟨nm.toArray⟩, .slice oa na ca, .string ⟨tx.toArray⟩, .slice ok nk ck] 45) = W1 := ⟨_, rfl⟩
    have hbx : W1.heap[w.heap.size]? = some (.cells #[.string ⟨nm.toArray⟩, .slice oa na ca, .string ⟨tx.toArray⟩, .slice ok nk ck] 45 (0, 0)) := by rw [← hW1]; exact heap_alloc_new w _
    rw [hW1] at hka
    have HW1 := hide hW1
    clear hW1 hct
    have k0 : W1.cell? ⟨w.heap.size, 0, none⟩ = some (.string ⟨nm.toArray⟩) := cell_blk hbx 0
    have k1 : W1.cell? ⟨w.heap.size, 1, none⟩ = some (.slice oa na ca) := cell_blk hbx 1
    have k2 : W1.cell? ⟨w.heap.size, 2, none⟩ = some (.string ⟨tx.toArray⟩) := cell_blk hbx 2
    have k3 : W1.cell? ⟨w.heap.size, 3, none⟩ = some (.slice ok nk ck) := cell_blk hbx 3
    have hkb : Keeps [] w (W1.alloc (.cells #[.int .i64 2, .string ⟨nm.toArray⟩, .slice oa na ca, .string ⟨tx.toArray⟩] 117)) := hka.alloc _
    have hc1 := hck.out _ hkb
    have hsz1 : (W1.alloc (.cells #[.int .i64 2, .string ⟨nm.toArray⟩, .slice oa na ca, .string ⟨tx.toArray⟩] 117)).heap.size = W1.heap.size + 1 := by simp
    rw [hsz1] at hc1
    have HC1 := hide hc1
    clear hc1 hsz1 hck
    obtain ⟨R, hR⟩ : ∃ R, (if (EN && decide (0 < nk)) = true then (1 : Int) else if E ≠ 0 then E else if CL < pl.length then 4 else 0) = R := ⟨_, rfl⟩
    rw [hR]
    cases EN
    · rw [Bool.false_and, if_neg (by simp)] at hR
      have HR := hide hR
      clear hR
      go_enter Tryz.func94, Tryz.ntmps94
      go_wp2_with fail
      rw [HW1.out]
      refine (hie.out _).mono ?_
      rintro e w1 ⟨rfl, h1'⟩
      obtain rfl : W1 = w1 := h1'.symm
      go_wp2_with fail
      refine HC1.out.mono ?_
      rintro e w3 ⟨rfl, hk3⟩
      have hk03 := (hkb.alloc _).trans hk3
      by_cases hE : E = 0
      · subst hE
        have n3 : w3.cell? ⟨w.heap.size, 0, none⟩ = some (.string ⟨nm.toArray⟩) := cell_keeps (((Keeps.refl [] W1).alloc _).alloc _ |>.trans hk3) k0
        by_cases hC : CL < pl.length
        · have hRe : R = 4 := by rw [← HR.out, if_neg (by simp), if_pos hC]
          subst hRe
          have hCi : (CL : Int) < (pl.length : Int) := by omega
          go_wp2_with fail
          refine (hcb.out _ hk03).mono ?_
          rintro e w4 ⟨rfl, h4⟩
          obtain rfl : w3 = w4 := h4.symm
          go_wp2_with fail
          go_ret
          exact ⟨rfl, hk03⟩
        · have hRe : R = 0 := by rw [← HR.out, if_neg (by simp), if_neg hC]
          subst hRe
          have hCi : ¬ (CL : Int) < (pl.length : Int) := by omega
          go_wp2_with fail
          refine (hcb.out _ hk03).mono ?_
          rintro e w4 ⟨rfl, h4⟩
          obtain rfl : w3 = w4 := h4.symm
          go_wp2_with fail
          go_ret
          exact ⟨rfl, hk03⟩
      · have hRe : R = E := by rw [← HR.out, if_pos hE]
        subst hRe
        have hEb : (R != 0) = true := by simpa using hE
        go_wp2_with fail
        go_ret
        exact ⟨rfl, hk03⟩
    · by_cases hn : 0 < nk
      · have hnb : (true && decide (0 < nk)) = true := by simpa using hn
        rw [if_pos hnb] at hR
        subst hR
        clear hcb
        go_enter Tryz.func94, Tryz.ntmps94
        go_wp2_with fail
        rw [HW1.out]
        refine (hie.out _).mono ?_
        rintro e w1 ⟨rfl, h1'⟩
        obtain rfl : W1 = w1 := h1'.symm
        go_wp2_with fail
        go_ret
        exact ⟨rfl, hka⟩
      · have hnb : ¬ (true && decide (0 < nk)) = true := by simpa using hn
        rw [if_neg hnb] at hR
        have HR := hide hR
        clear hR hnb
        go_enter Tryz.func94, Tryz.ntmps94
        go_wp2_with fail
        rw [HW1.out]
        refine (hie.out _).mono ?_
        rintro e w1 ⟨rfl, h1'⟩
        obtain rfl : W1 = w1 := h1'.symm
        go_wp2_with fail
        refine HC1.out.mono ?_
        rintro e w3 ⟨rfl, hk3⟩
        have hk03 := (hkb.alloc _).trans hk3
        by_cases hE : E = 0
        · subst hE
          have n3 : w3.cell? ⟨w.heap.size, 0, none⟩ = some (.string ⟨nm.toArray⟩) := cell_keeps (((Keeps.refl [] W1).alloc _).alloc _ |>.trans hk3) k0
          by_cases hC : CL < pl.length
          · have hRe : R = 4 := by rw [← HR.out, if_neg (by simp), if_pos hC]
            subst hRe
            have hCi : (CL : Int) < (pl.length : Int) := by omega
            go_wp2_with fail
            refine (hcb.out _ hk03).mono ?_
            rintro e w4 ⟨rfl, h4⟩
            obtain rfl : w3 = w4 := h4.symm
            go_wp2_with fail
            go_ret
            exact ⟨rfl, hk03⟩
          · have hRe : R = 0 := by rw [← HR.out, if_neg (by simp), if_neg hC]
            subst hRe
            have hCi : ¬ (CL : Int) < (pl.length : Int) := by omega
            go_wp2_with fail
            refine (hcb.out _ hk03).mono ?_
            rintro e w4 ⟨rfl, h4⟩
            obtain rfl : w3 = w4 := h4.symm
            go_wp2_with fail
            go_ret
            exact ⟨rfl, hk03⟩
        · have hRe : R = E := by rw [← HR.out, if_pos hE]
          subst hRe
          have hEb : (R != 0) = true := by simpa using hE
          go_wp2_with fail
          go_ret
          exact ⟨rfl, hk03⟩
  · rw [if_pos rfl]
    go_enter Tryz.func94, Tryz.ntmps94
    go_wp2_with fail
    refine (hct.out _ hka).mono ?_
    rintro e w1 ⟨rfl, hk1⟩
    go_wp2_with fail
    go_ret
    exact ⟨rfl, hka.trans hk1⟩
end Go.Proofs.YtlcljanibjdejaaGreat
namespace Go.Proofs.YtlcljanibjdejaaGreat
open Go.RowKit Go.Maps
theorem enters94 : Enters 94 := enters_of Tryz.func94 (by kernel_rfl) (by kernel_rfl)
theorem enters182 : Enters 182 := enters_of Tryz.func182 (by kernel_rfl) (by kernel_rfl)
def nodeF (_ : Int) (b : List Nd) (i : Nat) (ar : List Nd) : Int × Bool := (chkNode b i ar, chkNode b i ar == 0)
/-- A function lies in a block. -/
def IsFn (w : World) (b : Nat) : Prop := w.heap[b]? = some (.cells #[.func (.func 94) #[] #[]] 129 (0, 0))
theorem IsFn.keeps {S : List Nat} {w w' : World} {b : Nat} (h : IsFn w b) (hk : Keeps S w w') (hb : b ∉ S) : IsFn w' b := by
  unfold IsFn at *
  rw [hk.block b (lt_of_block h) hb]; exact h
set_option maxRecDepth 4000 in
set_option maxHeartbeats 2000000 in
theorem check1_any (P : Nat → Prop) (B1 b c : Nat) (s : Int) (w : World) (v : Value) (ns : List Nd) (i : Nat) (av : Value) (pl : List Pn) (hbc : b ≠ c) (hf : IsFn w b) (hI : IsNum w c 22 s) (hN : Ns w P v ns) (hF : FitsNs ns) (hi : i < ns.length) (hrow : w.ownsRow B1 45 4 av pl.length (pnsCells pl)) (hpl : pl.length ≤ 2000000) :
    Calls Tryz.prog 182 #[v, .int .i64 i, av, .pointer (some ⟨b, 0, none⟩), .pointer (some ⟨c, 0, none⟩)] w fun e w' => e = .returned (.bool (chkNode ns i (pl.map Pn.nd) == 0)) ∧ (IsFn w' b ∧ IsNum w' c 22 (chkNode ns i (pl.map Pn.nd))) ∧ Keeps [c] w w' := by
  have hcn := hide (checkNode_any w P B1 v ns i av pl hN hF hi hrow hpl)
  generalize chkNode ns i (pl.map Pn.nd) = E at *
  obtain ⟨o, c', hv⟩ := hN.form
  subst hv
  obtain ⟨ao, ac, hav⟩ := row_form hrow
  subst hav
  have k0 : w.cell? ⟨b, 0, none⟩ = some (.func (.func 94) #[] #[]) := cell_blk hf 0
  have hE := enters94
  unfold Enters at hE
  clear hN hrow hF
  go_enter Tryz.func182, Tryz.ntmps182
  go_wp2_with fail
  refine hcn.out.mono ?_
  rintro e w1 ⟨rfl, hk1⟩
  have hf1 := hf.keeps hk1 List.not_mem_nil
  have hI1 := hI.keeps hk1 List.not_mem_nil
  have n0 : w1.cell? ⟨c, 0, none⟩ = some (.int .i64 s) := cell_blk hI1 0
  have n1 : w1.frozen? ⟨c, 0, none⟩ = false := free_blk hI1 0
  clear hcn
  go_wp2_with fail
  go_ret
  have hks : Keeps [c] w1 (w1.setCell ⟨c, 0, none⟩ (.int .i64 E)) := (Keeps.refl [c] w1).setCell (.inl (by simp)) _
  exact ⟨rfl, ⟨hf1.keeps hks (by simpa using hbc), hI1.set E⟩, keeps_within (hk1.to (T := [c]) (by simp)) hks (fun g hg _ => hg)⟩
theorem check_vis (b c B1 : Nat) (hb : b < c) (h : c < B1) : Vis 182 #[.pointer (some ⟨b, 0, none⟩), .pointer (some ⟨c, 0, none⟩)] nodeF (fun s w => IsFn w b ∧ IsNum w c 22 s) [c] B1 (fun g => g < b) FitsNs where
  call s w v ns i av pl hI hN hF hi hrow hpl _ := check1_any _ B1 b c s w v ns i av pl (by omega) hI.1 hI.2 hN hF hi hrow hpl
  stable s w w' L hL hI hk := ⟨hI.1.keeps hk (fun hm => by have := hL b hm; omega), hI.2.keeps hk (fun hm => by have := hL c hm; omega)⟩
  down ns hF n hn := (fits_mem hF hn).2
  low g hg := by simp at hg; omega
  enters := enters182
  part g hg := ⟨by omega, by simp; omega⟩
/-- What Check answers of a tree. -/
def chkTree (ns : List Nd) : Int := if (walkL fitsF ns ns 0 [] 0).2 = true then (walkL nodeF ns ns 0 [] 0).1 else 2
set_option maxRecDepth 4000 in
set_option maxHeartbeats 2000000 in
theorem nodesCheck_any (w : World) (P : Nat → Prop) (v : Value) (ns : List Nd) (h : Ns w P v ns) (hsz : sizeNs ns ≤ 2000000) (hF : FitsNs ns) :
    Calls Tryz.prog 93 #[v, .func (.func 94) #[] #[]] w fun e w' => e = .returned (.int .i64 (chkTree ns)) ∧ Keeps [] w w' := by
  unfold chkTree
  have hka : Keeps [] w (w.alloc (.cells #[.func (.func 94) #[] #[]] 129)) := (Keeps.refl [] w).alloc _
  have hbx : IsFn (w.alloc (.cells #[.func (.func 94) #[] #[]] 129)) w.heap.size := heap_alloc_new w _
  obtain ⟨W, hW⟩ : ∃ W, w.alloc (.cells #[.func (.func 94) #[] #[]] 129) = W := ⟨_, rfl⟩
  rw [hW] at hka hbx
  have HW := hide hW
  clear hW
  have hfi := hide (fits_any W P v ns (h.keeps0 hka) hsz)
  have hlow : Ns w (fun g => g < w.heap.size) v ns := h.lt
  have hlt : w.heap.size < W.heap.size := lt_of_block hbx
  have hwk := hide (fun (W1 : World) (hk1 : Keeps [] W W1) => Walk_any (check_vis w.heap.size W1.heap.size (W1.heap.size + 1) (Nat.lt_of_lt_of_le hlt hk1.size) (by omega)) (W1.alloc (.cells #[.int .i64 0] 22)) v ns (hlow.keeps0 ((hka.trans hk1).alloc _)) 0 ⟨(hbx.keeps hk1 List.not_mem_nil).keeps ((Keeps.refl [] W1).alloc _) List.not_mem_nil, heap_alloc_new W1 _⟩ (by simp) hsz hF)
  generalize walkL nodeF ns ns 0 [] 0 = R at *
  obtain ⟨o, c', hv⟩ := h.form
  subst hv
  clear hlow h
  cases hb : (walkL fitsF ns ns 0 [] 0).2
  · rw [hb] at hfi
    rw [if_neg (by simp)]
    clear hb hwk
    go_enter Tryz.func93, Tryz.ntmps93
    go_wp2_with fail
    rw [HW.out]
    refine hfi.out.mono ?_
    rintro e w1 ⟨rfl, hk1⟩
    go_wp2_with fail
    go_ret
    exact ⟨rfl, hka.trans hk1⟩
  · rw [hb] at hfi
    rw [if_pos rfl]
    clear hb
    go_enter Tryz.func93, Tryz.ntmps93
    go_wp2_with fail
    rw [HW.out]
    refine hfi.out.mono ?_
    rintro e w1 ⟨rfl, hk1⟩
    go_wp2_with fail
    refine (hwk.out w1 hk1).mono ?_
    rintro e w2 ⟨rfl, ⟨_, hn2⟩, hk2⟩
    have n0 : w2.cell? ⟨w1.heap.size, 0, none⟩ = some (.int .i64 R.1) := cell_blk hn2 0
    go_wp2_with fail
    go_ret
    refine ⟨rfl, keeps_within ((hka.trans hk1).alloc _) hk2 (fun g hg hlt2 => ?_)⟩
    simp at hg
    have := hka.size
    have := hk1.size
    omega
theorem treeCheck_any (w : World) (P : Nat → Prop) (v : Value) (ns : List Nd) (h : Ns w P v ns) (hsz : sizeNs ns ≤ 2000000) (hF : FitsNs ns) :
    Calls Tryz.prog 26 #[v] w fun e w' => e = .returned (.int .i64 (chkTree ns)) ∧ Keeps [] w w' := by
  have hc := hide (nodesCheck_any w P v ns h hsz hF)
  generalize chkTree ns = R at *
  obtain ⟨o, c', hv⟩ := h.form
  subst hv
  clear h
  go_enter Tryz.func26, Tryz.ntmps26
  go_wp2_with fail
  refine hc.out.mono ?_
  rintro e w1 ⟨rfl, hk1⟩
  go_wp2_with fail
  go_ret
  exact ⟨rfl, hk1⟩
end Go.Proofs.YtlcljanibjdejaaGreat
namespace Go.Proofs.YtlcljanibjdejaaGreat
open Go.RowKit Go.Maps
/-- An append onto a row of one's own, and where the row lies then. -/
theorem wpList_append_own_at9 {P : Program} (w : World) {ops : Array Oper} {rest : List Oper} {o : Oper} {a : Act} {Q : Exit → Act → World → Prop} (hgd : o.guard = none) (s x : Operand) (t : TypeId)
    (ho : o.op = .call { callee := .builtin .append, args := #[s, x], argTypes := #[t, t] })
    (base : Nat) (e : TypeId) (i : TypeInfo) (z : Value) (size bytes : Nat) (ht : P.underlying t = some (.slice e)) (hi : P.info? e = some i) (hz : i.zero = some z)
    (hsize : i.size = size) (hby : i.bytes = bytes) (hzs : z.cells.size = size) (hsz : 0 < size)
    (v : Value) (n : Nat) (xs : List Value) (hs : a.eval s = v) (hown : w.ownsRow base e size v n xs)
    (ad : Addr) (m c : Nat) (news : List Value) (hx : a.eval x = .slice (some ad) m c) (hl : news.length = m * size) (hnews : ∀ j u, news[j]? = some u → w.cell? (ad.add j) = some u) (h1 : ∀ u ∈ news, u.oneCell' = true)
    (h63 : n + m ≤ maxLen) (hbytes : (n + m) * bytes ≤ 140737488355328) (hbase : base ≤ w.heap.size)
    (h : ∀ v' w', w'.ownsRow base e size v' (n + m) (xs ++ news) → w.grownBy w' v.ownBlock → (v'.ownBlock = v.ownBlock ∨ v'.ownBlock = some w.heap.size) → wpList P ops Q rest (a.put o.dst v') w') : wpList P ops Q (o :: rest) a w := by
  refine wpList_plain hgd fun K hK => ?_
  obtain ⟨v', w', hr, h2, h3, _, h5⟩ := run_append_own_at (P := P) w base t o.type e i z size bytes ht hi hz hsize hby hzs hsz v n xs hown ad m c news hl hnews h1 h63 hbytes hbase
  unfold Oper.wp execOp
  simp only [ho, resolve, invoke, builtin, Sem.run_bind, Sem.run_pure, Result.andThen_ok, List.map_toArray, List.map_cons, List.map_nil, hs, hx, hr]
  exact hK _ _ (h v' w' h2 h3 h5)
/-- Tokens that are put one behind the other, and the slice of them in a block. -/
structure IsOut (w : World) (B b : Nat) (outv : Value) (l : List (Tok × Value)) : Prop where
  blk : w.heap[b]? = some (.cells #[outv] 26 (0, 0))
  row : w.ownsRow B 117 4 outv l.length (outCells l)
  attrs : ∀ p ∈ l, HasAttrs w B p
  hb : B ≤ b
def tO (b : Nat) (outv : Value) : List Nat := b :: outv.ownBlock.toList
theorem IsOut.lt {w : World} {B b : Nat} {outv : Value} {l : List (Tok × Value)} (h : IsOut w B b outv l) : b < w.heap.size := lt_of_block h.blk
theorem IsOut.ge {w : World} {B b : Nat} {outv : Value} {l : List (Tok × Value)} (h : IsOut w B b outv l) : ∀ g, g ∈ tO b outv → B ≤ g ∧ g < w.heap.size := by
  intro g hg
  simp [tO] at hg
  rcases hg with rfl | hg
  · exact ⟨h.hb, h.lt⟩
  · exact h.row.lt g hg
theorem IsOut.keepsNil {w w' : World} {B b : Nat} {outv : Value} {l : List (Tok × Value)} (h : IsOut w B b outv l) (hk : Keeps [] w w') : IsOut w' B b outv l :=
  ⟨by rw [hk.block b h.lt List.not_mem_nil]; exact h.blk, hk.owns h.row (fun _ _ => List.not_mem_nil), fun p hp => hk.owns (h.attrs p hp) (fun _ _ => List.not_mem_nil), h.hb⟩
/-- One more is put. -/
theorem IsOut.grow {w w3 : World} {B b : Nat} {outv : Value} {l : List (Tok × Value)} (h : IsOut w B b outv l) (hk : Keeps outv.ownBlock.toList w w3) {v3 : Value} {p : Tok × Value} (ho : w3.ownsRow B 117 4 v3 (l.length + 1) (outCells l ++ tokCells p)) (hw : v3.ownBlock = outv.ownBlock ∨ ∃ n, v3.ownBlock = some n ∧ w.heap.size ≤ n) (hp : HasAttrs w B p) :
    IsOut (w3.setCell ⟨b, 0, none⟩ v3) B b v3 (l ++ [p]) ∧ Stp w (tO b outv) (w3.setCell ⟨b, 0, none⟩ v3) (tO b v3) := by
  have hbo : b ∉ outv.ownBlock.toList := fun hm => block_ne h.row h.blk (by decide) (by simpa using hm)
  have hblk3 : w3.heap[b]? = some (.cells #[outv] 26 (0, 0)) := by rw [hk.block b h.lt hbo]; exact h.blk
  have hks : Keeps [b] w3 (w3.setCell ⟨b, 0, none⟩ v3) := (Keeps.refl [b] w3).setCell (.inl (by simp)) _
  have hat : ∀ q, HasAttrs w B q → HasAttrs (w3.setCell ⟨b, 0, none⟩ v3) B q := fun q hq => by
    have h3 : HasAttrs w3 B q := hk.owns hq (fun g hg hm => rows_apart hq h.row (by decide) hg (by simpa using hm))
    exact hks.owns h3 (fun g hg hm => by simp at hm; subst hm; exact block_ne h3 hblk3 (by decide) hg)
  refine ⟨⟨by simp [World.setCell, Array.getElem?_modify, hblk3], ?_, ?_, h.hb⟩, ?_, ?_⟩
  · rw [outCells_add, List.length_append]
    exact hks.owns ho (fun g hg hm => by simp at hm; subst hm; exact block_ne ho hblk3 (by decide) hg)
  · intro q hq
    rcases List.mem_append.1 hq with hq | hq
    · exact hat q (h.attrs q hq)
    · simp at hq
      subst hq
      exact hat q hp
  · exact (hk.to (T := tO b outv) (fun g hg => by simp [tO] at hg ⊢; exact .inr hg)).trans (hks.to (fun g hg => by simp [tO] at hg ⊢; exact .inl hg))
  · intro g hg hlt
    simp [tO] at hg ⊢
    rcases hg with hg | hg
    · exact .inl hg
    · rcases hw with hw | ⟨n, hw, hn⟩
      · exact .inr (hw ▸ hg)
      · rw [hw] at hg; simp at hg; omega
set_option maxRecDepth 4000 in
set_option maxHeartbeats 4000000 in
theorem put82_any (B b : Nat) (outv : Value) (l : List (Tok × Value)) (w : World) (h : IsOut w B b outv l) (hl : l.length ≤ 4000000) (kd : Int) (nm tx : List UInt8) (la : List Pair) (o : Option Addr) (n c : Nat) (hp : HasAttrs w B (⟨kd, nm, la, tx⟩, .slice o n c)) :
    Calls Tryz.prog 115 #[.agg #[.int .i64 kd, .string ⟨nm.toArray⟩, .slice o n c, .string ⟨tx.toArray⟩], .pointer (some ⟨b, 0, none⟩)] w fun e w' =>
      e = .returned (.tuple #[]) ∧ ∃ v3, IsOut w' B b v3 (l ++ [(⟨kd, nm, la, tx⟩, .slice o n c)]) ∧ Stp w (tO b outv) w' (tO b v3) := by
  obtain ⟨i0, hi, hz0, hz1, hz2⟩ := info_parts info43
  have hka : Keeps [] w (w.alloc (.cells #[.int .i64 kd, .string ⟨nm.toArray⟩, .slice o n c, .string ⟨tx.toArray⟩] 117)) := (Keeps.refl [] w).alloc _
  have hbx : IsTok (w.alloc (.cells #[.int .i64 kd, .string ⟨nm.toArray⟩, .slice o n c, .string ⟨tx.toArray⟩] 117)) w.heap.size (⟨kd, nm, la, tx⟩, .slice o n c) := heap_alloc_new w _
  obtain ⟨W, hW⟩ : ∃ W, w.alloc (.cells #[.int .i64 kd, .string ⟨nm.toArray⟩, .slice o n c, .string ⟨tx.toArray⟩] 117) = W := ⟨_, rfl⟩
  rw [hW] at hka hbx
  have h1 := h.keepsNil hka
  have hp1 : HasAttrs W B _ := hka.owns hp (fun _ _ => List.not_mem_nil)
  have c0 : W.cell? ⟨b, 0, none⟩ = some outv := cell_blk h1.blk 0
  have b0 := hbx.cell 0
  have b1 := hbx.cell 1
  have b2 := hbx.cell 2
  have b3 := hbx.cell 3
  simp at b0 b1 b2 b3
  have hBW : B ≤ W.heap.size := Nat.le_trans h1.hb (Nat.le_of_lt h1.lt)
  obtain ⟨oo, oc, hov⟩ := row_form h1.row
  subst hov
  have HW := hide hW
  have hrow := h1.row
  clear hW
  go_enter Tryz.func115, Tryz.ntmps115
  go_upto_region 1 with fail
  rw [HW.out]
  go_wp2_with (at_builtin; refine wpList_append_own_at9 _ rfl _ _ 26 rfl B 117 i0 _ 4 64 Tryz.underlying26 hi hz0 hz1 hz2 (by kernel_rfl) (by decide) (.slice oo l.length oc) l.length (outCells l) rfl (hrow.alloc _) ⟨W.heap.size, 0, none⟩ 1 1 (tokCells (⟨kd, nm, la, tx⟩, .slice o n c)) rfl rfl ?c1 ?c2 ?c3 ?c4 ?c5 ?_)
  case c1 => exact lit_cells W _ 117
  case c2 => exact one_cells rfl
  case c3 => unfold maxLen; omega
  case c4 => omega
  case c5 => exact Nat.le_trans hBW (by simp)
  intro v3 w3 ho3 hg3 hw3
  obtain ⟨o3, c3, hv3⟩ := row_form ho3
  subst hv3
  have hk3 : Keeps (Value.slice oo l.length oc).ownBlock.toList W w3 := ((Keeps.refl _ W).alloc _).grown hg3 (fun i e => .inl (by simp [e]))
  have hbo : b ∉ (Value.slice oo l.length oc).ownBlock.toList := fun hm => block_ne h1.row h1.blk (by decide) (by simpa using hm)
  have hblk3 := (hk3.block b h1.lt hbo).trans h1.blk
  have d0 : w3.cell? ⟨b, 0, none⟩ = some (.slice oo l.length oc) := cell_blk hblk3 0
  have d1 : w3.frozen? ⟨b, 0, none⟩ = false := free_blk hblk3 0
  go_wp2_with fail
  go_end0
  have hw4 : (Value.slice o3 (l.length + 1) c3).ownBlock = (Value.slice oo l.length oc).ownBlock ∨ ∃ k, (Value.slice o3 (l.length + 1) c3).ownBlock = some k ∧ W.heap.size ≤ k := by
    rcases hw3 with hw3 | hw3
    · exact .inl hw3
    · exact .inr ⟨_, hw3, by simp⟩
  have hfin := h1.grow hk3 ho3 hw4 hp1
  exact ⟨rfl, _, hfin.1, (Stp.nil hka _).trans hfin.2⟩
end Go.Proofs.YtlcljanibjdejaaGreat
namespace Go.Proofs.YtlcljanibjdejaaGreat
open Go.RowKit Go.Maps
theorem enters115 : Enters 115 := enters_of Tryz.func115 (by kernel_rfl) (by kernel_rfl)
/-- The tokens of nodes. -/
def flatL : List Nd → List Tok
  | [] => []
  | .mk n a t k :: r => (if n.isEmpty = true then [⟨1, [], [], t⟩] else ⟨2, n, a, []⟩ :: (flatL k ++ if emptyN n = true then [] else [⟨3, n, [], []⟩])) ++ flatL r
theorem flatL_cons (n : Nd) (r : List Nd) : flatL (n :: r) = (if n.name.isEmpty = true then [⟨1, [], [], n.text⟩] else ⟨2, n.name, n.attrs, []⟩ :: (flatL n.kids ++ if emptyN n.name = true then [] else [⟨3, n.name, [], []⟩])) ++ flatL r := by
  obtain ⟨n, a, t, k⟩ := n
  rw [flatL]
  rfl
theorem flatL_len : (ns : List Nd) → (flatL ns).length ≤ 2 * sizeNs ns
  | [] => by simp [flatL]
  | .mk n a t k :: r => by
    have h1 := flatL_len k
    have h2 := flatL_len r
    rw [flatL, sizeNs, List.length_append]
    split
    · simp; omega
    · split <;> simp <;> omega
/-- Attributes of all nodes are few. -/
def FewNs : List Nd → Prop
  | [] => True
  | .mk _ a _ k :: r => a.length ≤ 2000000 ∧ FewNs k ∧ FewNs r
theorem few_mem {n : Nd} : {ns : List Nd} → FewNs ns → n ∈ ns → n.attrs.length ≤ 2000000 ∧ FewNs n.kids
  | .mk m a t k :: r, h, hm => by
    unfold FewNs at h
    rcases List.mem_cons.1 hm with rfl | hm
    · exact ⟨h.1, h.2.1⟩
    · exact few_mem h.2.2 hm
set_option maxRecDepth 8000 in
set_option maxHeartbeats 8000000 in
theorem flat_all (B b : Nat) (w0 : World) (v : Value) (ns : List Nd) (h : Ns w0 (fun g => g < B) v ns) : ∀ (w : World) (L : List Nat), Keeps L w0 w → (∀ g, g ∈ L → B ≤ g) → ∀ (outv : Value) (l : List (Tok × Value)), IsOut w B b outv l → l.length + 2 * sizeNs ns ≤ 4000000 → FewNs ns →
    Calls Tryz.prog 114 #[v, .func (.func 115) #[] #[.pointer (some ⟨b, 0, none⟩)]] w fun e w' => e = .returned (.tuple #[]) ∧ ∃ v' l', l'.map (·.1) = l.map (·.1) ++ flatL ns ∧ IsOut w' B b v' l' ∧ Stp w (tO b outv) w' (tO b v') := by
  induction h with
  | mk v nl ns hns hl ha hk ih =>
    intro w L hkw hPL outv l hO hsz hFew
    have hlw := hl.keeps hkw (fun g hg hm => by have := hPL g hm; omega)
    obtain ⟨o, c, rfl, h1, h2⟩ := hlw.lies.form
    unfold maxLen at h2
    obtain ⟨R, hR⟩ : ∃ R, l.map (·.1) ++ flatL ns = R := ⟨_, rfl⟩
    rw [hR]
    have hll : nl.length = ns.length := by rw [← hns, List.length_map]
    have hE := enters115
    unfold Enters at hE
    have HL := hide hlw
    have HI := hide ih
    have HKW := hide hkw
    have HR := hide hR
    have Hns := hide hns
    have Hll := hide hll
    have Hsz := hide hsz
    have HA := hide ha
    have HPL := hide hPL
    have HFew := hide hFew
    have HKD := hide hk
    have HO := hide hO
    clear hlw ih hkw hR hns hll hsz hl ha hk hPL hFew hO
    go_enter Tryz.func114, Tryz.ntmps114
    go_wp2_with fail
    go_loopw [8] (fun i wr => ∃ (k : Nat), k ≤ nl.length ∧ i = .int .i64 k ∧ Hid (∃ v' l', l'.map (·.1) ++ flatL (ns.drop k) = R ∧ l'.length + 2 * sizeNs (ns.drop k) ≤ 4000000 ∧ IsOut wr B b v' l' ∧ Stp w (tO b outv) wr (tO b v'))) (fun i _ => nl.length - (intOf i).toNat)
    case atStart => exact ⟨0, Nat.zero_le _, rfl, outv, l, HR.out, Hsz.out, HO.out, Stp.refl _ _⟩
    case round =>
      obtain ⟨k, hk, rfl, hrel⟩ := hrel
      clear HR
      obtain ⟨v', l', hf, hz, hO', hS'⟩ := hrel.out
      by_cases hlt : k < nl.length
      · have hge := HO.out.ge
        have hkr : Keeps (tO b outv) w wr := hS'.1
        have hPc : ∀ g, g < B → g ∉ tO b outv := fun g hg hm => by have := (hge g hm).1; omega
        obtain ⟨g, x, hoo, hcl⟩ := (HL.out.keeps hkr hPc).lies.addr (by omega)
        subst hoo
        obtain ⟨a0, a1, a2, a3⟩ := lies_pn hcl k hlt
        have hkn : k < ns.length := by rw [← Hll.out]; exact hlt
        have hpn : nl[k].nd = ns[k] := by
          have h9 : (nl.map Pn.nd)[k]? = ns[k]? := by rw [Hns.out]
          simpa [List.getElem?_eq_getElem hlt, List.getElem?_eq_getElem hkn] using h9
        rw [List.drop_eq_getElem_cons hkn, flatL_cons, ← hpn] at hf
        rw [List.drop_eq_getElem_cons hkn, sizeNs_cons, ← hpn] at hz
        have hpk := HI.out nl[k] (List.getElem_mem hlt)
        have hak := (((HA.out nl[k] (List.getElem_mem hlt)).keeps HKW.out (fun g hg hm => by have := HPL.out g hm; omega)).keeps hkr hPc)
        have hfew := few_mem HFew.out (n := nl[k].nd) (by rw [hpn]; exact List.getElem_mem hkn)
        have hkf := (HKD.out nl[k] (List.getElem_mem hlt)).form
        clear hcl
        generalize nl[k] = p at *
        obtain ⟨nd, pav, pkv⟩ := p
        simp only at a0 a1 a2 a3 hf hz hpk hak hfew hkf
        clear hpn
        obtain ⟨qo, qc, hq⟩ := hak.form
        subst hq
        obtain ⟨ko, kc, hkv⟩ := hkf
        subst hkv
        obtain ⟨Wb, hWb⟩ : ∃ Wb, wr.alloc (.cells #[.string ⟨nd.name.toArray⟩, .slice qo nd.attrs.length qc, .string ⟨nd.text.toArray⟩, .slice ko nd.kids.length kc] 45) = Wb := ⟨_, rfl⟩
        have hka : Keeps [] wr Wb := by rw [← hWb]; exact (Keeps.refl [] wr).alloc _
        have hbx : Wb.heap[wr.heap.size]? = some (.cells #[.string ⟨nd.name.toArray⟩, .slice qo nd.attrs.length qc, .string ⟨nd.text.toArray⟩, .slice ko nd.kids.length kc] 45 (0, 0)) := by rw [← hWb]; exact heap_alloc_new wr _
        have hOb := hO'.keepsNil hka
        have hSb := hS'.trans (Stp.nil hka (tO b v'))
        have hboxo : ∀ (Wx : World) (v2 : Value), Stp Wb (tO b v') Wx (tO b v2) → Wx.heap[wr.heap.size]? = some (.cells #[.string ⟨nd.name.toArray⟩, .slice qo nd.attrs.length qc, .string ⟨nd.text.toArray⟩, .slice ko nd.kids.length kc] 45 (0, 0)) := fun Wx v2 hs =>
          (hs.1.block _ (lt_of_block hbx) (fun hm => by have := (hO'.ge _ hm).2; omega)).trans hbx
        have HBX := hide hboxo
        have hakb := hak.keeps hka (fun _ _ => List.not_mem_nil)
        have k0 : Wb.cell? ⟨wr.heap.size, 0, none⟩ = some (.string ⟨nd.name.toArray⟩) := cell_blk hbx 0
        have k1 : Wb.cell? ⟨wr.heap.size, 1, none⟩ = some (.slice qo nd.attrs.length qc) := cell_blk hbx 1
        have k2 : Wb.cell? ⟨wr.heap.size, 2, none⟩ = some (.string ⟨nd.text.toArray⟩) := cell_blk hbx 2
        have Hf := hide hf
        have Hz := hide hz
        have HWb := hide hWb
        clear hf hz hWb hrel hboxo
        have hll' : l'.length ≤ 4000000 := by have := Hz.out; omega
        cases t0 : nd.name.isEmpty
        · have hcp := hide (fun (W' : World) (hk' : Keeps [] Wb W') => copied_any W' _ nd.attrs (hakb.lies.keeps hk') hfew.1)
          have hBb : B ≤ Wb.heap.size := Nat.le_trans hOb.hb (Nat.le_of_lt hOb.lt)
          have hput := hide (fun (W' : World) (hk' : Keeps [] Wb W') (o9 : Option Addr) (n9 c9 : Nat) (hp9 : HasAttrs W' B (⟨2, nd.name, nd.attrs, []⟩, .slice o9 n9 c9)) => put82_any B b v' l' W' (hOb.keepsNil hk') hll' 2 nd.name [] nd.attrs o9 n9 c9 hp9)
          go_upto_region 5 with fail
          rw [HWb.out]
          go_cut [] from 20 to 27 (fun wc => ∃ v3 av3, IsOut wc B b v3 (l' ++ [(⟨2, nd.name, nd.attrs, []⟩, av3)]) ∧ Stp Wb (tO b v') wc (tO b v3))
          case first =>
            go_region_law (first
              | (refine step_call rfl 165 _ _ rfl enters165 #[.slice qo nd.attrs.length qc] (by simp [Act.eval]) (hcp.out _ ((Keeps.refl [] _).drew)) ?_; rintro e w2 ⟨v2, rfl, ho2, hk2⟩; obtain ⟨o2, c2, hv2⟩ := row_form ho2; subst hv2; refine ⟨_, rfl, ?_⟩; have x0 := cell_keeps hk2 k0; have hp2 : HasAttrs w2 B (⟨2, nd.name, nd.attrs, []⟩, .slice o2 nd.attrs.length c2) := ho2.mono hBb)
              | (refine step_callv (by simp [Region.wanted]) (.tmp 20) _ _ rfl 115 #[.pointer (some ⟨b, 0, none⟩)] rfl enters115 #[.agg #[.int .i64 2, .string ⟨nd.name.toArray⟩, .slice o2 nd.attrs.length c2, .string ⟨#[]⟩]] (by first | (simp [Act.eval]; done) | (simp [Act.eval, Act.put]; done)) (hput.out w2 (((Keeps.refl [] _).drew).trans hk2) _ _ _ hp2) ?_; rintro e w3 ⟨rfl, v3, hO3, hS3⟩; refine ⟨_, rfl, ?_⟩))
            all_goals go_wp2
            all_goals go_meet
            all_goals exact ⟨v3, _, hO3, (Stp.nil (((Keeps.refl [] _).drew).trans hk2) _).trans hS3⟩
          case rest =>
            obtain ⟨v3, av3, hO3, hS3⟩ := hcut
            clear hcp hput
            have hbx3 := HBX.out wc v3 hS3
            have m3 : wc.cell? ⟨wr.heap.size, 3, none⟩ = some (.slice ko nd.kids.length kc) := cell_blk hbx3 3
            have hrec := hide (hpk wc (L ++ tO b outv) ((HKW.out.to (fun g hg => List.mem_append_left _ hg)).trans ((hSb.trans hS3).1.to (fun g hg => List.mem_append_right _ hg))) (fun g hg => (List.mem_append.1 hg).elim (HPL.out g) (fun h9 => (hge g h9).1)) v3 _ hO3 (by have := Hz.out; simp; omega) hfew.2)
            go_wp2_with fail
            refine hrec.out.mono ?_
            rintro e w4 ⟨rfl, v4, l4, hl4, hO4, hS4⟩
            have hbx4 := HBX.out w4 v4 (hS3.trans hS4)
            have m0 : w4.cell? ⟨wr.heap.size, 0, none⟩ = some (.string ⟨nd.name.toArray⟩) := cell_blk hbx4 0
            have hie := hide (fun W' => isEmpty_any nd.name W')
            have hl4l : l4.length = l'.length + 1 + (flatL nd.kids).length := by
              have h9 := congrArg List.length hl4
              simp only [List.length_map, List.length_append, List.length_singleton] at h9
              exact h9
            have hfl := flatL_len nd.kids
            have Hl4 := hide hl4
            clear hrec hl4
            have hl4b : l4.length ≤ 4000000 := by have := Hz.out; omega
            have hS04 := (hSb.trans hS3).trans hS4
            cases t1 : emptyN nd.name
            · rw [t1] at hie
              have hput := hide (put82_any B b v4 l4 w4 hO4 hl4b 3 nd.name [] [] none 0 0 (World.ownsRow_nil _ _ _ _))
              go_wp2_with fail
              refine (hie.out _).mono ?_
              rintro e w5 ⟨rfl, h5⟩
              obtain rfl : w4 = w5 := h5.symm
              go_wp2_with fail
              refine hput.out.mono ?_
              rintro e w6 ⟨rfl, v6, hO6, hS6⟩
              go_wp2_with fail
              go_roundw
              case rel =>
                refine ⟨k + 1, by omega, by go_num, v6, _, ?_, ?_, hO6, hS04.trans hS6⟩
                · have h9 := Hf.out
                  rw [if_neg (by rw [t0]; simp), if_neg (by rw [t1]; simp)] at h9
                  rw [← h9, List.map_append, Hl4.out]
                  simp
                · have := Hz.out
                  simp
                  omega
              case measure => simp [intOf]; omega
            · rw [t1] at hie
              go_wp2_with fail
              refine (hie.out _).mono ?_
              rintro e w5 ⟨rfl, h5⟩
              obtain rfl : w4 = w5 := h5.symm
              go_wp2_with fail
              go_roundw
              case rel =>
                refine ⟨k + 1, by omega, by go_num, v4, _, ?_, ?_, hO4, hS04⟩
                · have h9 := Hf.out
                  rw [if_neg (by rw [t0]; simp), if_pos t1] at h9
                  rw [← h9, Hl4.out]
                  simp
                · have := Hz.out
                  omega
              case measure => simp [intOf]; omega
        · have hput := hide (put82_any B b v' l' Wb hOb hll' 1 [] nd.text [] none 0 0 (World.ownsRow_nil _ _ _ _))
          go_upto_region 4 with fail
          rw [HWb.out]
          go_wp2_with fail
          refine hput.out.mono ?_
          rintro e w2 ⟨rfl, v3, hO3, hS3⟩
          go_wp2_with fail
          go_roundw
          case rel =>
            refine ⟨k + 1, by omega, by go_num, v3, _, ?_, ?_, hO3, hSb.trans hS3⟩
            · have h9 := Hf.out
              rw [if_pos t0] at h9
              simpa using h9
            · have := Hz.out
              simp
              omega
          case measure => simp [intOf]; omega
      · have hke : k = nl.length := by omega
        subst hke
        go_wp2_with fail
        go_end0
        refine ⟨rfl, v', l', ?_, hO', hS'⟩
        rw [Hll.out, List.drop_length] at hf
        simpa [flatL] using hf
set_option maxRecDepth 4000 in
set_option maxHeartbeats 4000000 in
theorem treeFlat_any (w : World) (P : Nat → Prop) (v : Value) (ns : List Nd) (h : Ns w P v ns) (hsz : sizeNs ns ≤ 2000000) (hF : FitsNs ns) (hFew : FewNs ns) :
    Calls Tryz.prog 38 #[v] w fun e w' => ∃ v', e = .returned (.tuple #[v', .int .i64 (chkTree ns)]) ∧ (∃ n c a, v' = .slice a n c ∧ n = if chkTree ns = 0 then (flatL ns).length else 0) ∧ Toks w' v' (if chkTree ns = 0 then flatL ns else []) ∧ Keeps [] w w' := by
  have hck := hide (treeCheck_any w P v ns h hsz hF)
  have hfl := hide (fun (w1 : World) (hk1 : Keeps [] w w1) => flat_all w1.heap.size w1.heap.size w1 v ns ((h.keeps0 hk1).lt) (w1.alloc (.cells #[.slice none 0 0] 26)) [] ((Keeps.refl [] w1).alloc _) (by simp) (.slice none 0 0) [] ⟨heap_alloc_new w1 _, World.ownsRow_nil _ _ _ _, by simp, Nat.le_refl _⟩ (by simp; omega) hFew)
  obtain ⟨o, c', hv⟩ := h.form
  subst hv
  generalize chkTree ns = E at *
  clear h
  by_cases hE : E = 0
  · subst hE
    rw [if_pos rfl, if_pos rfl]
    go_enter Tryz.func38, Tryz.ntmps38
    go_wp2_with fail
    refine hck.out.mono ?_
    rintro e w1 ⟨rfl, hk1⟩
    go_wp2_with fail
    refine (hfl.out w1 hk1).mono ?_
    rintro e w2 ⟨rfl, v2, l2, hl2, hO2, hS2⟩
    have n0 : w2.cell? ⟨w1.heap.size, 0, none⟩ = some v2 := cell_blk hO2.blk 0
    obtain ⟨o2, c2, hv2⟩ := row_form hO2.row
    subst hv2
    have hll := congrArg List.length hl2
    simp only [List.length_map, List.map_nil, List.nil_append] at hll hl2
    have hts : Toks w2 (.slice o2 l2.length c2) (flatL ns) := ⟨l2, hl2, Lies.of_row hO2.row, fun p hp => Lies.of_row (hO2.attrs p hp)⟩
    have hkf : Keeps [] w w2 := keeps_within (hk1.alloc _) hS2.1 (fun g hg hlt => by simp [tO, Value.ownBlock] at hg; have := hk1.size; omega)
    rw [hll] at n0 hts
    clear hck hfl hl2 hll hO2
    go_wp2_with fail
    go_ret2
    exact ⟨_, rfl, ⟨_, _, _, rfl, rfl⟩, hts, hkf⟩
  · rw [if_neg hE, if_neg hE]
    have hEb : (E != 0) = true := by simpa using hE
    go_enter Tryz.func38, Tryz.ntmps38
    go_wp2_with fail
    refine hck.out.mono ?_
    rintro e w1 ⟨rfl, hk1⟩
    go_wp2_with fail
    go_ret2
    exact ⟨_, rfl, ⟨_, _, _, rfl, rfl⟩, ⟨[], rfl, ⟨rfl, .inl ⟨rfl, rfl⟩⟩, by simp⟩, hk1⟩
end Go.Proofs.YtlcljanibjdejaaGreat
namespace Go.Proofs.YtlcljanibjdejaaGreat
open Go.RowKit Go.Maps
theorem KeepsB.blk {B b : Nat} {w w' : World} {g : Nat} {cs : Array Value} {ty : TypeId} (h : KeepsB B b w w') (ht : w.heap[g]? = some (.cells cs ty (0, 0))) (hty : ty ≠ 5) (hg : g ≠ b) : w'.heap[g]? = some (.cells cs ty (0, 0)) := by
  rw [h.block g (lt_of_block ht) hg (.inr (fun cs f e => by rw [ht] at e; simp at e; exact hty e.2.1))]; exact ht
theorem fblk_new {w W : World} {o : Obj} {k : Nat} (hk : w.heap.size = k) (hW : w.alloc o = W) : W.heap[k]? = some o ∧ W.heap.size = k + 1 := by
  subst hk; subst hW; exact ⟨heap_alloc_new w o, by simp⟩
end Go.Proofs.YtlcljanibjdejaaGreat
namespace Go.Proofs
open Go.Shelf
def Tryz.lays137_ren : Go.Shelf.Ren := ⟨fun | 137 => 287 | 217 => 315 | 266 => 334 | n => n, fun | 9 => 9 | 5 => 5 | 3 => 3 | n => n, fun | n => n⟩
theorem Tryz.lays137 : Go.Proofs.Lays.n137 Tryz.prog Tryz.lays137_ren := {
  mixed := by kernel_rfl
  f137 := Tryz.func287.trans (congrArg some (by kernel_rfl))
  f217 := Tryz.func315.trans (congrArg some (by kernel_rfl))
  f266 := Tryz.func334.trans (congrArg some (by kernel_rfl))
  t3 := Tryz.underlying3
  a3 := Tryz.isAgg3
  z3 := Tryz.sizeOf3
  v3 := Tryz.zeroValue3
  t5 := Tryz.underlying5
  a5 := Tryz.isAgg5
  z5 := Tryz.sizeOf5
  v5 := Tryz.zeroValue5
  t9 := Tryz.underlying9
  a9 := Tryz.isAgg9
  z9 := Tryz.sizeOf9
  v9 := Tryz.zeroValue9 }
open Go.RowKit in
/-- strings.IndexByte: "IndexByte returns the index of the first instance of c in s, or -1 if c is not present in s.": IT RETURNS 'Lib.indexByte s c'; the world is as it was. (LAID: no walk: one application.) -/
theorem Tryz.strings_IndexByte (s : ByteArray) (c : Int) (w : World) :
    Calls Tryz.prog 287 #[.string s, .int .u8 c] w fun e w' => e = .returned (.int .i64 (Lib.indexByte s.data.toList c.toNat.toUInt8)) ∧ w' = w := Any.strings_IndexByte Tryz.lays137 s c w
end Go.Proofs
namespace Go.Proofs.YtlcljanibjdejaaGreat
open Go.RowKit Go.Maps
@[reducible] def SKw (W w' : World) : Prop := Keeps [] W w'
end Go.Proofs.YtlcljanibjdejaaGreat
