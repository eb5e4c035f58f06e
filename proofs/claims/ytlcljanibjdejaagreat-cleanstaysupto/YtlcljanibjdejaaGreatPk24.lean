/- Package nodes: List: nodes that were put, texts joined; endText, All. Package nodes: List: Put of one node, All. An element that is made: Kp. An attribute is kept: element's closure. An attribute is kept, or left away: element's closure, where it gives up. Package nodes: List: All, and a list that has just been made. -/
import Derived.Test.YtlcljanibjdejaaGreatPk23
import Derived.Test.YtlcljanibjdejaaGreatPk12
import Derived.RegionDies
import Derived.Test.YtlcljanibjdejaaGreatPk11
namespace Go.Proofs.YtlcljanibjdejaaGreat
open Go.RowKit Go.Maps

/-- What a list may still change. -/
def touchL (r : Nat) (allv textv : Value) : List Nat := r :: (textv.ownBlock.toList ++ allv.ownBlock.toList)

structure Ls (w : World) (B r : Nat) (allv textv : Value) (l : List Pn) (text : List UInt8) : Prop where
  blk : w.heap[r]? = some (.cells #[allv, textv] 199 (0, 0))
  all : w.ownsRow B 45 4 allv l.length (pnsCells l)
  txt : w.ownsRow B 5 1 textv text.length (Lib.byteCells text)
  done : ∀ q ∈ l, LiesP w (DoneB B (touchL r allv textv)) q.av q.nd.attrs.length 2 (pairCells q.nd.attrs) ∧ Ns w (DoneB B (touchL r allv textv)) q.kv q.nd.kids
  hr : B ≤ r
  pos : 0 < B

section
variable {w w' : World} {B r : Nat} {allv textv : Value} {l : List Pn} {text : List UInt8}

theorem mem_touchL {g : Nat} : g ∈ touchL r allv textv ↔ g = r ∨ textv.ownBlock = some g ∨ allv.ownBlock = some g := by simp [touchL]
theorem Ls.lt (h : Ls w B r allv textv l text) : r < w.heap.size := lt_of_block h.blk
theorem Ls.cell0 (h : Ls w B r allv textv l text) : w.cell? ⟨r, 0, none⟩ = some allv := cell_blk h.blk 0
theorem Ls.cell1 (h : Ls w B r allv textv l text) : w.cell? ⟨r, 1, none⟩ = some textv := cell_blk h.blk 1
theorem Ls.free (h : Ls w B r allv textv l text) (j : Nat) : w.frozen? ⟨r, j, none⟩ = false := free_blk h.blk j
theorem Ls.keepsNil (h : Ls w B r allv textv l text) (hk : Keeps [] w w') : Ls w' B r allv textv l text :=
  ⟨by rw [hk.block r h.lt List.not_mem_nil]; exact h.blk, hk.owns h.all (fun _ _ => List.not_mem_nil), hk.owns h.txt (fun _ _ => List.not_mem_nil), fun q hq => ⟨(h.done q hq).1.keeps hk (fun _ _ => List.not_mem_nil), (h.done q hq).2.keeps hk (fun _ _ => List.not_mem_nil)⟩, h.hr, h.pos⟩
theorem Ls.ge (h : Ls w B r allv textv l text) : ∀ g, g ∈ touchL r allv textv → B ≤ g ∧ g < w.heap.size := fun g hg => by
  rcases mem_touchL.1 hg with rfl | hg | hg
  · exact ⟨h.hr, h.lt⟩
  · exact h.txt.lt g hg
  · exact h.all.lt g hg

/-- The text is another. -/
theorem Ls.setText (h : Ls w B r allv textv l text) (hk : Keeps textv.ownBlock.toList w w') {tv : Value} {tx : List UInt8} (ho : w'.ownsRow B 5 1 tv tx.length (Lib.byteCells tx)) (hw : tv.ownBlock = textv.ownBlock ∨ ∃ n, tv.ownBlock = some n ∧ w.heap.size ≤ n) :
    Ls (w'.setCell ⟨r, 1, none⟩ tv) B r allv tv l tx ∧ Stp w (touchL r allv textv) (w'.setCell ⟨r, 1, none⟩ tv) (touchL r allv tv) := by
  have hrt : r ∉ textv.ownBlock.toList := fun hm => block_ne h.txt h.blk (by decide) (by simpa using hm)
  have hks : Keeps [r] w' (w'.setCell ⟨r, 1, none⟩ tv) := (Keeps.refl [r] w').setCell (.inl (by simp)) _
  have hblk' : w'.heap[r]? = some (.cells #[allv, textv] 199 (0, 0)) := by rw [hk.block r h.lt hrt]; exact h.blk
  have hkk : Keeps (r :: textv.ownBlock.toList) w (w'.setCell ⟨r, 1, none⟩ tv) := (hk.to (by simp; exact fun _ h => .inr h)).trans (hks.to (by simp))
  have hS : ∀ g, g ∈ r :: textv.ownBlock.toList → g ∈ touchL r allv textv := by
    intro g hg
    rw [mem_touchL]
    simp at hg
    rcases hg with hg | hg
    · exact .inl hg
    · exact .inr (.inl hg)
  have hT : ∀ g, g < w.heap.size → g ∈ touchL r allv tv → g ∈ touchL r allv textv := by
    intro g hg hm
    rw [mem_touchL] at hm ⊢
    rcases hm with hm | hm | hm
    · exact .inl hm
    · rcases hw with hw | ⟨n, hw, hn⟩
      · exact .inr (.inl (hw ▸ hm))
      · rw [hw] at hm; simp at hm; omega
    · exact .inr (.inr hm)
  refine ⟨⟨?_, ?_, hks.owns ho (fun g hg hm => by simp at hm; subst hm; exact block_ne ho hblk' (by decide) hg), fun q hq => ⟨(h.done q hq).1.move hkk hS hT, (h.done q hq).2.move hkk hS hT⟩, h.hr, h.pos⟩, hkk.to hS, fun g hm hg => hT g hg hm⟩
  · simp [World.setCell, Array.getElem?_modify, hblk']
  · refine hkk.owns h.all (fun g hg hm => ?_)
    simp at hm
    rcases hm with hm | hm
    · subst hm; exact block_ne h.all h.blk (by decide) hg
    · exact rows_apart h.all h.txt (by decide) hg hm

/-- One node more, behind the others. -/
theorem Ls.push {q : Pn} (h : Ls w B r allv textv l text) (hk : Keeps allv.ownBlock.toList w w') {av : Value} (ho : w'.ownsRow B 45 4 av (l.length + 1) (pnsCells l ++ pnCells q)) (hw : av.ownBlock = allv.ownBlock ∨ ∃ n, av.ownBlock = some n ∧ w.heap.size ≤ n)
    (hqa : LiesP w (DoneB B (touchL r allv textv)) q.av q.nd.attrs.length 2 (pairCells q.nd.attrs)) (hqk : Ns w (DoneB B (touchL r allv textv)) q.kv q.nd.kids) :
    Ls (w'.setCell ⟨r, 0, none⟩ av) B r av textv (l ++ [q]) text ∧ Stp w (touchL r allv textv) (w'.setCell ⟨r, 0, none⟩ av) (touchL r av textv) := by
  have hro : r ∉ allv.ownBlock.toList := fun hm => block_ne h.all h.blk (by decide) (by simpa using hm)
  have hks : Keeps [r] w' (w'.setCell ⟨r, 0, none⟩ av) := (Keeps.refl [r] w').setCell (.inl (by simp)) _
  have hblk' : w'.heap[r]? = some (.cells #[allv, textv] 199 (0, 0)) := by rw [hk.block r h.lt hro]; exact h.blk
  have hkk : Keeps (r :: allv.ownBlock.toList) w (w'.setCell ⟨r, 0, none⟩ av) := (hk.to (by simp; exact fun _ h => .inr h)).trans (hks.to (by simp))
  have hS : ∀ g, g ∈ r :: allv.ownBlock.toList → g ∈ touchL r allv textv := by
    intro g hg
    rw [mem_touchL]
    simp at hg
    rcases hg with hg | hg
    · exact .inl hg
    · exact .inr (.inr hg)
  have hT : ∀ g, g < w.heap.size → g ∈ touchL r av textv → g ∈ touchL r allv textv := by
    intro g hg hm
    rw [mem_touchL] at hm ⊢
    rcases hm with hm | hm | hm
    · exact .inl hm
    · exact .inr (.inl hm)
    · rcases hw with hw | ⟨n, hw, hn⟩
      · exact .inr (.inr (hw ▸ hm))
      · rw [hw] at hm; simp at hm; omega
  have ec : pnsCells (l ++ [q]) = pnsCells l ++ pnCells q := by simp [pnsCells]
  refine ⟨⟨?_, ?_, ?_, fun p hp => ?_, h.hr, h.pos⟩, hkk.to hS, fun g hm hg => hT g hg hm⟩
  · simp [World.setCell, Array.getElem?_modify, hblk']
  · rw [ec, List.length_append, List.length_singleton]
    exact hks.owns ho (fun g hg hm => by simp at hm; subst hm; exact block_ne ho hblk' (by decide) hg)
  · refine hkk.owns h.txt (fun g hg hm => ?_)
    simp at hm
    rcases hm with hm | hm
    · subst hm; exact block_ne h.txt h.blk (by decide) hg
    · exact rows_apart h.txt h.all (by decide) hg hm
  · rcases List.mem_append.1 hp with hp | hp
    · exact ⟨(h.done p hp).1.move hkk hS hT, (h.done p hp).2.move hkk hS hT⟩
    · simp at hp
      subst hp
      exact ⟨hqa.move hkk hS hT, hqk.move hkk hS hT⟩
end

/-- A list whose state is s, and what it may still change. -/
def LsT (w : World) (B r : Nat) (s : Lst) (T : List Nat) : Prop := ∃ allv textv l, T = touchL r allv textv ∧ l.map Pn.nd = s.all ∧ Ls w B r allv textv l s.text
theorem LsT.keepsNil {w w' : World} {B r : Nat} {s : Lst} {T : List Nat} (h : LsT w B r s T) (hk : Keeps [] w w') : LsT w' B r s T := by
  obtain ⟨a, t, l, e1, e2, h⟩ := h
  exact ⟨a, t, l, e1, e2, h.keepsNil hk⟩
theorem LsT.ge {w : World} {B r : Nat} {s : Lst} {T : List Nat} (h : LsT w B r s T) : (∀ g, g ∈ T → B ≤ g ∧ g < w.heap.size) ∧ B ≤ w.heap.size := by
  obtain ⟨a, t, l, rfl, e2, h⟩ := h
  exact ⟨h.ge, Nat.le_trans h.hr (Nat.le_of_lt h.lt)⟩

set_option maxRecDepth 4000 in
set_option maxHeartbeats 4000000 in
theorem endTextL_any (B r : Nat) (s : Lst) (T : List Nat) (w : World) (h : LsT w B r s T) (hw : s.weight ≤ 4000000) :
    Calls Tryz.prog 250 #[.pointer (some ⟨r, 0, none⟩)] w fun e w' => e = .returned (.tuple #[]) ∧ ∃ T', LsT w' B r ⟨s.done, []⟩ T' ∧ Stp w T w' T' := by
  obtain ⟨allv, textv, l, rfl, e2, h⟩ := h
  obtain ⟨all, text⟩ := s
  simp only at e2 h
  have hll : l.length = all.length := by rw [← e2, List.length_map]
  simp only [Lst.weight] at hw
  rw [← hll] at hw
  have E2 := hide e2
  clear hll e2
  unfold Lst.done
  simp only
  have c1 := h.cell1
  by_cases hne : text = []
  · subst hne
    rw [if_pos (show ([] : List UInt8).isEmpty = true from rfl)]
    obtain ⟨o, c, ho⟩ := row_form h.txt
    subst ho
    go_enter Tryz.func250, Tryz.ntmps250
    go_wp2_with fail
    go_end0
    exact ⟨rfl, _, ⟨_, _, l, rfl, E2.out, h⟩, Stp.refl _ _⟩
  · rw [if_neg (by simpa using hne)]
    obtain ⟨g, cap, cur', hrv, hgb, hgc, hcap1, hcap2, hcur1, hcur2⟩ : ∃ g cap cur, textv = .slice (some ⟨g, 0, none⟩) text.length cap ∧ B ≤ g ∧ w.heap[g]? = some (.cells cur 5 (0, 0)) ∧ text.length ≤ cap ∧ cap ≤ maxLen ∧ cur.size = cap * 1 ∧ cur.toList.take (text.length * 1) = Lib.byteCells text := by
      rcases h.txt.2 with ⟨_, h0⟩ | h'
      · exact absurd (List.eq_nil_of_length_eq_zero h0) hne
      · exact h'
    subst hrv
    have hpos : 0 < text.length := List.length_pos_iff.2 hne
    obtain ⟨i0, hi, hz0, hz1, hz2⟩ := info_parts info79
    obtain ⟨ao, ac, hav⟩ := row_form h.all
    subst hav
    have c0 := h.cell0
    have hcv : ∀ W, Keeps [] w W → (convert 107 9 (.slice (some ⟨g, 0, none⟩) text.length cap)).run Tryz.prog W = .ok (.string ⟨text.toArray⟩) W := fun W hk => own_string (w := W) (hk.owns h.txt (fun _ _ => List.not_mem_nil)) 0
    have hcv1 := hcv w.drew ((Keeps.refl [] w).drew)
    have hcv2 := fun o => hcv (w.alloc o).drew (((Keeps.refl [] w).alloc o).drew)
    have c0a : ∀ o, (w.alloc o).cell? ⟨r, 0, none⟩ = some (.slice ao l.length ac) := fun o => (cell_past (a := ⟨r, 0, none⟩) h.lt o).trans c0
    have c1a : ∀ o, (w.alloc o).cell? ⟨r, 1, none⟩ = some (.slice (some ⟨g, 0, none⟩) text.length cap) := fun o => (cell_past (a := ⟨r, 1, none⟩) h.lt o).trans c1
    have hBw : B ≤ w.heap.size := Nat.le_trans h.hr (Nat.le_of_lt h.lt)
    have hrA : r ∉ (Value.slice ao l.length ac).ownBlock.toList := fun hm => block_ne h.all h.blk (by decide) (by simpa using hm)
    have hlt1 : (l.length : Int) < l.length + 1 := by omega
    clear hcur1 hcur2 hgc
    unfold maxLen at hcap2
    go_enter Tryz.func250, Tryz.ntmps250
    go_upto_region 1 with fail
    go_cut [] from 8 to 24 (fun wc => ∃ av', Ls wc B r av' (.slice (some ⟨g, 0, none⟩) text.length cap) (l ++ [⟨textN text, .slice none 0 0, .slice none 0 0⟩]) text ∧ Stp w (touchL r (.slice ao l.length ac) (.slice (some ⟨g, 0, none⟩) text.length cap)) wc (touchL r av' (.slice (some ⟨g, 0, none⟩) text.length cap)))
    case first =>
      go_region_law (refine step_own_at rfl _ _ 29 rfl B 45 i0 _ 4 80 Tryz.underlying29 hi hz0 hz1 hz2 (by kernel_rfl) (by decide) (.slice ao l.length ac) l.length (pnsCells l) rfl ((h.all.alloc _).drew) ⟨w.heap.size, 0, none⟩ 1 1 zeroNd rfl rfl (lit_cells w _ 45) (by intro u hu; simp [zeroNd] at hu; rcases hu with rfl | rfl | rfl | rfl <;> rfl) (by unfold maxLen; omega) (by omega) (Nat.le_trans hBw (by simp)) ?_; intro v3 w3 ho3 hg3 hw3; obtain ⟨g3, c3, hv3, hc31, hc32, hB3, hl3, hcl3, hfr3⟩ := grow_form ho3 (pnsCells_len l); subst hv3; unfold maxLen at hc32; have n0 : w3.cell? ⟨g3, l.length * 4, none⟩ = some (.string ⟨#[]⟩) := hcl3 0 (by decide); have n1 : w3.cell? ⟨g3, l.length * 4 + 1, none⟩ = some (.slice none 0 0) := hcl3 1 (by decide); have n2 : w3.cell? ⟨g3, l.length * 4 + 2, none⟩ = some (.string ⟨#[]⟩) := hcl3 2 (by decide); have n3 : w3.cell? ⟨g3, l.length * 4 + 3, none⟩ = some (.slice none 0 0) := hcl3 3 (by decide); clear hcl3; have hk3 : Keeps (Value.slice ao l.length ac).ownBlock.toList w w3 := (((Keeps.refl _ w).alloc _).drew).grown hg3 (fun i e => .inl (by simp [e])); have z0 := hfr3 (l.length * 4); have z1 := hfr3 (l.length * 4 + 1); have z2 := hfr3 (l.length * 4 + 2); have z3 := hfr3 (l.length * 4 + 3); have d3 := cell_keepsS hk3 (a := ⟨r, 0, none⟩) hrA c0; have d4 := cell_keepsS hk3 (a := ⟨r, 1, none⟩) hrA c1; have hb3 := (hk3.block r h.lt hrA).trans h.blk; have e3 : w3.frozen? ⟨r, 0, none⟩ = false := free_blk hb3 0; have hne3 : g3 ≠ r := put_ne hrA hw3 h.lt)
      all_goals go_wp2
      all_goals go_meet
      all_goals have hw1 : w.heap.size ≤ ((w.alloc (.cells #[.string ⟨#[]⟩, .slice none 0 0, .string ⟨#[]⟩, .slice none 0 0] 45)).drew).heap.size := by simp
      all_goals have hfin := h.push (q := ⟨textN text, .slice none 0 0, .slice none 0 0⟩) (keeps4 hk3 (own_or hw3 hw1) (.string ⟨#[]⟩) (.slice none 0 0) (.string ⟨text.toArray⟩) (.slice none 0 0)) (stored4 ho3 (pnsCells_len l) _ _ _ _) (own_or2 hw3 hw1) ⟨rfl, .inl ⟨rfl, none, 0, rfl, by simp [maxLen]⟩⟩ (Ns.nil _ _ none 0 (by simp [maxLen]))
      all_goals try rw [setCell_comm w3 (a := ⟨r, 0, none⟩) (b := ⟨g3, l.length * 4, none⟩) hne3.symm, setCell_comm _ (a := ⟨r, 0, none⟩) (b := ⟨g3, l.length * 4 + 1, none⟩) hne3.symm, setCell_comm _ (a := ⟨r, 0, none⟩) (b := ⟨g3, l.length * 4 + 2, none⟩) hne3.symm, setCell_comm _ (a := ⟨r, 0, none⟩) (b := ⟨g3, l.length * 4 + 3, none⟩) hne3.symm]
      all_goals exact ⟨_, hfin.1, hfin.2⟩
    case rest =>
      obtain ⟨av', h', hs'⟩ := hcut
      have e1 := h'.cell1
      have f1 := h'.free 1
      clear c0 c1 c0a c1a hcv1 hcv2 hcv
      go_wp2_with fail
      go_end0
      have hst := h'.setText (Keeps.refl _ _) (tx := []) (row_zero h'.txt) (.inl rfl)
      exact ⟨rfl, _, ⟨_, _, _, rfl, by simp [E2.out, textN], hst.1⟩, hs'.trans hst.2⟩
end Go.Proofs.YtlcljanibjdejaaGreat

namespace Go.Proofs.YtlcljanibjdejaaGreat
open Go.RowKit Go.Maps

/-- Four cells of a node. -/
def IsNd (w : World) (g : Nat) (n : List UInt8) (av : Value) (t : List UInt8) (kv : Value) : Prop :=
  w.cell? ⟨g, 0, none⟩ = some (.string ⟨n.toArray⟩) ∧ w.cell? ⟨g, 1, none⟩ = some av ∧ w.cell? ⟨g, 2, none⟩ = some (.string ⟨t.toArray⟩) ∧ w.cell? ⟨g, 3, none⟩ = some kv
theorem IsNd.keeps {w w' : World} {S : List Nat} {g : Nat} {n t : List UInt8} {av kv : Value} (h : IsNd w g n av t kv) (hk : Keeps S w w') (hg : g ∉ S) : IsNd w' g n av t kv :=
  ⟨cell_keepsS hk hg h.1, cell_keepsS hk hg h.2.1, cell_keepsS hk hg h.2.2.1, cell_keepsS hk hg h.2.2.2⟩
theorem IsNd.of {w : World} {g : Nat} {n t : List UInt8} {av kv : Value} {ty : TypeId} (h : w.heap[g]? = some (.cells #[.string ⟨n.toArray⟩, av, .string ⟨t.toArray⟩, kv] ty (0, 0))) : IsNd w g n av t kv :=
  ⟨cell_blk h 0, cell_blk h 1, cell_blk h 2, cell_blk h 3⟩

theorem DoneB.fresh {B : Nat} {T : List Nat} {g s : Nat} (hB : B ≤ s) (hT : ∀ g, g ∈ T → g < s) (hg : s ≤ g) : DoneB B T g := ⟨by omega, fun h => by have := hT g h; omega⟩

set_option maxRecDepth 4000 in
set_option maxHeartbeats 8000000 in
theorem putL_any (B r : Nat) (s : Lst) (T : List Nat) (w : World) (h : LsT w B r s T) (nm tx : List UInt8) (at' : List Pair) (ks : List Nd) (hw : s.weight + tx.length ≤ 4000000) (oa ok : Option Addr) (na ca nk ck : Nat) (g : Nat) (hN : IsNd w g nm (.slice oa na ca) tx (.slice ok nk ck))
    (hq : nm ≠ [] → LiesP w (DoneB B T) (.slice oa na ca) at'.length 2 (pairCells at') ∧ Ns w (DoneB B T) (.slice ok nk ck) ks) :
    Calls Tryz.prog 246 #[.pointer (some ⟨r, 0, none⟩), .slice (some ⟨g, 0, none⟩) 1 1] w fun e w' => e = .returned (.tuple #[]) ∧ ∃ T', LsT w' B r (s.put (.mk nm at' tx ks)) T' ∧ Stp w T w' T' := by
  obtain ⟨R, hR⟩ : ∃ R, s.put (.mk nm at' tx ks) = R := ⟨_, rfl⟩
  rw [hR]
  obtain ⟨n0, n1, n2, n3⟩ := id hN
  have HR := hide hR
  have Hh := hide h
  have Hw := hide hw
  have HN := hide hN
  have HQ := hide hq
  clear hR h hw hN hq
  go_enter Tryz.func246, Tryz.ntmps246
  go_wp2_with fail
  go_loopw [8] (fun i wr => (i = .int .i64 0 ∧ wr = w) ∨ (i = .int .i64 1 ∧ Hid (∃ T', LsT wr B r R T' ∧ Stp w T wr T'))) (fun i _ => 1 - (intOf i).toNat)
  case atStart => exact .inl ⟨rfl, rfl⟩
  case round =>
    rcases hrel with ⟨rfl, h9⟩ | ⟨rfl, hres⟩
    · obtain rfl : w = wr := h9.symm
      have hbx : (w.alloc (.cells #[.string ⟨nm.toArray⟩, .slice oa na ca, .string ⟨tx.toArray⟩, .slice ok nk ck] 45)).heap[w.heap.size]? = some (.cells #[.string ⟨nm.toArray⟩, .slice oa na ca, .string ⟨tx.toArray⟩, .slice ok nk ck] 45 (0, 0)) := heap_alloc_new w _
      have hka : Keeps [] w (w.alloc (.cells #[.string ⟨nm.toArray⟩, .slice oa na ca, .string ⟨tx.toArray⟩, .slice ok nk ck] 45)) := (Keeps.refl [] w).alloc _
      have HBX := hide hbx
      have HKA := hide hka
      clear hbx hka
      have hw0 := Hw.out
      simp only [Lst.weight] at hw0
      by_cases he : nm = []
      · have q0 : nm.isEmpty = true := by simpa using he
        have hRt : R = ⟨s.all, s.text ++ tx⟩ := by rw [← HR.out]; unfold Lst.put; rw [if_pos (show (Nd.mk nm at' tx ks).name.isEmpty = true from by simp [Nd.name, he])]; rfl
        subst hRt
        clear he
        obtain ⟨allv, textv, l, hTT, e2, hL⟩ := (Hh.out).keepsNil HKA.out
        have hge := ((Hh.out).keepsNil HKA.out).ge
        have HT := hide hTT
        have E2 := hide e2
        have hBW := hge.2
        have hrl := hL.lt
        have q1 := hL.cell1
        obtain ⟨t0, tc, htv⟩ := row_form hL.txt
        subst htv
        obtain ⟨i0, hi, hz0, hz1, hz2⟩ := info_parts info5b
        have b3 : (w.alloc (.cells #[.string ⟨nm.toArray⟩, .slice oa na ca, .string ⟨tx.toArray⟩, .slice ok nk ck] 45)).cell? ⟨w.heap.size, 2, none⟩ = some (.string ⟨tx.toArray⟩) := cell_blk HBX.out 2
        have hrt : r ∉ (Value.slice t0 s.text.length tc).ownBlock.toList := fun hm => block_ne hL.txt hL.blk (by decide) (by simpa using hm)
        have htsz : (⟨tx.toArray⟩ : ByteArray).size = tx.length := str_size tx
        clear hTT e2 hge
        go_upto_region 4 with fail
        obtain ⟨W, hWW⟩ : ∃ W, w.alloc (.cells #[.string ⟨nm.toArray⟩, .slice oa na ca, .string ⟨tx.toArray⟩, .slice ok nk ck] 45) = W := ⟨_, rfl⟩
        rw [hWW] at hL q1 b3 hBW hrl HKA ⊢
        clear hWW HBX
        go_region_law (refine step_str_at rfl _ _ 107 9 rfl B 5 i0 Tryz.underlying107 Tryz.underlying9 hi hz0 hz1 hz2 (.slice t0 s.text.length tc) s.text.length (Lib.byteCells s.text) rfl hL.txt.drew ⟨tx.toArray⟩ rfl (by rw [str_size]; unfold maxLen; omega) (by rw [str_size]; omega) hBW ?_; intro v3 w3 ho3 hg3 hw3; obtain ⟨o3, c3, hv3⟩ := row_form ho3; subst hv3; have hk3 : Keeps (Value.slice t0 s.text.length tc).ownBlock.toList W w3 := ((Keeps.refl _ W).drew).grown hg3 (fun i e => .inl (by simp [e])); have d1 := cell_keepsS hk3 (a := ⟨r, 1, none⟩) hrt q1; have d2 : w3.frozen? ⟨r, 1, none⟩ = false := free_blk ((hk3.block r hrl hrt).trans hL.blk) 1)
        all_goals go_wp2_with fail
        all_goals have ho4 : w3.ownsRow B 5 1 (.slice o3 (s.text.length + tx.length) c3) (s.text ++ tx).length (Lib.byteCells (s.text ++ tx))  := (by have h9 := ho3; rw [byteCells_str] at h9; rw [List.length_append]; exact h9)
        all_goals have hst := hL.setText hk3 ho4 hw3
        all_goals refine ⟨.inr ⟨by go_num, ⟨_, ⟨allv, _, l, rfl, E2.out, hst.1⟩, HT.out ▸ (Stp.nil HKA.out _).trans hst.2⟩⟩, ?_⟩
        all_goals (simp [intOf])
      · have q0 : nm.isEmpty = false := by simpa using he
        have hRt : R = ⟨s.done ++ [.mk nm at' tx ks], []⟩ := by rw [← HR.out]; unfold Lst.put; rw [if_neg (show ¬ (Nd.mk nm at' tx ks).name.isEmpty = true from by simpa [Nd.name] using he)]
        subst hRt
        have hqq := HQ.out he
        have HQ1 := hide (hqq.1.keeps HKA.out (fun _ _ => List.not_mem_nil))
        have HQ2 := hide (hqq.2.keeps HKA.out (fun _ _ => List.not_mem_nil))
        clear hqq HQ he
        have het := hide (endTextL_any B r s T _ ((Hh.out).keepsNil HKA.out) (by have := Hw.out; omega))
        have hgT := (Hh.out).ge
        have HGT := hide hgT
        clear hgT
        go_wp2_with fail
        obtain ⟨W0, hWW⟩ : ∃ W, w.alloc (.cells #[.string ⟨nm.toArray⟩, .slice oa na ca, .string ⟨tx.toArray⟩, .slice ok nk ck] 45) = W := ⟨_, rfl⟩
        rw [hWW] at HKA HBX HQ1 HQ2 het ⊢
        refine het.out.mono ?_
        rintro e W ⟨rfl, T1, ⟨allv, textv, l, rfl, e2, hL⟩, hS1⟩
        have E2 := hide e2
        have HS1 := hide hS1
        have hxT : w.heap.size ∉ T := fun hm => by have := (HGT.out.1 _ hm).2; omega
        have hb1 : W.heap[w.heap.size]? = some (.cells #[.string ⟨nm.toArray⟩, .slice oa na ca, .string ⟨tx.toArray⟩, .slice ok nk ck] 45 (0, 0)) := (hS1.1.block _ (lt_of_block HBX.out) hxT).trans HBX.out
        have hbl := lt_of_block hb1
        have hll : l.length ≤ 4000000 := by
          have h8 : l.length = s.done.length := by rw [← List.length_map (f := Pn.nd), e2]
          have := s.done_len
          have := Hw.out
          omega
        clear e2 hS1 het q0
        have hBW : B ≤ W.heap.size := Nat.le_trans hL.hr (Nat.le_of_lt hL.lt)
        obtain ⟨ao, ac, hav⟩ := row_form hL.all
        subst hav
        have c0 := hL.cell0
        have c0a : ∀ o, (W.alloc o).cell? ⟨r, 0, none⟩ = some (.slice ao l.length ac) := fun o => (cell_past (a := ⟨r, 0, none⟩) hL.lt o).trans c0
        have hrA : r ∉ (Value.slice ao l.length ac).ownBlock.toList := fun hm => block_ne hL.all hL.blk (by decide) (by simpa using hm)
        have b0 : W.cell? ⟨w.heap.size, 0, none⟩ = some (.string ⟨nm.toArray⟩) := cell_blk hb1 0
        have b1 : W.cell? ⟨w.heap.size, 1, none⟩ = some (.slice oa na ca) := cell_blk hb1 1
        have b2 : W.cell? ⟨w.heap.size, 2, none⟩ = some (.string ⟨tx.toArray⟩) := cell_blk hb1 2
        have b3 : W.cell? ⟨w.heap.size, 3, none⟩ = some (.slice ok nk ck) := cell_blk hb1 3
        have b0a : ∀ o, (W.alloc o).cell? ⟨w.heap.size, 0, none⟩ = some (.string ⟨nm.toArray⟩) := fun o => (cell_past (a := ⟨w.heap.size, 0, none⟩) hbl o).trans b0
        have b1a : ∀ o, (W.alloc o).cell? ⟨w.heap.size, 1, none⟩ = some (.slice oa na ca) := fun o => (cell_past (a := ⟨w.heap.size, 1, none⟩) hbl o).trans b1
        have b2a : ∀ o, (W.alloc o).cell? ⟨w.heap.size, 2, none⟩ = some (.string ⟨tx.toArray⟩) := fun o => (cell_past (a := ⟨w.heap.size, 2, none⟩) hbl o).trans b2
        have b3a : ∀ o, (W.alloc o).cell? ⟨w.heap.size, 3, none⟩ = some (.slice ok nk ck) := fun o => (cell_past (a := ⟨w.heap.size, 3, none⟩) hbl o).trans b3
        obtain ⟨i0, hi, hz0, hz1, hz2⟩ := info_parts info79
        have hlt1 : (l.length : Int) < l.length + 1 := by omega
        clear hb1
        have HQA := hide (HQ1.out.move HS1.out.1 (fun g hg => hg) (fun g h1 h2 => HS1.out.2 g h2 h1))
        have HQK := hide (HQ2.out.move HS1.out.1 (fun g hg => hg) (fun g h1 h2 => HS1.out.2 g h2 h1))
        go_upto_region 6 with fail
        go_region_law (refine step_own_at rfl _ _ 29 rfl B 45 i0 _ 4 80 Tryz.underlying29 hi hz0 hz1 hz2 (by kernel_rfl) (by decide) (.slice ao l.length ac) l.length (pnsCells l) rfl ((hL.all.alloc _).drew) ⟨W.heap.size, 0, none⟩ 1 1 zeroNd rfl rfl (lit_cells W _ 45) (by intro u hu; simp [zeroNd] at hu; rcases hu with rfl | rfl | rfl | rfl <;> rfl) (by unfold maxLen; omega) (by omega) (Nat.le_trans hBW (by simp)) ?_; intro v3 w3 ho3 hg3 hw3; obtain ⟨g3, c3, hv3, hc31, hc32, hB3, hl3, hcl3, hfr3⟩ := grow_form ho3 (pnsCells_len l); subst hv3; unfold maxLen at hc32; have n0 : w3.cell? ⟨g3, l.length * 4, none⟩ = some (.string ⟨#[]⟩) := hcl3 0 (by decide); have n1 : w3.cell? ⟨g3, l.length * 4 + 1, none⟩ = some (.slice none 0 0) := hcl3 1 (by decide); have n2 : w3.cell? ⟨g3, l.length * 4 + 2, none⟩ = some (.string ⟨#[]⟩) := hcl3 2 (by decide); have n3 : w3.cell? ⟨g3, l.length * 4 + 3, none⟩ = some (.slice none 0 0) := hcl3 3 (by decide); clear hcl3; have hk3 : Keeps (Value.slice ao l.length ac).ownBlock.toList W w3 := (((Keeps.refl _ W).alloc _).drew).grown hg3 (fun i e => .inl (by simp [e])); have z0 := hfr3 (l.length * 4); have z1 := hfr3 (l.length * 4 + 1); have z2 := hfr3 (l.length * 4 + 2); have z3 := hfr3 (l.length * 4 + 3); have d3 := cell_keepsS hk3 (a := ⟨r, 0, none⟩) hrA c0; have hb3 := (hk3.block r hL.lt hrA).trans hL.blk; have e3 : w3.frozen? ⟨r, 0, none⟩ = false := free_blk hb3 0; have hne3 : g3 ≠ r := put_ne hrA hw3 hL.lt)
        all_goals go_wp2_with fail
        all_goals have hw1 : W.heap.size ≤ ((W.alloc (.cells #[.string ⟨#[]⟩, .slice none 0 0, .string ⟨#[]⟩, .slice none 0 0] 45)).drew).heap.size := by simp
        all_goals have hfin := hL.push (q := ⟨.mk nm at' tx ks, .slice oa na ca, .slice ok nk ck⟩) (keeps4 hk3 (own_or hw3 hw1) (.string ⟨nm.toArray⟩) (.slice oa na ca) (.string ⟨tx.toArray⟩) (.slice ok nk ck)) (stored4 ho3 (pnsCells_len l) _ _ _ _) (own_or2 hw3 hw1) HQA.out HQK.out
        all_goals try rw [setCell_comm w3 (a := ⟨r, 0, none⟩) (b := ⟨g3, l.length * 4, none⟩) hne3.symm, setCell_comm _ (a := ⟨r, 0, none⟩) (b := ⟨g3, l.length * 4 + 1, none⟩) hne3.symm, setCell_comm _ (a := ⟨r, 0, none⟩) (b := ⟨g3, l.length * 4 + 2, none⟩) hne3.symm, setCell_comm _ (a := ⟨r, 0, none⟩) (b := ⟨g3, l.length * 4 + 3, none⟩) hne3.symm]
        all_goals refine ⟨.inr ⟨by go_num, ⟨_, ⟨_, _, _, rfl, by simp [E2.out], hfin.1⟩, (Stp.nil HKA.out _).trans (HS1.out.trans hfin.2)⟩⟩, ?_⟩
        all_goals (simp [intOf])
    · go_wp2_with fail
      go_end0
      exact ⟨rfl, hres.out⟩
end Go.Proofs.YtlcljanibjdejaaGreat

namespace Go.Proofs.YtlcljanibjdejaaGreat
open Go.RowKit Go.Maps

/-- An element that is made: its name, and the attributes that were kept so far. -/
structure Kp (w : World) (B q : Nat) (n : List UInt8) (av : Value) (kl : List Pair) : Prop where
  blk : w.heap[q]? = some (.cells #[.string ⟨n.toArray⟩, av, .string ⟨#[]⟩, .slice none 0 0] 45 (0, 0))
  row : w.ownsRow B 52 2 av kl.length (pairCells kl)
theorem Kp.ne {w : World} {B q : Nat} {n : List UInt8} {av : Value} {kl : List Pair} (h : Kp w B q n av kl) : q ∉ av.ownBlock.toList := fun hm => block_ne h.row h.blk (by decide) (by simpa using hm)
theorem Kp.keeps {w w' : World} {B q : Nat} {n : List UInt8} {av : Value} {kl : List Pair} {S : List Nat} (h : Kp w B q n av kl) (hk : Keeps S w w') (hq : q ∉ S) (ha : ∀ g, av.ownBlock = some g → g ∉ S) : Kp w' B q n av kl :=
  ⟨by rw [hk.block q (lt_of_block h.blk) hq]; exact h.blk, hk.owns h.row ha⟩
theorem Kp.grow {w w' : World} {B q : Nat} {n : List UInt8} {av : Value} {kl : List Pair} (h : Kp w B q n av kl) (hk : Keeps av.ownBlock.toList w w') {av' : Value} {p : Pair} (ho : w'.ownsRow B 52 2 av' (kl.length + 1) (pairCells kl ++ [.string ⟨p.1.toArray⟩, .string ⟨p.2.toArray⟩])) :
    Kp (w'.setCell ⟨q, 1, none⟩ av') B q n av' (kl ++ [p]) := by
  have hb : w'.heap[q]? = some (.cells #[.string ⟨n.toArray⟩, av, .string ⟨#[]⟩, .slice none 0 0] 45 (0, 0)) := (hk.block q (lt_of_block h.blk) h.ne).trans h.blk
  refine ⟨?_, ?_⟩
  · simp [World.setCell, Array.getElem?_modify, hb]
  · have e : pairCells (kl ++ [p]) = pairCells kl ++ [.string ⟨p.1.toArray⟩, .string ⟨p.2.toArray⟩] := by simp [pairCells]
    rw [e, List.length_append, List.length_singleton]
    exact set_row ho (block_ne ho hb (by decide)) _

theorem enters297 : Enters 297 := enters_of Tryz.func297 (by kernel_rfl) (by kernel_rfl)

end Go.Proofs.YtlcljanibjdejaaGreat

namespace Go.Proofs.YtlcljanibjdejaaGreat
open Go.RowKit Go.Maps

set_option maxRecDepth 4000 in
set_option maxHeartbeats 8000000 in
theorem keep1_yes (base n : List UInt8) (a : Pair) (B q cb nb ab : Nat) (av : Value) (kl : List Pair) (w : World) (hM : HasMax w) (hb : base.length ≤ 3000) (ha : a.2.length ≤ maxLen) (hl : kl.length ≤ 1000000) (hB : B ≤ w.heap.size)
    (hK : Kp w B q n av kl) (hcb : w.heap[cb]? = some (.cells #[.string ⟨base.toArray⟩] 126 (0, 0))) (hE : attrE n (toldA base a) = 0) (hnb : w.cell? ⟨nb, 0, none⟩ = some (.string ⟨n.toArray⟩)) (hab : w.heap[ab]? = some (.cells #[.string ⟨a.1.toArray⟩, .string ⟨a.2.toArray⟩] 52 (0, 0))) :
    Calls Tryz.prog 296 #[.pointer (some ⟨q, 0, none⟩), .pointer (some ⟨cb, 0, none⟩), .pointer (some ⟨nb, 0, none⟩), .pointer (some ⟨ab, 0, none⟩)] w fun e w' =>
      (e = .returned (.tuple #[]) ∧ ∃ av', Kp w' B q n av' (kl ++ [toldA base a]) ∧ (av'.ownBlock = av.ownBlock ∨ ∃ g, av'.ownBlock = some g ∧ w.heap.size ≤ g)) ∧ Keeps (q :: av.ownBlock.toList) w w' := by
  have hca := hide (fun w (hM : HasMax w) => cleanAttr_any base n a w hM hb ha)
  generalize toldA base a = p at *
  generalize attrE n p = E at *
  obtain ⟨o, c, hav⟩ := row_form hK.row
  subst hav
  obtain ⟨i0, hi, hz0, hz1, hz2⟩ := info_parts info88
  have hqA := hK.ne
  have c1 : w.cell? ⟨q, 1, none⟩ = some (.slice o kl.length c) := cell_blk hK.blk 1
  have c0 : w.cell? ⟨cb, 0, none⟩ = some (.string ⟨base.toArray⟩) := cell_blk hcb 0
  have a0 : w.cell? ⟨ab, 0, none⟩ = some (.string ⟨a.1.toArray⟩) := cell_blk hab 0
  have a1 : w.cell? ⟨ab, 1, none⟩ = some (.string ⟨a.2.toArray⟩) := cell_blk hab 1
  subst hE
  have hcy := hide (fun w (hM : HasMax w) => (hca.out w hM).mono (R' := fun e w' => e = .returned (.agg #[.string ⟨p.1.toArray⟩, .string ⟨p.2.toArray⟩]) ∧ Keeps [] w w') (fun e w' h => ⟨h.1.elim (fun h => h.2) (fun h => absurd rfl h.1), h.2⟩))
  clear hca
  go_enter Tryz.func296, Tryz.ntmps296
  go_upto_region 0 with fail
  go_region_law (first
    | (refine step_call rfl 297 _ _ rfl enters297 #[.agg #[.string ⟨base.toArray⟩], .string ⟨n.toArray⟩, .agg #[.string ⟨a.1.toArray⟩, .string ⟨a.2.toArray⟩]] (by first | (simp [Act.eval]; done) | (simp [Act.eval, Act.put]; done) | kernel_rfl) (hcy.out _ (hM.keeps ((Keeps.refl [] w).drew) List.not_mem_nil)) ?_; rintro e w2 ⟨rfl, hk2⟩; refine ⟨_, rfl, ?_⟩; have hk2' : Keeps [] w w2 := keeps_drew hk2; have hK2 := hK.keeps hk2' List.not_mem_nil (fun _ _ => List.not_mem_nil); have d1 : w2.cell? ⟨q, 1, none⟩ = some (.slice o kl.length c) := cell_blk hK2.blk 1; have d1a : ∀ o', (w2.alloc o').cell? ⟨q, 1, none⟩ = some (.slice o kl.length c) := fun o' => (cell_past (a := ⟨q, 1, none⟩) (lt_of_block hK2.blk) o').trans d1)
    | (refine step_own_at rfl _ _ 43 rfl B 52 i0 _ 2 32 Tryz.underlying43 hi hz0 hz1 hz2 (by kernel_rfl) (by decide) (.slice o kl.length c) kl.length (pairCells kl) rfl (hK2.row.alloc _) ⟨w2.heap.size, 0, none⟩ 1 1 [.string ⟨p.1.toArray⟩, .string ⟨p.2.toArray⟩] rfl rfl (lit_cells w2 _ 52) (by intro u hu; simp at hu; rcases hu with rfl | rfl <;> rfl) (by unfold maxLen; omega) (by omega) (Nat.le_trans hB (Nat.le_trans hk2'.size (by simp))) ?_; intro v3 w3 ho3 hg3 hw3; obtain ⟨o3, c3, hv3⟩ := row_form ho3; subst hv3; have hk3 : Keeps (Value.slice o kl.length c).ownBlock.toList w2 w3 := ((Keeps.refl _ w2).alloc _).grown hg3 (fun i e => .inl (by simp [e])); have hb3 := (hk3.block q (lt_of_block hK2.blk) hK2.ne).trans hK2.blk; have d3 : w3.cell? ⟨q, 1, none⟩ = some (.slice o kl.length c) := cell_blk hb3 1; have f3 : w3.frozen? ⟨q, 1, none⟩ = false := free_blk hb3 1))
  all_goals go_wp2
  all_goals go_end0
  all_goals have hfin := hK2.grow (p := p) hk3 ho3
  all_goals have hkq : Keeps [q] w3 (w3.setCell ⟨q, 1, none⟩ (.slice o3 (kl.length + 1) c3)) := (Keeps.refl [q] w3).setCell (.inl (by simp)) _
  all_goals refine ⟨⟨rfl, _, hfin, hw3.imp id (fun h => ⟨_, h, Nat.le_trans hk2'.size (by simp)⟩)⟩, keeps_on (keeps_on (hk2'.to (by simp)) hk3 (fun g hg hlt => by simp at hg ⊢; exact .inr hg)) hkq (fun g hg hlt => by simp at hg ⊢; exact .inl hg)⟩
end Go.Proofs.YtlcljanibjdejaaGreat

namespace Go.Proofs.YtlcljanibjdejaaGreat
open Go.RowKit Go.Maps

set_option maxRecDepth 4000 in
set_option maxHeartbeats 8000000 in
theorem keep1_no (base n : List UInt8) (a : Pair) (B q cb nb ab : Nat) (av : Value) (kl : List Pair) (w : World) (hM : HasMax w) (hb : base.length ≤ 3000) (ha : a.2.length ≤ maxLen)
    (hK : Kp w B q n av kl) (hcb : w.heap[cb]? = some (.cells #[.string ⟨base.toArray⟩] 126 (0, 0))) (hE : attrE n (toldA base a) ≠ 0) (hnb : w.cell? ⟨nb, 0, none⟩ = some (.string ⟨n.toArray⟩)) (hab : w.heap[ab]? = some (.cells #[.string ⟨a.1.toArray⟩, .string ⟨a.2.toArray⟩] 52 (0, 0))) :
    Calls Tryz.prog 296 #[.pointer (some ⟨q, 0, none⟩), .pointer (some ⟨cb, 0, none⟩), .pointer (some ⟨nb, 0, none⟩), .pointer (some ⟨ab, 0, none⟩)] w fun e w' =>
      (e = .panicked (stopped (attrE n (toldA base a))) ∧ Kp w' B q n av kl) ∧ Keeps (q :: av.ownBlock.toList) w w' := by
  have hca := hide (fun w (hM : HasMax w) => cleanAttr_any base n a w hM hb ha)
  generalize toldA base a = p at *
  generalize attrE n p = E at *
  obtain ⟨o, c, hav⟩ := row_form hK.row
  subst hav
  have c1 : w.cell? ⟨q, 1, none⟩ = some (.slice o kl.length c) := cell_blk hK.blk 1
  have c0 : w.cell? ⟨cb, 0, none⟩ = some (.string ⟨base.toArray⟩) := cell_blk hcb 0
  have a0 : w.cell? ⟨ab, 0, none⟩ = some (.string ⟨a.1.toArray⟩) := cell_blk hab 0
  have a1 : w.cell? ⟨ab, 1, none⟩ = some (.string ⟨a.2.toArray⟩) := cell_blk hab 1
  have hcn := hide (fun w (hM : HasMax w) => (hca.out w hM).mono (R' := fun e w' => e = .panicked (stopped E) ∧ Keeps [] w w') (fun e w' h => ⟨h.1.elim (fun h => absurd h.1 hE) (fun h => h.2), h.2⟩))
  clear hca
  go_enter Tryz.func296, Tryz.ntmps296
  go_upto_region 0 with fail
  go_region_dies
  all_goals refine (hcn.out _ (hM.keeps ((Keeps.refl [] w).drew) List.not_mem_nil)).mono ?_
  all_goals rintro e w2 ⟨rfl, hk2⟩
  all_goals have hk2' : Keeps [] w w2 := keeps_drew hk2
  all_goals have hK2 := hK.keeps hk2' List.not_mem_nil (fun _ _ => List.not_mem_nil)
  all_goals exact ⟨rfl, ⟨rfl, hK2⟩, hk2'.to (by simp)⟩
end Go.Proofs.YtlcljanibjdejaaGreat

namespace Go.Proofs.YtlcljanibjdejaaGreat
open Go.RowKit Go.Maps

theorem LsT.ns {w : World} {B r : Nat} {s : Lst} {T : List Nat} (h : LsT w B r s T) : ∃ allv textv, w.heap[r]? = some (.cells #[allv, textv] 199 (0, 0)) ∧ (∃ o n c, allv = .slice o n c) ∧ Ns w (fun g => B ≤ g) allv s.all := by
  obtain ⟨allv, textv, l, rfl, e2, h⟩ := h
  obtain ⟨o, c, ho⟩ := row_form h.all
  refine ⟨allv, textv, h.blk, ⟨o, _, c, ho⟩, .mk _ l _ e2 (LiesP.of_row h.all (fun g hg => (h.all.lt g hg).1)) (fun p hp => (h.done p hp).1.mono (fun _ _ hg => hg.1)) (fun p hp => (h.done p hp).2.mono (fun _ _ hg => hg.1))⟩

set_option maxHeartbeats 1000000 in
theorem allL_any (B r : Nat) (s : Lst) (T : List Nat) (w : World) (h : LsT w B r s T) (hw : s.weight ≤ 4000000) :
    Calls Tryz.prog 180 #[.pointer (some ⟨r, 0, none⟩)] w fun e w' => ∃ v, e = .returned v ∧ Ns w' (fun g => B ≤ g) v s.done ∧ Keeps T w w' := by
  have het := hide (endTextL_any B r s T w h hw)
  clear h
  go_enter Tryz.func180, Tryz.ntmps180
  go_wp2_with fail
  refine het.out.mono ?_
  rintro e w1 ⟨rfl, T1, h1, hs1⟩
  obtain ⟨allv, textv, hb, ⟨o, n, c, rfl⟩, hN⟩ := h1.ns
  have c0 : w1.cell? ⟨r, 0, none⟩ = some (.slice o n c) := cell_blk hb 0
  go_wp2_with fail
  go_ret
  exact ⟨_, rfl, hN, hs1.1⟩

/-- A list that has just been made. -/
theorem start_ls (w : World) (h0 : 0 < w.heap.size) : LsT (w.alloc (.cells #[.slice none 0 0, .slice none 0 0] 199)) w.heap.size w.heap.size ⟨[], []⟩ (touchL w.heap.size (.slice none 0 0) (.slice none 0 0)) :=
  ⟨.slice none 0 0, .slice none 0 0, [], rfl, rfl, heap_alloc_new w _, World.ownsRow_nil _ _ _ _, World.ownsRow_nil _ _ _ _, by simp, Nat.le_refl _, h0⟩

theorem cell_int {w : World} {g o pe : Nat} {k : Int} {t : List UInt8} {ty : TypeId} (hp : w.heap[pe]? = some (.cells #[.int .i64 k] ty (0, 0))) (h : w.cell? ⟨g, o, none⟩ = some (.string ⟨t.toArray⟩)) : g ≠ pe := by
  rintro rfl
  unfold World.cell? at h
  simp only at h
  rw [hp] at h
  cases o with
  | zero => simp at h
  | succ o => simp at h

/-- What lies as it must does not lie in the block of a number. -/
theorem LiesP.avoid {w : World} {P : Nat → Prop} {v : Value} {n z : Nat} {xs : List Value} (h : LiesP w P v n z xs) (h0 : 0 < n → ∃ t : List UInt8, xs[0]? = some (.string ⟨t.toArray⟩)) {pe : Nat} {k : Int} {ty : TypeId} (hp : w.heap[pe]? = some (.cells #[.int .i64 k] ty (0, 0))) : LiesP w (fun g => P g ∧ g ≠ pe) v n z xs := by
  refine ⟨h.1, ?_⟩
  rcases h.2 with h1 | ⟨g, o, c, rfl, h1, h2, h3, h4, h5⟩
  · exact .inl h1
  · by_cases hn : n = 0
    · subst hn
      exact .inl ⟨rfl, _, c, rfl, h2⟩
    · obtain ⟨t, ht⟩ := h0 (by omega)
      exact .inr ⟨g, o, c, rfl, h1, h2, h3, ⟨h4, cell_int hp (h5 0 _ ht)⟩, h5⟩
theorem pairs_first (l : List Pair) : 0 < l.length → ∃ t : List UInt8, (pairCells l)[0]? = some (.string ⟨t.toArray⟩) := fun h => ⟨_, pair_at0 l 0 h⟩
theorem pns_first (l : List Pn) : 0 < l.length → ∃ t : List UInt8, (pnsCells l)[0]? = some (.string ⟨t.toArray⟩) := fun h => by
  have := pn_at l 0 0 h (by omega)
  exact ⟨_, this.trans rfl⟩
theorem Ns.avoid {w : World} {P : Nat → Prop} {v : Value} {ns : List Nd} (h : Ns w P v ns) {pe : Nat} {k : Int} {ty : TypeId} (hp : w.heap[pe]? = some (.cells #[.int .i64 k] ty (0, 0))) : Ns w (fun g => P g ∧ g ≠ pe) v ns := by
  induction h with
  | mk v l ns e h ha _ ih => exact .mk v l ns e (h.avoid (pns_first l) hp) (fun p hp' => (ha p hp').avoid (pairs_first _) hp) ih
theorem LiesP.keepsInt {w w' : World} {P : Nat → Prop} {n : Nat} {v : Value} {l : List Pair} (h : LiesP w P v n 2 (pairCells l)) (hn : n = l.length) {pe : Nat} {k : Int} {ty : TypeId} (hp : w.heap[pe]? = some (.cells #[.int .i64 k] ty (0, 0))) (hk : Keeps [pe] w w') : LiesP w' P v n 2 (pairCells l) :=
  ((h.avoid (fun h0 => pairs_first l (by omega)) hp).keeps hk (fun g hg => by simpa using hg.2)).mono (fun _ _ hg => hg.1)
theorem Ns.keepsInt {w w' : World} {P : Nat → Prop} {v : Value} {ns : List Nd} (h : Ns w P v ns) {pe : Nat} {k : Int} {ty : TypeId} (hp : w.heap[pe]? = some (.cells #[.int .i64 k] ty (0, 0))) (hk : Keeps [pe] w w') : Ns w' P v ns :=
  ((h.avoid hp).keeps hk (fun g hg => by simpa using hg.2)).mono (fun _ _ hg => hg.1)

/-- A list does not hang on a number in a block of its own. -/
theorem LsT.keepsInt {w w' : World} {B r : Nat} {s : Lst} {T : List Nat} (h : LsT w B r s T) {pe : Nat} {k : Int} (hp : w.heap[pe]? = some (.cells #[.int .i64 k] 22 (0, 0))) (hk : Keeps [pe] w w') : LsT w' B r s T := by
  obtain ⟨allv, textv, l, rfl, e2, h⟩ := h
  have hr : r ≠ pe := fun e => by
    have := h.blk
    rw [e, hp] at this
    simp at this
  refine ⟨allv, textv, l, rfl, e2, ⟨by rw [hk.block r h.lt (by simpa using hr)]; exact h.blk, hk.owns h.all (fun g hg hm => by simp at hm; subst hm; exact block_ne h.all hp (by decide) hg), hk.owns h.txt (fun g hg hm => by simp at hm; subst hm; exact block_ne h.txt hp (by decide) hg), fun q hq => ⟨(h.done q hq).1.keepsInt rfl hp hk, (h.done q hq).2.keepsInt hp hk⟩, h.hr, h.pos⟩⟩
end Go.Proofs.YtlcljanibjdejaaGreat
