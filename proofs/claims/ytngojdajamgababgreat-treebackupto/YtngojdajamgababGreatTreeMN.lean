/- nodes.Walk, fits, CheckText, checkNode, nodes.Check, tree.Check. fits, CheckText, checkNode. -/
import Derived.Test.YtngojdajamgababGreatTreeKL
namespace Go.Proofs.YtngojdajamgababGreat
open Go.RowKit Go.Maps

set_option maxHeartbeats 1000000 in
theorem Walk_any {σ : Type} {K : Nat} {caps : Array Value} {f : σ → List Nd → Nat → List Nd → σ × Bool} {I : σ → World → Prop} {S : List Nat} {B1 : Nat} {P : Nat → Prop} {F : List Nd → Prop} (V : Vis K caps f I S B1 P F)
    (w : World) (v : Value) (ns : List Nd) (h : Ns w P v ns) (s : σ) (hI : I s w) (hB : B1 ≤ w.heap.size) (hsz : sizeNs ns ≤ 2000000) (hF : F ns) :
    Calls Tryz.prog 61 #[v, .func (.func K) #[] caps] w fun e w' => e = .returned (.bool (walkL f ns ns 0 [] s).2) ∧ I (walkL f ns ns 0 [] s).1 w' ∧ Keeps S w w' := by
  have hc := hide (walk_all V w v ns h w [] (Keeps.refl _ _) (fun _ _ => List.not_mem_nil) s (.slice none 0 0) [] hI (World.ownsRow_nil _ _ _ _) hB (by simpa using hsz) hF)
  simp only [List.map_nil] at hc
  generalize walkL f ns ns 0 [] s = R at *
  obtain ⟨o, c, hv⟩ := h.form
  subst hv
  clear h
  go_enter Tryz.func61, Tryz.ntmps61
  go_wp2_with fail
  refine hc.out.mono ?_
  rintro e w1 ⟨rfl, h1, _, h2⟩
  go_wp2_with fail
  go_ret
  exact ⟨rfl, h1, h2.mono (fun g hg _ => by simpa [chgW, Value.ownBlock] using hg)⟩

/-- A number in a block. -/
def IsNum (w : World) (c : Nat) (t : TypeId) (s : Int) : Prop := w.heap[c]? = some (.cells #[.int .i64 s] t (0, 0))
theorem IsNum.keeps {S : List Nat} {w w' : World} {c : Nat} {t : TypeId} {s : Int} (h : IsNum w c t s) (hk : Keeps S w w') (hc : c ∉ S) : IsNum w' c t s := by
  unfold IsNum at *
  rw [hk.block c (lt_of_block h) hc]; exact h
theorem IsNum.set {w : World} {c : Nat} {t : TypeId} {s : Int} (h : IsNum w c t s) (u : Int) : IsNum (w.setCell ⟨c, 0, none⟩ (.int .i64 u)) c t u := by
  unfold IsNum at *
  simp [World.setCell, Array.getElem?_modify, h]

def fitsF (s : Int) (b : List Nd) (i : Nat) (ar : List Nd) : Int × Bool :=
  (wrap64 (s + 1), decide (wrap64 (s + 1) ≤ 3000) && ((b[i]?.map Nd.name == some []) || decide (ar.length < 8)))

set_option maxRecDepth 4000 in
set_option maxHeartbeats 2000000 in
theorem fits1_any (P : Nat → Prop) (B1 c : Nat) (s : Int) (w : World) (v : Value) (ns : List Nd) (i : Nat) (av : Value) (pl : List Pn) (hI : IsNum w c 3 s) (hN : Ns w P v ns) (hi : i < ns.length) (hrow : w.ownsRow B1 61 4 av pl.length (pnsCells pl)) (hpl : pl.length ≤ 2000000) (hc : ∀ g, P g → g ≠ c) :
    Calls Tryz.prog 83 #[v, .int .i64 i, av, .pointer (some ⟨c, 0, none⟩)] w fun e w' => e = .returned (.bool (fitsF s ns i (pl.map Pn.nd)).2) ∧ IsNum w' c 3 (fitsF s ns i (pl.map Pn.nd)).1 ∧ Keeps [c] w w' := by
  unfold fitsF
  simp only
  cases hN with
  | mk _ l _ hns hl ha hk =>
  obtain ⟨o, c', rfl, h1, h2⟩ := hl.lies.form
  obtain ⟨ao, ac, hav⟩ := row_form hrow
  subst hav
  subst hns
  rw [List.length_map] at hi
  have hd0 : w.cell? ⟨c, 0, none⟩ = some (.int .i64 s) := cell_blk hI 0
  have hd1 : w.frozen? ⟨c, 0, none⟩ = false := free_blk hI 0
  rcases hl.2 with ⟨h0, _⟩ | ⟨g, x, c9, e9, _, _, _, hPg, hcl⟩
  · omega
  simp only [Value.slice.injEq] at e9
  obtain ⟨rfl, _, rfl⟩ := e9
  obtain ⟨a0, _, _, _⟩ := lies_pn hcl i hi
  have hgc : g ≠ c := hc g hPg
  have a0s : ∀ u, (w.setCell ⟨c, 0, none⟩ u).cell? ⟨g, x + i * 4, none⟩ = some (.string ⟨l[i].nd.name.toArray⟩) := fun u =>
    cell_keepsS ((Keeps.refl [c] w).setCell (p := ⟨c, 0, none⟩) (.inl (by simp)) u) (a := ⟨g, x + i * 4, none⟩) (by simpa using hgc) a0
  have hnm : ((l.map Pn.nd)[i]?.map Nd.name == some []) = decide (l[i].nd.name = []) := by
    rw [List.getElem?_map, List.getElem?_eq_getElem hi, Bool.eq_iff_iff]
    simp
  rw [hnm, List.length_map]
  have p0 := emptyB l[i].nd.name
  have hst := hI.set (wrap64 (s + 1))
  have hks : Keeps [c] w (w.setCell ⟨c, 0, none⟩ (.int .i64 (wrap64 (s + 1)))) := (Keeps.refl [c] w).setCell (.inl (by simp)) _
  clear hcl hnm hrow ha hk hl
  obtain ⟨S1, hS1⟩ : ∃ S1, wrap64 (s + 1) = S1 := ⟨_, rfl⟩
  rw [hS1] at hst hks ⊢
  generalize l[i].nd.name = nm at *
  unfold maxLen at h2
  have d2 : (w.setCell ⟨c, 0, none⟩ (.int .i64 S1)).cell? ⟨c, 0, none⟩ = some (.int .i64 S1) := cell_blk hst 0
  by_cases q1 : S1 ≤ 3000
  · have q1b : decide (S1 ≤ 3000) = true := by simpa using q1
    rw [q1b, Bool.true_and]
    by_cases q2 : nm = []
    · have q2b : decide (nm = []) = true := by simpa using q2
      rw [q2b]
      rw [Bool.true_or]
      subst q2
      clear p0 q2b
      go_enter Tryz.func83, Tryz.ntmps83
      go_wp2_with fail
      go_ret
      exact ⟨rfl, hst, hks⟩
    · have q2b : decide (nm = []) = false := by simpa using q2
      rw [q2b]
      rw [Bool.false_or]
      have q2e : nm.isEmpty = false := by cases nm <;> simp_all
      clear q2 p0 q2b
      by_cases q3 : pl.length < 8
      · have q3b : decide (pl.length < 8) = true := by simpa using q3
        have q3c : (pl.length : Int) < 8 := by omega
        rw [q3b]
        go_enter Tryz.func83, Tryz.ntmps83
        go_wp2_with fail
        go_ret
        exact ⟨rfl, hst, hks⟩
      · have q3b : decide (pl.length < 8) = false := by simpa using q3
        have q3c : ¬ (pl.length : Int) < 8 := by omega
        rw [q3b]
        go_enter Tryz.func83, Tryz.ntmps83
        go_wp2_with fail
        go_ret
        exact ⟨rfl, hst, hks⟩
  · have q1b : decide (S1 ≤ 3000) = false := by simpa using q1
    rw [q1b, Bool.false_and]
    go_enter Tryz.func83, Tryz.ntmps83
    go_wp2_with fail
    go_ret
    exact ⟨rfl, hst, hks⟩
end Go.Proofs.YtngojdajamgababGreat

namespace Go.Proofs.YtngojdajamgababGreat
open Go.RowKit Go.Maps

theorem enters83 : Enters 83 := enters_of Tryz.func83 (by kernel_rfl) (by kernel_rfl)

theorem Ns.lt {w : World} {P : Nat → Prop} {v : Value} {ns : List Nd} (h : Ns w P v ns) : Ns w (fun g => g < w.heap.size) v ns := h.mono (fun _ hg _ => hg)

theorem fits_vis (c B1 : Nat) (h : c < B1) : Vis 83 #[.pointer (some ⟨c, 0, none⟩)] fitsF (fun s w => IsNum w c 3 s) [c] B1 (fun g => g < c) (fun _ => True) where
  call s w v ns i av pl hI hN _ hi hrow hpl _ := fits1_any _ B1 c s w v ns i av pl hI hN hi hrow hpl (fun g hg => by omega)
  stable s w w' L hL hI hk := hI.keeps hk (fun hm => by have := hL c hm; omega)
  down _ _ _ _ := trivial
  low g hg := by simp at hg; omega
  enters := enters83
  part g hg := ⟨by omega, by simp; omega⟩

set_option maxHeartbeats 1000000 in
theorem fits_any (w : World) (P : Nat → Prop) (v : Value) (ns : List Nd) (h : Ns w P v ns) (hsz : sizeNs ns ≤ 2000000) :
    Calls Tryz.prog 60 #[v] w fun e w' => e = .returned (.bool (walkL fitsF ns ns 0 [] 0).2) ∧ Keeps [] w w' := by
  have hka : Keeps [] w (w.alloc (.cells #[.int .i64 0] 3)) := (Keeps.refl [] w).alloc _
  have hc := hide (Walk_any (fits_vis w.heap.size (w.heap.size + 1) (by omega)) (w.alloc (.cells #[.int .i64 0] 3)) v ns (h.lt.keeps0 hka) 0 (heap_alloc_new w _) (by simp) hsz trivial)
  generalize walkL fitsF ns ns 0 [] 0 = R at *
  obtain ⟨o, c, hv⟩ := h.form
  subst hv
  clear h
  go_enter Tryz.func60, Tryz.ntmps60
  go_wp2_with fail
  refine hc.out.mono ?_
  rintro e w1 ⟨rfl, _, h2⟩
  go_wp2_with fail
  go_ret
  refine ⟨rfl, ?_⟩
  have h3 := keeps_within hka h2 (fun g hg hlt => by simp at hg; omega)
  exact h3

/-! ### a text in a list -/
def chkTextOf (tx : List UInt8) (at' : List Pair) (ks : List Nd) (prev : Bool) : Int := if tx.isEmpty = true ∨ 0 < at'.length ∨ 0 < ks.length then 1 else if prev = true then 4 else 0
def prevText (b : List Nd) (i : Nat) : Bool := decide (0 < i) && (b[i - 1]?.map Nd.name == some [])
def chkText (b : List Nd) (i : Nat) : Int :=
  match b[i]? with
  | none => 0
  | some n => chkTextOf n.text n.attrs n.kids (prevText b i)

set_option maxRecDepth 4000 in
set_option maxHeartbeats 4000000 in
theorem checkText_any (w : World) (P : Nat → Prop) (v : Value) (ns : List Nd) (i : Nat) (hN : Ns w P v ns) (hi : i < ns.length) :
    Calls Tryz.prog 63 #[v, .int .i64 i] w fun e w' => e = .returned (.int .i64 (chkText ns i)) ∧ Keeps [] w w' := by
  cases hN with
  | mk _ l _ hns hl ha hk =>
  obtain ⟨o, c', rfl, h1, h2⟩ := hl.lies.form
  subst hns
  rw [List.length_map] at hi
  obtain ⟨g, x, rfl, hcl⟩ := hl.lies.addr (by omega)
  obtain ⟨a0, a1, a2, a3⟩ := lies_pn hcl i hi
  have hprev : 0 < i → ∃ pn : List UInt8, w.cell? ⟨g, x + (i - 1) * 4, none⟩ = some (.string ⟨pn.toArray⟩) ∧ prevText (l.map Pn.nd) i = pn.isEmpty := fun h0 => by
    refine ⟨l[i - 1].nd.name, (lies_pn hcl (i - 1) (by omega)).1, ?_⟩
    unfold prevText
    rw [List.getElem?_map, List.getElem?_eq_getElem (by omega)]
    cases hq : l[i - 1].nd.name <;> simp [h0, hq]
  have hno : i = 0 → prevText (l.map Pn.nd) i = false := fun h0 => by simp [prevText, h0]
  have hc0 : chkText (l.map Pn.nd) i = chkTextOf l[i].nd.text l[i].nd.attrs l[i].nd.kids (prevText (l.map Pn.nd) i) := by
    unfold chkText
    rw [List.getElem?_map, List.getElem?_eq_getElem hi]
    rfl
  rw [hc0]
  obtain ⟨oa, ca, hav⟩ := (ha l[i] (List.getElem_mem hi)).form
  obtain ⟨ok, ck, hkv⟩ := (hk l[i] (List.getElem_mem hi)).form
  rw [hav] at a1
  rw [hkv] at a3
  clear hcl hav hkv ha hk hl hc0
  generalize prevText (l.map Pn.nd) i = pb at *
  generalize l[i].nd = nd at *
  generalize nd.attrs = at' at *
  generalize nd.text = tx at *
  generalize nd.kids = ks at *
  generalize nd.name = nm at *
  have hka : Keeps [] w (w.alloc (.cells #[.string ⟨nm.toArray⟩, .slice oa at'.length ca, .string ⟨tx.toArray⟩, .slice ok ks.length ck] 61)) := (Keeps.refl [] w).alloc _
  unfold maxLen at h2
  cases t0 : tx.isEmpty
  · by_cases t1 : 0 < at'.length
    · have e1 : chkTextOf tx at' ks pb = 1 := by simp only [chkTextOf, t1, true_or, or_true, if_true]
      rw [e1]
      clear hprev hno e1
      go_enter Tryz.func63, Tryz.ntmps63
      go_wp2_with fail
      go_ret
      exact ⟨rfl, hka⟩
    · by_cases t2 : 0 < ks.length
      · have e1 : chkTextOf tx at' ks pb = 1 := by simp only [chkTextOf, t2, or_true, if_true]
        rw [e1]
        clear hprev hno e1
        go_enter Tryz.func63, Tryz.ntmps63
        go_wp2_with fail
        go_ret
        exact ⟨rfl, hka⟩
      · have e1 : chkTextOf tx at' ks pb = if pb = true then 4 else 0 := by simp only [chkTextOf, t0, t1, t2, or_self, if_false, Bool.false_eq_true]
        rw [e1]
        clear e1
        by_cases i0 : 0 < i
        · obtain ⟨pn, p9, hp9⟩ := hprev i0
          have p9a : ∀ o', (w.alloc o').cell? ⟨g, x + (i - 1) * 4, none⟩ = some (.string ⟨pn.toArray⟩) := fun o' => cell_keeps ((Keeps.refl [] w).alloc o') p9
          have i1 : ((i : Int) - 1) = ((i - 1 : Nat) : Int) := by omega
          have ib : i ≤ 9223372036854775807 := by omega
          rw [hp9]
          clear hprev hno hp9
          cases q : pn.isEmpty
          · rw [if_neg (by simp)]
            go_enter Tryz.func63, Tryz.ntmps63
            go_wp2_with fail
            go_ret
            exact ⟨rfl, hka⟩
          · rw [if_pos rfl]
            go_enter Tryz.func63, Tryz.ntmps63
            go_wp2_with fail
            go_ret
            exact ⟨rfl, hka⟩
        · have hi0 : i = 0 := by omega
          rw [hno hi0, if_neg (by simp)]
          clear hprev hno hi0
          go_enter Tryz.func63, Tryz.ntmps63
          go_wp2_with fail
          go_ret
          exact ⟨rfl, hka⟩
  · have e1 : chkTextOf tx at' ks pb = 1 := by simp only [chkTextOf, t0, true_or, if_true]
    rw [e1]
    clear hprev hno e1
    go_enter Tryz.func63, Tryz.ntmps63
    go_wp2_with fail
    go_ret
    exact ⟨rfl, hka⟩
end Go.Proofs.YtngojdajamgababGreat
