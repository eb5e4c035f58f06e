/- nodes.Walk, fits, CheckText, checkNode, nodes.Check, tree.Check. fits, CheckText, checkNode. printOpen, Print. tags, tokenBegun. -/
import Derived.Test.YtlcljanibjdejaaGreatPk19
import Derived.Test.YtlcljanibjdejaaGreatPk15
namespace Go.Proofs.YtlcljanibjdejaaGreat
open Go.RowKit Go.Maps

set_option maxHeartbeats 1000000 in
theorem Walk_any {σ : Type} {K : Nat} {caps : Array Value} {f : σ → List Nd → Nat → List Nd → σ × Bool} {I : σ → World → Prop} {S : List Nat} {B1 : Nat} {P : Nat → Prop} {F : List Nd → Prop} (V : Vis K caps f I S B1 P F)
    (w : World) (v : Value) (ns : List Nd) (h : Ns w P v ns) (s : σ) (hI : I s w) (hB : B1 ≤ w.heap.size) (hsz : sizeNs ns ≤ 2000000) (hF : F ns) :
    Calls Tryz.prog 87 #[v, .func (.func K) #[] caps] w fun e w' => e = .returned (.bool (walkL f ns ns 0 [] s).2) ∧ I (walkL f ns ns 0 [] s).1 w' ∧ Keeps S w w' := by
  have hc := hide (walk_all V w v ns h w [] (Keeps.refl _ _) (fun _ _ => List.not_mem_nil) s (.slice none 0 0) [] hI (World.ownsRow_nil _ _ _ _) hB (by simpa using hsz) hF)
  simp only [List.map_nil] at hc
  generalize walkL f ns ns 0 [] s = R at *
  obtain ⟨o, c, hv⟩ := h.form
  subst hv
  clear h
  go_enter Tryz.func87, Tryz.ntmps87
  go_wp2_with fail
  refine hc.out.mono ?_
  rintro e w1 ⟨rfl, h1, _, h2⟩
  go_wp2_with fail
  go_ret
  exact ⟨rfl, h1, h2.mono (fun g hg _ => by simpa [chgW, Value.ownBlock] using hg)⟩

/-- A number in a block. -/
def IsNum (w : World) (c : Nat) (t : TypeId) (s : Int) : Prop := w.heap[c]? = some (.cells #[.int .i64 s] t (0, 0))
theorem IsNum.keeps {S : List Nat} {w w' : World} {c : Nat} {t : TypeId} {s : Int} (h : IsNum w c t s) (hk : Keeps S w w') (hc : c ∉ S) : IsNum w' c t s := by
  unfold IsNum at *
  rw [hk.block c (lt_of_block h) hc]; exact h
theorem IsNum.set {w : World} {c : Nat} {t : TypeId} {s : Int} (h : IsNum w c t s) (u : Int) : IsNum (w.setCell ⟨c, 0, none⟩ (.int .i64 u)) c t u := by
  unfold IsNum at *
  simp [World.setCell, Array.getElem?_modify, h]

def fitsF (s : Int) (b : List Nd) (i : Nat) (ar : List Nd) : Int × Bool :=
  (wrap64 (s + 1), decide (wrap64 (s + 1) ≤ 3000) && ((b[i]?.map Nd.name == some []) || decide (ar.length < 8)))

set_option maxRecDepth 4000 in
set_option maxHeartbeats 2000000 in
theorem fits1_any (P : Nat → Prop) (B1 c : Nat) (s : Int) (w : World) (v : Value) (ns : List Nd) (i : Nat) (av : Value) (pl : List Pn) (hI : IsNum w c 3 s) (hN : Ns w P v ns) (hi : i < ns.length) (hrow : w.ownsRow B1 45 4 av pl.length (pnsCells pl)) (hpl : pl.length ≤ 2000000) (hc : ∀ g, P g → g ≠ c) :
    Calls Tryz.prog 251 #[v, .int .i64 i, av, .pointer (some ⟨c, 0, none⟩)] w fun e w' => e = .returned (.bool (fitsF s ns i (pl.map Pn.nd)).2) ∧ IsNum w' c 3 (fitsF s ns i (pl.map Pn.nd)).1 ∧ Keeps [c] w w' := by
  unfold fitsF
  simp only
  cases hN with
  | mk _ l _ hns hl ha hk =>
  obtain ⟨o, c', rfl, h1, h2⟩ := hl.lies.form
  obtain ⟨ao, ac, hav⟩ := row_form hrow
  subst hav
  subst hns
  rw [List.length_map] at hi
  have hd0 : w.cell? ⟨c, 0, none⟩ = some (.int .i64 s) := cell_blk hI 0
  have hd1 : w.frozen? ⟨c, 0, none⟩ = false := free_blk hI 0
  rcases hl.2 with ⟨h0, _⟩ | ⟨g, x, c9, e9, _, _, _, hPg, hcl⟩
  · omega
  simp only [Value.slice.injEq] at e9
  obtain ⟨rfl, _, rfl⟩ := e9
  obtain ⟨a0, _, _, _⟩ := lies_pn hcl i hi
  have hgc : g ≠ c := hc g hPg
  have a0s : ∀ u, (w.setCell ⟨c, 0, none⟩ u).cell? ⟨g, x + i * 4, none⟩ = some (.string ⟨l[i].nd.name.toArray⟩) := fun u =>
    cell_keepsS ((Keeps.refl [c] w).setCell (p := ⟨c, 0, none⟩) (.inl (by simp)) u) (a := ⟨g, x + i * 4, none⟩) (by simpa using hgc) a0
  have hnm : ((l.map Pn.nd)[i]?.map Nd.name == some []) = decide (l[i].nd.name = []) := by
    rw [List.getElem?_map, List.getElem?_eq_getElem hi, Bool.eq_iff_iff]
    simp
  rw [hnm, List.length_map]
  have p0 := emptyB l[i].nd.name
  have hst := hI.set (wrap64 (s + 1))
  have hks : Keeps [c] w (w.setCell ⟨c, 0, none⟩ (.int .i64 (wrap64 (s + 1)))) := (Keeps.refl [c] w).setCell (.inl (by simp)) _
  clear hcl hnm hrow ha hk hl
  obtain ⟨S1, hS1⟩ : ∃ S1, wrap64 (s + 1) = S1 := ⟨_, rfl⟩
  rw [hS1] at hst hks ⊢
  generalize l[i].nd.name = nm at *
  unfold maxLen at h2
  have d2 : (w.setCell ⟨c, 0, none⟩ (.int .i64 S1)).cell? ⟨c, 0, none⟩ = some (.int .i64 S1) := cell_blk hst 0
  by_cases q1 : S1 ≤ 3000
  · have q1b : decide (S1 ≤ 3000) = true := by simpa using q1
    rw [q1b, Bool.true_and]
    by_cases q2 : nm = []
    · have q2b : decide (nm = []) = true := by simpa using q2
      rw [q2b]
      rw [Bool.true_or]
      subst q2
      clear p0 q2b
      go_enter Tryz.func251, Tryz.ntmps251
      go_wp2_with fail
      go_ret
      exact ⟨rfl, hst, hks⟩
    · have q2b : decide (nm = []) = false := by simpa using q2
      rw [q2b]
      rw [Bool.false_or]
      have q2e : nm.isEmpty = false := by cases nm <;> simp_all
      clear q2 p0 q2b
      by_cases q3 : pl.length < 8
      · have q3b : decide (pl.length < 8) = true := by simpa using q3
        have q3c : (pl.length : Int) < 8 := by omega
        rw [q3b]
        go_enter Tryz.func251, Tryz.ntmps251
        go_wp2_with fail
        go_ret
        exact ⟨rfl, hst, hks⟩
      · have q3b : decide (pl.length < 8) = false := by simpa using q3
        have q3c : ¬ (pl.length : Int) < 8 := by omega
        rw [q3b]
        go_enter Tryz.func251, Tryz.ntmps251
        go_wp2_with fail
        go_ret
        exact ⟨rfl, hst, hks⟩
  · have q1b : decide (S1 ≤ 3000) = false := by simpa using q1
    rw [q1b, Bool.false_and]
    go_enter Tryz.func251, Tryz.ntmps251
    go_wp2_with fail
    go_ret
    exact ⟨rfl, hst, hks⟩
end Go.Proofs.YtlcljanibjdejaaGreat

namespace Go.Proofs.YtlcljanibjdejaaGreat
open Go.RowKit Go.Maps

theorem enters251 : Enters 251 := enters_of Tryz.func251 (by kernel_rfl) (by kernel_rfl)

theorem Ns.lt {w : World} {P : Nat → Prop} {v : Value} {ns : List Nd} (h : Ns w P v ns) : Ns w (fun g => g < w.heap.size) v ns := h.mono (fun _ hg _ => hg)

theorem fits_vis (c B1 : Nat) (h : c < B1) : Vis 251 #[.pointer (some ⟨c, 0, none⟩)] fitsF (fun s w => IsNum w c 3 s) [c] B1 (fun g => g < c) (fun _ => True) where
  call s w v ns i av pl hI hN _ hi hrow hpl _ := fits1_any _ B1 c s w v ns i av pl hI hN hi hrow hpl (fun g hg => by omega)
  stable s w w' L hL hI hk := hI.keeps hk (fun hm => by have := hL c hm; omega)
  down _ _ _ _ := trivial
  low g hg := by simp at hg; omega
  enters := enters251
  part g hg := ⟨by omega, by simp; omega⟩

set_option maxHeartbeats 1000000 in
theorem fits_any (w : World) (P : Nat → Prop) (v : Value) (ns : List Nd) (h : Ns w P v ns) (hsz : sizeNs ns ≤ 2000000) :
    Calls Tryz.prog 181 #[v] w fun e w' => e = .returned (.bool (walkL fitsF ns ns 0 [] 0).2) ∧ Keeps [] w w' := by
  have hka : Keeps [] w (w.alloc (.cells #[.int .i64 0] 3)) := (Keeps.refl [] w).alloc _
  have hc := hide (Walk_any (fits_vis w.heap.size (w.heap.size + 1) (by omega)) (w.alloc (.cells #[.int .i64 0] 3)) v ns (h.lt.keeps0 hka) 0 (heap_alloc_new w _) (by simp) hsz trivial)
  generalize walkL fitsF ns ns 0 [] 0 = R at *
  obtain ⟨o, c, hv⟩ := h.form
  subst hv
  clear h
  go_enter Tryz.func181, Tryz.ntmps181
  go_wp2_with fail
  refine hc.out.mono ?_
  rintro e w1 ⟨rfl, _, h2⟩
  go_wp2_with fail
  go_ret
  refine ⟨rfl, ?_⟩
  have h3 := keeps_within hka h2 (fun g hg hlt => by simp at hg; omega)
  exact h3

/-! ### a text in a list -/
def chkTextOf (tx : List UInt8) (at' : List Pair) (ks : List Nd) (prev : Bool) : Int := if tx.isEmpty = true ∨ 0 < at'.length ∨ 0 < ks.length then 1 else if prev = true then 4 else 0
def prevText (b : List Nd) (i : Nat) : Bool := decide (0 < i) && (b[i - 1]?.map Nd.name == some [])
def chkText (b : List Nd) (i : Nat) : Int :=
  match b[i]? with
  | none => 0
  | some n => chkTextOf n.text n.attrs n.kids (prevText b i)

set_option maxRecDepth 4000 in
set_option maxHeartbeats 4000000 in
theorem checkText_any (w : World) (P : Nat → Prop) (v : Value) (ns : List Nd) (i : Nat) (hN : Ns w P v ns) (hi : i < ns.length) :
    Calls Tryz.prog 183 #[v, .int .i64 i] w fun e w' => e = .returned (.int .i64 (chkText ns i)) ∧ Keeps [] w w' := by
  cases hN with
  | mk _ l _ hns hl ha hk =>
  obtain ⟨o, c', rfl, h1, h2⟩ := hl.lies.form
  subst hns
  rw [List.length_map] at hi
  obtain ⟨g, x, rfl, hcl⟩ := hl.lies.addr (by omega)
  obtain ⟨a0, a1, a2, a3⟩ := lies_pn hcl i hi
  have hprev : 0 < i → ∃ pn : List UInt8, w.cell? ⟨g, x + (i - 1) * 4, none⟩ = some (.string ⟨pn.toArray⟩) ∧ prevText (l.map Pn.nd) i = pn.isEmpty := fun h0 => by
    refine ⟨l[i - 1].nd.name, (lies_pn hcl (i - 1) (by omega)).1, ?_⟩
    unfold prevText
    rw [List.getElem?_map, List.getElem?_eq_getElem (by omega)]
    cases hq : l[i - 1].nd.name <;> simp [h0, hq]
  have hno : i = 0 → prevText (l.map Pn.nd) i = false := fun h0 => by simp [prevText, h0]
  have hc0 : chkText (l.map Pn.nd) i = chkTextOf l[i].nd.text l[i].nd.attrs l[i].nd.kids (prevText (l.map Pn.nd) i) := by
    unfold chkText
    rw [List.getElem?_map, List.getElem?_eq_getElem hi]
    rfl
  rw [hc0]
  obtain ⟨oa, ca, hav⟩ := (ha l[i] (List.getElem_mem hi)).form
  obtain ⟨ok, ck, hkv⟩ := (hk l[i] (List.getElem_mem hi)).form
  rw [hav] at a1
  rw [hkv] at a3
  clear hcl hav hkv ha hk hl hc0
  generalize prevText (l.map Pn.nd) i = pb at *
  generalize l[i].nd = nd at *
  generalize nd.attrs = at' at *
  generalize nd.text = tx at *
  generalize nd.kids = ks at *
  generalize nd.name = nm at *
  have hka : Keeps [] w (w.alloc (.cells #[.string ⟨nm.toArray⟩, .slice oa at'.length ca, .string ⟨tx.toArray⟩, .slice ok ks.length ck] 45)) := (Keeps.refl [] w).alloc _
  unfold maxLen at h2
  cases t0 : tx.isEmpty
  · by_cases t1 : 0 < at'.length
    · have e1 : chkTextOf tx at' ks pb = 1 := by simp only [chkTextOf, t1, true_or, or_true, if_true]
      rw [e1]
      clear hprev hno e1
      go_enter Tryz.func183, Tryz.ntmps183
      go_wp2_with fail
      go_ret
      exact ⟨rfl, hka⟩
    · by_cases t2 : 0 < ks.length
      · have e1 : chkTextOf tx at' ks pb = 1 := by simp only [chkTextOf, t2, or_true, if_true]
        rw [e1]
        clear hprev hno e1
        go_enter Tryz.func183, Tryz.ntmps183
        go_wp2_with fail
        go_ret
        exact ⟨rfl, hka⟩
      · have e1 : chkTextOf tx at' ks pb = if pb = true then 4 else 0 := by simp only [chkTextOf, t0, t1, t2, or_self, if_false, Bool.false_eq_true]
        rw [e1]
        clear e1
        by_cases i0 : 0 < i
        · obtain ⟨pn, p9, hp9⟩ := hprev i0
          have p9a : ∀ o', (w.alloc o').cell? ⟨g, x + (i - 1) * 4, none⟩ = some (.string ⟨pn.toArray⟩) := fun o' => cell_keeps ((Keeps.refl [] w).alloc o') p9
          have i1 : ((i : Int) - 1) = ((i - 1 : Nat) : Int) := by omega
          have ib : i ≤ 9223372036854775807 := by omega
          rw [hp9]
          clear hprev hno hp9
          cases q : pn.isEmpty
          · rw [if_neg (by simp)]
            go_enter Tryz.func183, Tryz.ntmps183
            go_wp2_with fail
            go_ret
            exact ⟨rfl, hka⟩
          · rw [if_pos rfl]
            go_enter Tryz.func183, Tryz.ntmps183
            go_wp2_with fail
            go_ret
            exact ⟨rfl, hka⟩
        · have hi0 : i = 0 := by omega
          rw [hno hi0, if_neg (by simp)]
          clear hprev hno hi0
          go_enter Tryz.func183, Tryz.ntmps183
          go_wp2_with fail
          go_ret
          exact ⟨rfl, hka⟩
  · have e1 : chkTextOf tx at' ks pb = 1 := by simp only [chkTextOf, t0, true_or, if_true]
    rw [e1]
    clear hprev hno e1
    go_enter Tryz.func183, Tryz.ntmps183
    go_wp2_with fail
    go_ret
    exact ⟨rfl, hka⟩
end Go.Proofs.YtlcljanibjdejaaGreat

namespace Go.Proofs.YtlcljanibjdejaaGreat
open Go.RowKit Go.Maps

/-- An attribute as it is printed. -/
def pairP (p : Pair) : List UInt8 := [32] ++ p.1 ++ [61, 34] ++ putL p.2 ++ [34]
def pairsP (l : List Pair) : List UInt8 := l.flatMap pairP
def openP (t : Tok) : List UInt8 := [60] ++ t.name ++ pairsP t.attrs ++ [62]
def tokP (t : Tok) : List UInt8 := if t.kind = 1 then putL t.text else if t.kind = 2 then openP t else [60, 47] ++ t.name ++ [62]
def toksP (l : List Tok) : List UInt8 := l.flatMap tokP

/-- Texts of an attribute are no longer than a text that is read. -/
def FitsP (l : List Pair) : Prop := ∀ p ∈ l, p.1.length ≤ 3000 ∧ p.2.length ≤ 3000

theorem pairsP_take (l : List Pair) (k : Nat) (hk : k < l.length) : pairsP (l.take (k + 1)) = pairsP (l.take k) ++ pairP l[k] := by
  rw [List.take_succ_eq_append_getElem hk]
  unfold pairsP
  rw [List.flatMap_append]
  simp
theorem pairP_le (p : Pair) (h : p.1.length ≤ 3000 ∧ p.2.length ≤ 3000) : (pairP p).length ≤ 22000 := by
  have := putL_le p.2
  simp [pairP]
  omega
theorem pairsP_le (l : List Pair) (h : FitsP l) (k : Nat) : (pairsP (l.take k)).length ≤ 22000 * k := by
  induction k with
  | zero => simp [pairsP]
  | succ k ih =>
    by_cases hk : k < l.length
    · rw [pairsP_take l k hk, List.length_append]
      have := pairP_le l[k] (h _ (List.getElem_mem hk))
      omega
    · rw [List.take_of_length_le (by omega)]
      rw [List.take_of_length_le (by omega)] at ih
      omega

theorem app3 (a x b : List UInt8) : ((⟨a.toArray⟩ : ByteArray) ++ ⟨x.toArray⟩) ++ ⟨b.toArray⟩ = ⟨(a ++ x ++ b).toArray⟩ := WideShapes.bytes_inj (by simp)
theorem app2 (a x : List UInt8) : ((⟨a.toArray⟩ : ByteArray) ++ ⟨x.toArray⟩) = ⟨(a ++ x).toArray⟩ := WideShapes.bytes_inj (by simp)

set_option maxRecDepth 4000 in
set_option maxHeartbeats 4000000 in
theorem printOpen_any (w0 : World) (B b : Nat) (l : List UInt8) (kd : Int) (nm tx : List UInt8) (la : List Pair) (v : Value) (hv : Lies w0 v la.length 2 (pairCells la)) (w : World) (hw0 : Keeps [] w0 w) (hB0 : w0.heap.size ≤ B) (h : IsBld B b l w) (hBw : B ≤ w.heap.size)
    (hnm : nm.length ≤ 3000) (hf : FitsP la) (hla : la.length ≤ 1000) (hl : l.length ≤ 50000000) :
    Calls Tryz.prog 143 #[.pointer (some ⟨b, 0, none⟩), .agg #[.int .i64 kd, .string ⟨nm.toArray⟩, v, .string ⟨tx.toArray⟩]] w fun e w' => e = .returned (.tuple #[]) ∧ IsBld B b (l ++ openP ⟨kd, nm, la, tx⟩) w' ∧ KeepsB B b w w' := by
  obtain ⟨o, c, rfl, h1, h2⟩ := hv.form
  unfold maxLen at h2
  have ha : Keeps [] w (w.alloc (.cells #[.int .i64 kd, .string ⟨nm.toArray⟩, .slice o la.length c, .string ⟨tx.toArray⟩] 117)) := (Keeps.refl [] w).alloc _
  have hbx : IsTok (w.alloc (.cells #[.int .i64 kd, .string ⟨nm.toArray⟩, .slice o la.length c, .string ⟨tx.toArray⟩] 117)) w.heap.size (⟨kd, nm, la, tx⟩, .slice o la.length c) := heap_alloc_new w _
  have hBb : B ≤ b := by rcases h with h | h <;> exact h.1
  have hbw : b < w.heap.size := by rcases h with ⟨_, v, hb, _⟩ | ⟨_, v, hb, _⟩ <;> exact lt_of_block hb
  have hsum : ¬ 9223372036854775807 < 1 + nm.length := by omega
  have hstr : (⟨#[60]⟩ : ByteArray) ++ ⟨nm.toArray⟩ = ⟨([60] ++ nm).toArray⟩ := app2 [60] nm
  have hw1 := hide (write_all B b l ([60] ++ nm) _ (h.keeps ha) (by simp; omega) (Nat.le_trans hBw ha.size))
  obtain ⟨Z, hZ⟩ : ∃ Z, l ++ ([60] ++ nm) = Z := ⟨_, rfl⟩
  have hZl : Z.length ≤ 50004000 := by rw [← hZ]; simp; omega
  have hfin : l ++ openP ⟨kd, nm, la, tx⟩ = Z ++ pairsP la ++ [62] := by rw [← hZ]; simp [openP]
  rw [hfin]
  rw [hZ] at hw1
  clear hZ hfin
  have hwe := hide (fun (w : World) hb hB => write_all B b (Z ++ pairsP la) [62] w hb (by
    have := pairsP_le la hf la.length
    rw [List.take_length] at this
    simp; omega) hB)
  go_enter Tryz.func143, Tryz.ntmps143
  go_wp2_with fail
  refine hw1.out.mono ?_
  rintro e w2 ⟨rfl, hb2, hk2⟩
  have hbx2 := hk2.tok hbx (by omega)
  have hkw2 : KeepsB B b w w2 := (KeepsB.of ha).trans hk2
  have x2 : w2.cell? ⟨w.heap.size, 2, none⟩ = some (.slice o la.length c) := by rw [hbx2.cell 2]; rfl
  clear hw1 hstr hsum
  go_wp2_with fail
  go_loopw [14] (fun i wr => ∃ k : Nat, k ≤ la.length ∧ i = .int .i64 k ∧ IsBld B b (Z ++ pairsP (la.take k)) wr ∧ KeepsB B b w wr) (fun i _ => la.length - (intOf i).toNat)
  case atStart => exact ⟨0, Nat.zero_le _, rfl, by simpa [pairsP] using hb2, hkw2⟩
  case round =>
    obtain ⟨k, hk, rfl, hbk, hkw⟩ := hrel
    clear hb2 hk2 hbx2 x2
    have hBr := Nat.le_trans hBw hkw.size
    by_cases hlt : k < la.length
    · obtain ⟨g, x, rfl, hc⟩ := (hv.keeps (KeepsB.nil hw0 hkw hB0 hBb)).addr (by omega)
      have a0 := hc _ _ (pair_at0 la k hlt)
      have a1 := hc _ _ (pair_at1 la k hlt)
      rw [← Nat.add_assoc] at a1
      have hfk := hf la[k] (List.getElem_mem hlt)
      have hpl := pairsP_le la hf k
      have hts := pairsP_take la k hlt
      generalize pairsP (la.take k) = Y at *
      have HTS := hide hts
      clear hts hc
      generalize la[k] = p at *
      obtain ⟨n, v⟩ := p
      simp only at a0 a1 hfk
      have hkA : Keeps [] wr (wr.alloc (.cells #[.string ⟨n.toArray⟩, .string ⟨v.toArray⟩] 52)) := (Keeps.refl [] wr).alloc _
      have hA : IsPair (wr.alloc (.cells #[.string ⟨n.toArray⟩, .string ⟨v.toArray⟩] 52)) wr.heap.size ⟨n.toArray⟩ ⟨v.toArray⟩ := heap_alloc_new wr _
      have hbr : b < wr.heap.size := Nat.lt_of_lt_of_le hbw hkw.size
      have hsum1 : ¬ 9223372036854775807 < 1 + n.length := by omega
      have hsum2 : ¬ 9223372036854775807 < 1 + n.length + 2 := by omega
      have hstr1 : (⟨#[32]⟩ : ByteArray) ++ ⟨n.toArray⟩ = ⟨([32] ++ n).toArray⟩ := app2 [32] n
      have hstr2 : (⟨(32 :: n).toArray⟩ : ByteArray) ++ ⟨#[61, 34]⟩ = ⟨([32] ++ n ++ [61, 34]).toArray⟩ := app2 (32 :: n) [61, 34]
      have hsz1 : (⟨(32 :: n).toArray⟩ : ByteArray).size = 1 + n.length := by rw [str_size]; simp; omega
      have hw3 := hide (write_all B b (Z ++ Y) ([32] ++ n ++ [61, 34]) _ (hbk.keeps hkA) (by simp; omega) (Nat.le_trans hBr hkA.size))
      have hw4 := hide (fun (w : World) hb hB => printText_any B b (Z ++ Y ++ ([32] ++ n ++ [61, 34])) v w hb hB hfk.2 (by simp; omega))
      have hpv := putL_le v
      have hw5 := hide (fun (w : World) hb hB => write_all B b (Z ++ Y ++ ([32] ++ n ++ [61, 34]) ++ putL v) [34] w hb (by simp; omega) hB)
      have hY : Z ++ (Y ++ pairP (n, v)) = Z ++ Y ++ ([32] ++ n ++ [61, 34]) ++ putL v ++ [34] := by simp [pairP]
      have HY := hide hY
      clear hY
      go_wp2_with fail
      refine hw3.out.mono ?_
      rintro e w3 ⟨rfl, hb3, hk3⟩
      have hA3 := hk3.pair hA (by omega)
      have y1 := hA3.cell1
      have hB3 := Nat.le_trans (Nat.le_trans hBr hkA.size) hk3.size
      clear hstr1 hstr2 hsz1 a0 a1
      go_wp2_with fail
      refine (hw4.out _ hb3 hB3).mono ?_
      rintro e w4 ⟨rfl, hb4, hk4⟩
      go_wp2_with fail
      refine (hw5.out _ hb4 (Nat.le_trans hB3 hk4.size)).mono ?_
      rintro e w5 ⟨rfl, hb5, hk5⟩
      have hb5' : IsBld B b (Z ++ pairsP (la.take (k + 1))) w5 := by rw [HTS.out, HY.out]; exact hb5
      have hkw5 : KeepsB B b w w5 := (((hkw.trans (KeepsB.of hkA)).trans hk3).trans hk4).trans hk5
      go_wp2_with fail
      go_roundw
      case rel => exact ⟨k + 1, by omega, by go_num, hb5', hkw5⟩
      case measure => simp [intOf]; omega
    · have hall : la.take k = la := List.take_of_length_le (by omega)
      rw [hall] at hbk
      go_wp2_with fail
      refine (hwe.out _ hbk hBr).mono ?_
      rintro e w3 ⟨rfl, hb3, hk3⟩
      go_wp2_with fail
      go_end0
      exact ⟨rfl, hb3, hkw.trans hk3⟩

/-- A token that is printed here: no longer than what tests print. -/
structure FitsTok (t : Tok) : Prop where
  name : t.name.length ≤ 3000
  text : t.text.length ≤ 3000
  pairs : FitsP t.attrs
  few : t.attrs.length ≤ 10

theorem FitsTok.fits {t : Tok} (h : FitsTok t) : FitsT t :=
  ⟨Nat.le_trans h.name (by unfold maxLen; omega), fun p hp => Nat.le_trans (h.pairs p hp).1 (by unfold maxLen; omega)⟩

theorem tokP_le (t : Tok) (h : FitsTok t) : (tokP t).length ≤ 250000 := by
  have h1 := pairsP_le t.attrs h.pairs t.attrs.length
  rw [List.take_length] at h1
  have h2 := putL_le t.text
  have h3 := h.name
  have h4 := h.text
  have h5 := h.few
  unfold tokP
  split
  · omega
  · split
    · simp [openP]; omega
    · simp; omega

theorem toksP_take (l : List (Tok × Value)) (k : Nat) (hk : k < l.length) : toksP ((l.take (k + 1)).map (·.1)) = toksP ((l.take k).map (·.1)) ++ tokP l[k].1 := by
  rw [List.take_succ_eq_append_getElem hk, List.map_append]
  unfold toksP
  rw [List.flatMap_append]
  simp
theorem toksP_le (l : List (Tok × Value)) (h : ∀ p ∈ l, FitsTok p.1) (k : Nat) : (toksP ((l.take k).map (·.1))).length ≤ 250000 * k := by
  induction k with
  | zero => simp [toksP]
  | succ k ih =>
    by_cases hk : k < l.length
    · rw [toksP_take l k hk, List.length_append]
      have := tokP_le l[k].1 (h _ (List.getElem_mem hk))
      omega
    · rw [List.take_of_length_le (by omega)]
      rw [List.take_of_length_le (by omega)] at ih
      omega

theorem bld_new (w : World) : IsBld w.heap.size w.heap.size [] (w.alloc (.cells #[.pointer none, .slice none 0 0] 134)) :=
  .inl ⟨Nat.le_refl _, .slice none 0 0, heap_alloc_new w _, World.ownsRow_nil _ _ _ _, by simp [Value.ownBlock]⟩

set_option maxRecDepth 4000 in
set_option maxHeartbeats 4000000 in
theorem print_ok (w : World) (v : Value) (ts : List Tok) (hv : Toks w v ts) (hf : ∀ t ∈ ts, FitsTok t) (hn : ts.length ≤ 100) (hc : chkL ts = 0) :
    Calls Tryz.prog 69 #[v] w fun e w' => e = .returned (.tuple #[.string ⟨(toksP ts).toArray⟩, .int .i64 0]) ∧ Keeps [] w w' := by
  have hchk := hide (check_any w v ts hv (fun t ht => (hf t ht).fits))
  rw [hc] at hchk
  clear hc
  obtain ⟨l, rfl, hv, hva⟩ := hv
  rw [List.length_map] at hn
  have hfl : ∀ p ∈ l, FitsTok p.1 := fun p hp => hf p.1 (List.mem_map_of_mem hp)
  obtain ⟨o, c, rfl, h1, h2⟩ := hv.form
  unfold maxLen at h2
  go_enter Tryz.func69, Tryz.ntmps69
  go_wp2_with fail
  refine hchk.out.mono ?_
  rintro e w1 ⟨rfl, hk1⟩
  go_wp2_with fail
  have hb1 := bld_new w1
  have hkb1 : KeepsB w1.heap.size w1.heap.size w1 (w1.alloc (.cells #[.pointer none, .slice none 0 0] 134)) := KeepsB.of ((Keeps.refl [] w1).alloc _)
  have hsz1 : w1.heap.size + 1 ≤ (w1.alloc (.cells #[.pointer none, .slice none 0 0] 134)).heap.size := by simp
  clear hchk
  go_loopw [15] (fun i wr => ∃ k : Nat, k ≤ l.length ∧ i = .int .i64 k ∧ IsBld w1.heap.size w1.heap.size (toksP ((l.take k).map (·.1))) wr ∧ KeepsB w1.heap.size w1.heap.size w1 wr ∧ w1.heap.size + 1 ≤ wr.heap.size) (fun i _ => l.length - (intOf i).toNat)
  case atStart => exact ⟨0, Nat.zero_le _, rfl, by simpa [toksP] using hb1, hkb1, hsz1⟩
  case round =>
    obtain ⟨k, hk, rfl, hbk, hkw, hsz⟩ := hrel
    clear hb1 hkb1 hsz1
    have hK : Keeps [] w wr := KeepsB.nil hk1 hkw hk1.size (Nat.le_refl _)
    by_cases hlt : k < l.length
    · obtain ⟨g, x, rfl, hcc⟩ := (hv.keeps hK).addr (by omega)
      obtain ⟨a0, a1, a2, a3⟩ := lies_tok hcc k hlt
      have hfk := hfl l[k] (List.getElem_mem hlt)
      have hpa := hva l[k] (List.getElem_mem hlt)
      have hpl := toksP_le l hfl k
      have HTS := hide (toksP_take l k hlt)
      generalize toksP ((l.take k).map (·.1)) = Y at *
      clear hcc
      generalize l[k] = p at *
      obtain ⟨⟨kp, np, ap, xp⟩, vp⟩ := p
      simp only at a0 a1 a2 a3 hpa hfk
      obtain ⟨op, cp, rfl, hp1, hp2⟩ := hpa.form
      unfold maxLen at hp2
      have hfn := hfk.name
      have hft := hfk.text
      have hfp := hfk.pairs
      have hfe := hfk.few
      simp only at hfn hft hfp hfe
      have hkA : Keeps [] wr (wr.alloc (.cells #[.int .i64 kp, .string ⟨np.toArray⟩, .slice op ap.length cp, .string ⟨xp.toArray⟩] 117)) := (Keeps.refl [] wr).alloc _
      have hA : IsTok (wr.alloc (.cells #[.int .i64 kp, .string ⟨np.toArray⟩, .slice op ap.length cp, .string ⟨xp.toArray⟩] 117)) wr.heap.size (⟨kp, np, ap, xp⟩, .slice op ap.length cp) := heap_alloc_new wr _
      have hBA : w1.heap.size ≤ (wr.alloc (.cells #[.int .i64 kp, .string ⟨np.toArray⟩, .slice op ap.length cp, .string ⟨xp.toArray⟩] 117)).heap.size := by simp; omega
      have hbA := hbk.keeps hkA
      have hkwA := hkw.trans (KeepsB.of hkA)
      by_cases hk1' : kp = 1
      · subst hk1'
        have hpt := hide (printText_any w1.heap.size w1.heap.size Y xp _ hbA hBA hft (by omega))
        have HY := hide (show tokP ⟨1, np, ap, xp⟩ = putL xp from rfl)
        go_wp2_with fail
        refine hpt.out.mono ?_
        rintro e w5 ⟨rfl, hb5, hk5⟩
        have hb5' : IsBld w1.heap.size w1.heap.size (toksP ((l.take (k + 1)).map (·.1))) w5 := by rw [HTS.out, HY.out]; exact hb5
        have hs5 := Nat.le_trans hsz (Nat.le_trans hkA.size hk5.size)
        go_wp2_with fail
        go_roundw
        case rel => exact ⟨k + 1, by omega, by go_num, hb5', hkwA.trans hk5, hs5⟩
        case measure => simp [intOf]; omega
      · have e1 : (kp == 1) = false := by simpa using hk1'
        by_cases hk2' : kp = 2
        · subst hk2'
          have hpt := hide (printOpen_any w w1.heap.size w1.heap.size Y 2 np xp ap _ hpa _ (hK.trans hkA) hk1.size hbA hBA hfn hfp (by omega) (by omega))
          have HY := hide (show tokP ⟨2, np, ap, xp⟩ = openP ⟨2, np, ap, xp⟩ from rfl)
          go_wp2_with fail
          refine hpt.out.mono ?_
          rintro e w5 ⟨rfl, hb5, hk5⟩
          have hb5' : IsBld w1.heap.size w1.heap.size (toksP ((l.take (k + 1)).map (·.1))) w5 := by rw [HTS.out, HY.out]; exact hb5
          have hs5 := Nat.le_trans hsz (Nat.le_trans hkA.size hk5.size)
          go_wp2_with fail
          go_roundw
          case rel => exact ⟨k + 1, by omega, by go_num, hb5', hkwA.trans hk5, hs5⟩
          case measure => simp [intOf]; omega
        · have e2 : (kp == 2) = false := by simpa using hk2'
          have HY := hide (show tokP ⟨kp, np, ap, xp⟩ = [60, 47] ++ np ++ [62] from by simp [tokP, hk1', hk2'])
          have hw5 := hide (write_all w1.heap.size w1.heap.size Y ([60, 47] ++ np ++ [62]) _ hbA (by simp; omega) hBA)
          have hsum1 : ¬ 9223372036854775807 < 2 + np.length := by omega
          have hsum2 : ¬ 9223372036854775807 < 2 + np.length + 1 := by omega
          have hstr1 : (⟨#[60, 47]⟩ : ByteArray) ++ ⟨np.toArray⟩ = ⟨([60, 47] ++ np).toArray⟩ := app2 [60, 47] np
          have hstr2 : (⟨(60 :: 47 :: np).toArray⟩ : ByteArray) ++ ⟨#[62]⟩ = ⟨([60, 47] ++ np ++ [62]).toArray⟩ := app2 (60 :: 47 :: np) [62]
          have hss : (⟨(60 :: 47 :: np).toArray⟩ : ByteArray).size = 2 + np.length := by rw [str_size]; simp; omega
          clear hk1' hk2'
          go_wp2_with fail
          refine hw5.out.mono ?_
          rintro e w5 ⟨rfl, hb5, hk5⟩
          have hb5' : IsBld w1.heap.size w1.heap.size (toksP ((l.take (k + 1)).map (·.1))) w5 := by rw [HTS.out, HY.out]; exact hb5
          have hs5 := Nat.le_trans hsz (Nat.le_trans hkA.size hk5.size)
          clear hstr1 hstr2 hss
          go_wp2_with fail
          go_roundw
          case rel => exact ⟨k + 1, by omega, by go_num, hb5', hkwA.trans hk5, hs5⟩
          case measure => simp [intOf]; omega
    · have hall : l.take k = l := List.take_of_length_le (by omega)
      rw [hall] at hbk
      go_wp2_with fail
      refine (Tryz.Builder_String_any w1.heap.size w1.heap.size _ _ hbk (by omega)).mono ?_
      rintro e w3 ⟨rfl, hb3⟩
      have hfin : Keeps [] w w3 := ⟨hb3.os.trans hK.os, hb3.tape.trans hK.tape, hb3.output.trans hK.output, Nat.le_trans hK.size hb3.size, fun i hi _ => (hb3.block i (Nat.lt_of_lt_of_le hi hk1.size)).trans (hK.block i hi List.not_mem_nil)⟩
      go_wp2_with fail
      go_ret2
      exact ⟨rfl, hfin⟩
end Go.Proofs.YtlcljanibjdejaaGreat

namespace Go.Proofs.YtlcljanibjdejaaGreat
open Go.RowKit Go.Maps

def tagsL : List Tok := [⟨2, [97], [([104, 114, 101, 102], [120, 34, 121])], []⟩, ⟨1, [], [], [49, 32, 60, 32, 50]⟩, ⟨3, [97], [], []⟩]
def begunA : List UInt8 := [60, 65, 32, 104, 114, 101, 102, 61, 39, 120, 38, 113, 117, 111, 116, 59, 121, 39, 32, 104, 114, 101, 102, 61, 122, 62, 49, 32, 60, 33, 45, 45, 32, 99, 32, 45, 45, 62, 38, 108, 116, 59, 32, 50, 60, 47, 97, 32, 32, 62]
def begunB : List UInt8 := [97, 60, 98]
def begunC : List UInt8 := [60, 97, 32, 104, 114, 101, 102, 61, 34, 120, 38, 113, 117, 111, 116, 59, 121, 34, 62, 49, 32, 38, 108, 116, 59, 32, 50, 60, 47, 97, 62]

theorem begun_b : readL begunB = [⟨1, [], [], [97, 60, 98]⟩] := by kernel_rfl
theorem begun_c : toksP tagsL = begunC := by kernel_rfl
theorem begun_d : chkL tagsL = 0 := by kernel_rfl
theorem begun_a : readL begunA = tagsL := by kernel_rfl

theorem tags_fit : ∀ t ∈ tagsL, FitsTok t := by
  intro t ht
  simp [tagsL] at ht
  rcases ht with rfl | rfl | rfl
  · exact ⟨by decide, by decide, by intro p hp; simp at hp; subst hp; exact ⟨by decide, by decide⟩, by decide⟩
  · exact ⟨by decide, by decide, by intro p hp; simp at hp, by decide⟩
  · exact ⟨by decide, by decide, by intro p hp; simp at hp, by decide⟩

/-- Cells that are laid anew lie there. -/
theorem lies_new (w : World) (cs : Array Value) (t : TypeId) (n z : Nat) (hn : n ≤ maxLen) (hz : cs.size = n * z) : Lies (w.alloc (.cells cs t)) (.slice (some ⟨w.heap.size, 0, none⟩) n n) n z cs.toList :=
  ⟨by simpa using hz, .inr (.inl ⟨_, 0, n, rfl, Nat.le_refl _, hn, fun j u hj => by
    have := lit_cells w cs t j u hj
    rw [add_zero] at this
    rw [Nat.zero_add]
    exact this⟩)⟩

set_option maxHeartbeats 1000000 in
theorem tags_any (w : World) : Calls Tryz.prog 104 #[] w fun e w' => ∃ v, e = .returned v ∧ Toks w' v tagsL ∧ Keeps [] w w' := by
  go_enter Tryz.func104, Tryz.ntmps104
  go_wp2_with fail
  go_ret
  refine ⟨_, rfl, ⟨[(⟨2, [97], [([104, 114, 101, 102], [120, 34, 121])], []⟩, .slice (some ⟨w.heap.size, 0, none⟩) 1 1), (⟨1, [], [], [49, 32, 60, 32, 50]⟩, .slice none 0 0), (⟨3, [97], [], []⟩, .slice none 0 0)], rfl, ?_, ?_⟩, ((Keeps.refl [] w).alloc _).alloc _⟩
  · have h := lies_new (w.alloc (.cells #[.string ⟨#[104, 114, 101, 102]⟩, .string ⟨#[120, 34, 121]⟩] 52)) #[.int .i64 2, .string ⟨#[97]⟩, .slice (some ⟨w.heap.size, 0, none⟩) 1 1, .string ⟨#[]⟩, .int .i64 1, .string ⟨#[]⟩, .slice none 0 0, .string ⟨#[49, 32, 60, 32, 50]⟩, .int .i64 3, .string ⟨#[97]⟩, .slice none 0 0, .string ⟨#[]⟩] 117 3 4 (by decide) rfl
    rw [show (w.alloc (.cells #[.string ⟨#[104, 114, 101, 102]⟩, .string ⟨#[120, 34, 121]⟩] 52)).heap.size = w.heap.size + 1 from by simp] at h
    exact h
  · intro p hp
    simp at hp
    rcases hp with rfl | rfl | rfl
    · exact (lies_new w #[.string ⟨#[104, 114, 101, 102]⟩, .string ⟨#[120, 34, 121]⟩] 52 1 2 (by decide) rfl).keeps ((Keeps.refl [] _).alloc _)
    · exact ⟨rfl, .inl ⟨rfl, rfl⟩⟩
    · exact ⟨rfl, .inl ⟨rfl, rfl⟩⟩

theorem read_of (l : List UInt8) (w : World) (hl : l.length ≤ 3000) (hM : HasMax w) (ts : List Tok) (h : readL l = ts) :
    Calls Tryz.prog 18 #[.string ⟨l.toArray⟩] w fun e w' => ∃ v, e = .returned (.tuple #[v, .int .i64 0]) ∧ Toks w' v ts ∧ Keeps [] w w' := by
  refine (read_some ⟨l.toArray⟩ w hl hM).mono ?_
  rintro e w' ⟨v, he, ht, hk⟩
  rw [str_list, h] at ht
  exact ⟨v, he, ht.toks, hk⟩

set_option maxRecDepth 8000 in
set_option maxHeartbeats 4000000 in
theorem tokenBegun_any (w : World) (hM : HasMax w) : Calls Tryz.prog 33 #[] w fun e w' => e = .returned (.bool true) ∧ Keeps [] w w' := by
  have r1 := hide (fun (w : World) hM => read_of begunA w (by decide) hM _ begun_a)
  have r2 := hide (fun (w : World) hM => read_of begunB w (by decide) hM _ begun_b)
  go_enter Tryz.func33, Tryz.ntmps33
  go_wp2_with fail
  refine (r1.out _ hM).mono ?_
  rintro e w1 ⟨v1, rfl, ht1, hk1⟩
  go_wp2_with fail
  refine (tags_any _).mono ?_
  rintro e w2 ⟨v2, rfl, ht2, hk2⟩
  go_wp2_with fail
  refine (print_ok _ v2 tagsL ht2 tags_fit (by decide) begun_d).mono ?_
  rw [begun_c]
  rintro e w3 ⟨rfl, hk3⟩
  have hk03 : Keeps [] w w3 := (hk1.trans hk2).trans hk3
  have ht1' := ht1.keeps (hk2.trans hk3)
  clear r1 ht1 ht2
  unfold begunC
  go_wp2_with fail
  refine (r2.out _ (hM.keeps hk03 List.not_mem_nil)).mono ?_
  rintro e w4 ⟨v4, rfl, ht4, hk4⟩
  have ht1'' := ht1'.keeps hk4
  go_wp2_with fail
  refine (tags_any _).mono ?_
  rintro e w5 ⟨v5, rfl, ht5, hk5⟩
  go_wp2_with fail
  refine (check_any _ v5 tagsL ht5 (fun t ht => (tags_fit t ht).fits)).mono ?_
  rw [begun_d]
  rintro e w6 ⟨rfl, hk6⟩
  go_wp2_with fail
  refine (tags_any _).mono ?_
  rintro e w7 ⟨v7, rfl, ht7, hk7⟩
  have ht1v := ((ht1''.keeps hk5).keeps hk6).keeps hk7
  go_wp2_with fail
  refine (sameTokens_eq _ v1 v7 tagsL ht1v ht7).mono ?_
  rintro e w8 ⟨rfl, n8, rfl⟩
  have ht4' := (((ht4.keeps hk5).keeps hk6).keeps hk7).keeps ((Keeps.refl [] w7).drewN n8)
  go_wp2_with fail
  have hL := lies_new (w7.drewN n8) #[.int .i64 1, .string ⟨#[]⟩, .slice none 0 0, .string ⟨#[97, 60, 98]⟩] 117 1 4 (by decide) rfl
  have htl : Toks ((w7.drewN n8).alloc (.cells #[.int .i64 1, .string ⟨#[]⟩, .slice none 0 0, .string ⟨#[97, 60, 98]⟩] 117)) (.slice (some ⟨w7.heap.size, 0, none⟩) 1 1) [⟨1, [], [], [97, 60, 98]⟩] :=
    ⟨[(⟨1, [], [], [97, 60, 98]⟩, .slice none 0 0)], rfl, hL, by intro p hp; simp at hp; subst hp; exact ⟨rfl, .inl ⟨rfl, rfl⟩⟩⟩
  refine (sameTokens_eq _ v4 _ _ (ht4'.keeps ((Keeps.refl [] _).alloc _)) htl).mono ?_
  rintro e w9 ⟨rfl, n9, rfl⟩
  go_wp2_with fail
  go_ret
  exact ⟨rfl, ((((((hk03.trans hk4).trans hk5).trans hk6).trans hk7).drewN _).alloc _).drewN _⟩
end Go.Proofs.YtlcljanibjdejaaGreat
