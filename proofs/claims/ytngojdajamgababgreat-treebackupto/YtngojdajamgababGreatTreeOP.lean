/- checkNode, nodes.Check, tree.Check. nodes.Check, tree.Check. -/
import Derived.Test.YtngojdajamgababGreatTreeMN
import Derived.Test.YtngojdajamgababGreatBegunT
namespace Go.Proofs.YtngojdajamgababGreat
open Go.RowKit Go.Maps

def chkNodeOf (n : Nd) (b : List Nd) (i : Nat) (ar : List Nd) : Int :=
  if n.name.isEmpty = true then chkText b i
  else if (emptyN n.name && decide (0 < n.kids.length)) = true then 1
  else if chkL [⟨2, n.name, n.attrs, n.text⟩] ≠ 0 then chkL [⟨2, n.name, n.attrs, n.text⟩]
  else if closedL (ar.map Nd.name) n.name < ar.length then 4 else 0
def chkNode (b : List Nd) (i : Nat) (ar : List Nd) : Int :=
  match b[i]? with
  | none => 0
  | some n => chkNodeOf n b i ar

def FitsNs : List Nd → Prop
  | [] => True
  | .mk n a _ k :: r => (n.length ≤ maxLen ∧ Fits a) ∧ FitsNs k ∧ FitsNs r
theorem fits_mem {n : Nd} : {ns : List Nd} → FitsNs ns → n ∈ ns → (n.name.length ≤ maxLen ∧ Fits n.attrs) ∧ FitsNs n.kids
  | .mk m a t k :: r, h, hm => by
    unfold FitsNs at h
    rcases List.mem_cons.1 hm with rfl | hm
    · exact ⟨h.1, h.2.1⟩
    · exact fits_mem h.2.2 hm

theorem pns_named {w : World} {B : Nat} {av : Value} {pl : List Pn} (h : w.ownsRow B 61 4 av pl.length (pnsCells pl)) : Named w av ((pl.map Pn.nd).map Nd.name) := by
  rw [List.map_map]
  rcases h.2 with ⟨e, h0⟩ | ⟨g, cap, cur, e, hb, hg, h3, h4, _⟩
  · subst e
    refine ⟨none, 0, by simp [h0], by simp [h0], by simp [maxLen], fun i hi => ?_⟩
    simp [h0] at hi
  · subst e
    refine ⟨some ⟨g, 0, none⟩, cap, by simp, by simpa using h3, h4, fun i hi => ?_⟩
    rw [List.length_map] at hi
    refine ⟨g, 0, rfl, ?_⟩
    have h9 := pn_at pl i 0 hi (by omega)
    rw [Nat.add_zero] at h9
    rw [Nat.zero_add, h.cellAt _ (by omega), h9]
    simp [pnCells]

set_option maxRecDepth 4000 in
set_option maxHeartbeats 4000000 in
theorem checkNode_any (w : World) (P : Nat → Prop) (B1 : Nat) (v : Value) (ns : List Nd) (i : Nat) (av : Value) (pl : List Pn) (hN : Ns w P v ns) (hF : FitsNs ns) (hi : i < ns.length) (hrow : w.ownsRow B1 61 4 av pl.length (pnsCells pl)) (_hpl : pl.length ≤ 2000000) :
    Calls Tryz.prog 38 #[v, .int .i64 i, av] w fun e w' => e = .returned (.int .i64 (chkNode ns i (pl.map Pn.nd))) ∧ Keeps [] w w' := by
  have hct := hide (fun (W : World) (hk : Keeps [] w W) => checkText_any W P v ns i (hN.keeps0 hk) hi)
  have hc0 : chkNode ns i (pl.map Pn.nd) = chkNodeOf ns[i] ns i (pl.map Pn.nd) := by
    unfold chkNode
    rw [List.getElem?_eq_getElem hi]
  rw [hc0]
  have hfit := (fits_mem hF (List.getElem_mem hi)).1
  cases hN with
  | mk _ l _ hns hl ha hk =>
  obtain ⟨o, c', rfl, h1, h2⟩ := hl.lies.form
  obtain ⟨ao, ac, hav9⟩ := row_form hrow
  subst hav9
  have hil : i < l.length := by rw [← hns, List.length_map] at hi; exact hi
  have hni : ns[i] = l[i].nd := by subst hns; simp
  obtain ⟨g, x, rfl, hcl⟩ := hl.lies.addr (by omega)
  obtain ⟨a0, a1, a2, a3⟩ := lies_pn hcl i hil
  have hat := ha l[i] (List.getElem_mem hil)
  obtain ⟨oa, ca, hav⟩ := hat.form
  obtain ⟨ok, ck, hkv⟩ := (hk l[i] (List.getElem_mem hil)).form
  rw [hav] at a1 hat
  rw [hkv] at a3
  rw [hni] at hfit ⊢
  have hnmd := pns_named hrow
  have hcb := hide (fun (W : World) (hk : Keeps [] w W) => closedBy_any W (.slice ao pl.length ac) ((pl.map Pn.nd).map Nd.name) l[i].nd.name (pns_named (hk.owns hrow (fun _ _ => List.not_mem_nil))))
  have hcle := closedL_le ((pl.map Pn.nd).map Nd.name) l[i].nd.name
  unfold chkNodeOf
  clear hcl hav hkv ha hk hl hc0 hni hnmd hF
  simp only [List.length_map] at hcle ⊢
  generalize closedL ((pl.map Pn.nd).map Nd.name) l[i].nd.name = CL at *
  generalize l[i].nd = nd at *
  generalize chkText ns i = CT at *
  have hie := hide (fun W => isEmpty_any nd.name W)
  have hka : Keeps [] w (w.alloc (.cells #[.string ⟨nd.name.toArray⟩, .slice oa nd.attrs.length ca, .string ⟨nd.text.toArray⟩, .slice ok nd.kids.length ck] 61)) := (Keeps.refl [] w).alloc _
  have hck := hide (fun (W : World) (hk : Keeps [] w W) => check_any (W.alloc (.cells #[.int .i64 2, .string ⟨nd.name.toArray⟩, .slice oa nd.attrs.length ca, .string ⟨nd.text.toArray⟩] 48)) (.slice (some ⟨W.heap.size, 0, none⟩) 1 1) [⟨2, nd.name, nd.attrs, nd.text⟩] ⟨[(⟨2, nd.name, nd.attrs, nd.text⟩, .slice oa nd.attrs.length ca)], rfl, lies_new W _ 48 1 4 (by decide) rfl, by intro p hp; simp at hp; subst hp; exact hat.lies.keeps (hk.trans ((Keeps.refl [] W).alloc _))⟩ (by intro t ht; simp at ht; subst ht; exact hfit))
  generalize chkL [⟨2, nd.name, nd.attrs, nd.text⟩] = E at *
  generalize emptyN nd.name = EN at *
  clear hat hfit hrow
  generalize nd.attrs.length = na at *
  generalize nd.kids.length = nk at *
  generalize nd.name = nm at *
  generalize nd.text = tx at *
  unfold maxLen at h2
  clear hns hi
  cases t0 : nm.isEmpty
  · rw [if_neg (by simp)]
    obtain ⟨W1, hW1⟩ : ∃ W1, w.alloc (.cells #[.string ⟨nm.toArray⟩, .slice oa na ca, .string ⟨tx.toArray⟩, .slice ok nk ck] 61) = W1 := ⟨_, rfl⟩
    have hbx : W1.heap[w.heap.size]? = some (.cells #[.string ⟨nm.toArray⟩, .slice oa na ca, .string ⟨tx.toArray⟩, .slice ok nk ck] 61 (0, 0)) := by rw [← hW1]; exact heap_alloc_new w _
    rw [hW1] at hka
    have HW1 := hide hW1
    clear hW1 hct
    have k0 : W1.cell? ⟨w.heap.size, 0, none⟩ = some (.string ⟨nm.toArray⟩) := cell_blk hbx 0
    have k1 : W1.cell? ⟨w.heap.size, 1, none⟩ = some (.slice oa na ca) := cell_blk hbx 1
    have k2 : W1.cell? ⟨w.heap.size, 2, none⟩ = some (.string ⟨tx.toArray⟩) := cell_blk hbx 2
    have k3 : W1.cell? ⟨w.heap.size, 3, none⟩ = some (.slice ok nk ck) := cell_blk hbx 3
    have hkb : Keeps [] w (W1.alloc (.cells #[.int .i64 2, .string ⟨nm.toArray⟩, .slice oa na ca, .string ⟨tx.toArray⟩] 48)) := hka.alloc _
    have hc1 := hck.out _ hkb
    have hsz1 : (W1.alloc (.cells #[.int .i64 2, .string ⟨nm.toArray⟩, .slice oa na ca, .string ⟨tx.toArray⟩] 48)).heap.size = W1.heap.size + 1 := by simp
    rw [hsz1] at hc1
    have HC1 := hide hc1
    clear hc1 hsz1 hck
    obtain ⟨R, hR⟩ : ∃ R, (if (EN && decide (0 < nk)) = true then (1 : Int) else if E ≠ 0 then E else if CL < pl.length then 4 else 0) = R := ⟨_, rfl⟩
    rw [hR]
    cases EN
    · rw [Bool.false_and, if_neg (by simp)] at hR
      have HR := hide hR
      clear hR
      go_enter Tryz.func38, Tryz.ntmps38
      go_wp2_with fail
      rw [HW1.out]
      refine (hie.out _).mono ?_
      rintro e w1 ⟨rfl, h1'⟩
      obtain rfl : W1 = w1 := h1'.symm
      go_wp2_with fail
      refine HC1.out.mono ?_
      rintro e w3 ⟨rfl, hk3⟩
      have hk03 := (hkb.alloc _).trans hk3
      by_cases hE : E = 0
      · subst hE
        have n3 : w3.cell? ⟨w.heap.size, 0, none⟩ = some (.string ⟨nm.toArray⟩) := cell_keeps (((Keeps.refl [] W1).alloc _).alloc _ |>.trans hk3) k0
        by_cases hC : CL < pl.length
        · have hRe : R = 4 := by rw [← HR.out, if_neg (by simp), if_pos hC]
          subst hRe
          have hCi : (CL : Int) < (pl.length : Int) := by omega
          go_wp2_with fail
          refine (hcb.out _ hk03).mono ?_
          rintro e w4 ⟨rfl, h4⟩
          obtain rfl : w3 = w4 := h4.symm
          go_wp2_with fail
          go_ret
          exact ⟨rfl, hk03⟩
        · have hRe : R = 0 := by rw [← HR.out, if_neg (by simp), if_neg hC]
          subst hRe
          have hCi : ¬ (CL : Int) < (pl.length : Int) := by omega
          go_wp2_with fail
          refine (hcb.out _ hk03).mono ?_
          rintro e w4 ⟨rfl, h4⟩
          obtain rfl : w3 = w4 := h4.symm
          go_wp2_with fail
          go_ret
          exact ⟨rfl, hk03⟩
      · have hRe : R = E := by rw [← HR.out, if_pos hE]
        subst hRe
        have hEb : (R != 0) = true := by simpa using hE
        go_wp2_with fail
        go_ret
        exact ⟨rfl, hk03⟩
    · by_cases hn : 0 < nk
      · have hnb : (true && decide (0 < nk)) = true := by simpa using hn
        rw [if_pos hnb] at hR
        subst hR
        clear hcb
        go_enter Tryz.func38, Tryz.ntmps38
        go_wp2_with fail
        rw [HW1.out]
        refine (hie.out _).mono ?_
        rintro e w1 ⟨rfl, h1'⟩
        obtain rfl : W1 = w1 := h1'.symm
        go_wp2_with fail
        go_ret
        exact ⟨rfl, hka⟩
      · have hnb : ¬ (true && decide (0 < nk)) = true := by simpa using hn
        rw [if_neg hnb] at hR
        have HR := hide hR
        clear hR hnb
        go_enter Tryz.func38, Tryz.ntmps38
        go_wp2_with fail
        rw [HW1.out]
        refine (hie.out _).mono ?_
        rintro e w1 ⟨rfl, h1'⟩
        obtain rfl : W1 = w1 := h1'.symm
        go_wp2_with fail
        refine HC1.out.mono ?_
        rintro e w3 ⟨rfl, hk3⟩
        have hk03 := (hkb.alloc _).trans hk3
        by_cases hE : E = 0
        · subst hE
          have n3 : w3.cell? ⟨w.heap.size, 0, none⟩ = some (.string ⟨nm.toArray⟩) := cell_keeps (((Keeps.refl [] W1).alloc _).alloc _ |>.trans hk3) k0
          by_cases hC : CL < pl.length
          · have hRe : R = 4 := by rw [← HR.out, if_neg (by simp), if_pos hC]
            subst hRe
            have hCi : (CL : Int) < (pl.length : Int) := by omega
            go_wp2_with fail
            refine (hcb.out _ hk03).mono ?_
            rintro e w4 ⟨rfl, h4⟩
            obtain rfl : w3 = w4 := h4.symm
            go_wp2_with fail
            go_ret
            exact ⟨rfl, hk03⟩
          · have hRe : R = 0 := by rw [← HR.out, if_neg (by simp), if_neg hC]
            subst hRe
            have hCi : ¬ (CL : Int) < (pl.length : Int) := by omega
            go_wp2_with fail
            refine (hcb.out _ hk03).mono ?_
            rintro e w4 ⟨rfl, h4⟩
            obtain rfl : w3 = w4 := h4.symm
            go_wp2_with fail
            go_ret
            exact ⟨rfl, hk03⟩
        · have hRe : R = E := by rw [← HR.out, if_pos hE]
          subst hRe
          have hEb : (R != 0) = true := by simpa using hE
          go_wp2_with fail
          go_ret
          exact ⟨rfl, hk03⟩
  · rw [if_pos rfl]
    go_enter Tryz.func38, Tryz.ntmps38
    go_wp2_with fail
    refine (hct.out _ hka).mono ?_
    rintro e w1 ⟨rfl, hk1⟩
    go_wp2_with fail
    go_ret
    exact ⟨rfl, hka.trans hk1⟩
end Go.Proofs.YtngojdajamgababGreat

namespace Go.Proofs.YtngojdajamgababGreat
open Go.RowKit Go.Maps

theorem enters38 : Enters 38 := enters_of Tryz.func38 (by kernel_rfl) (by kernel_rfl)
theorem enters62 : Enters 62 := enters_of Tryz.func62 (by kernel_rfl) (by kernel_rfl)

def nodeF (_ : Int) (b : List Nd) (i : Nat) (ar : List Nd) : Int × Bool := (chkNode b i ar, chkNode b i ar == 0)
/-- A function lies in a block. -/
def IsFn (w : World) (b : Nat) : Prop := w.heap[b]? = some (.cells #[.func (.func 38) #[] #[]] 67 (0, 0))
theorem IsFn.keeps {S : List Nat} {w w' : World} {b : Nat} (h : IsFn w b) (hk : Keeps S w w') (hb : b ∉ S) : IsFn w' b := by
  unfold IsFn at *
  rw [hk.block b (lt_of_block h) hb]; exact h

set_option maxRecDepth 4000 in
set_option maxHeartbeats 2000000 in
theorem check1_any (P : Nat → Prop) (B1 b c : Nat) (s : Int) (w : World) (v : Value) (ns : List Nd) (i : Nat) (av : Value) (pl : List Pn) (hbc : b ≠ c) (hf : IsFn w b) (hI : IsNum w c 24 s) (hN : Ns w P v ns) (hF : FitsNs ns) (hi : i < ns.length) (hrow : w.ownsRow B1 61 4 av pl.length (pnsCells pl)) (hpl : pl.length ≤ 2000000) :
    Calls Tryz.prog 62 #[v, .int .i64 i, av, .pointer (some ⟨b, 0, none⟩), .pointer (some ⟨c, 0, none⟩)] w fun e w' => e = .returned (.bool (chkNode ns i (pl.map Pn.nd) == 0)) ∧ (IsFn w' b ∧ IsNum w' c 24 (chkNode ns i (pl.map Pn.nd))) ∧ Keeps [c] w w' := by
  have hcn := hide (checkNode_any w P B1 v ns i av pl hN hF hi hrow hpl)
  generalize chkNode ns i (pl.map Pn.nd) = E at *
  obtain ⟨o, c', hv⟩ := hN.form
  subst hv
  obtain ⟨ao, ac, hav⟩ := row_form hrow
  subst hav
  have k0 : w.cell? ⟨b, 0, none⟩ = some (.func (.func 38) #[] #[]) := cell_blk hf 0
  have hE := enters38
  unfold Enters at hE
  clear hN hrow hF
  go_enter Tryz.func62, Tryz.ntmps62
  go_wp2_with fail
  refine hcn.out.mono ?_
  rintro e w1 ⟨rfl, hk1⟩
  have hf1 := hf.keeps hk1 List.not_mem_nil
  have hI1 := hI.keeps hk1 List.not_mem_nil
  have n0 : w1.cell? ⟨c, 0, none⟩ = some (.int .i64 s) := cell_blk hI1 0
  have n1 : w1.frozen? ⟨c, 0, none⟩ = false := free_blk hI1 0
  clear hcn
  go_wp2_with fail
  go_ret
  have hks : Keeps [c] w1 (w1.setCell ⟨c, 0, none⟩ (.int .i64 E)) := (Keeps.refl [c] w1).setCell (.inl (by simp)) _
  exact ⟨rfl, ⟨hf1.keeps hks (by simpa using hbc), hI1.set E⟩, keeps_within (hk1.to (T := [c]) (by simp)) hks (fun g hg _ => hg)⟩

theorem check_vis (b c B1 : Nat) (hb : b < c) (h : c < B1) : Vis 62 #[.pointer (some ⟨b, 0, none⟩), .pointer (some ⟨c, 0, none⟩)] nodeF (fun s w => IsFn w b ∧ IsNum w c 24 s) [c] B1 (fun g => g < b) FitsNs where
  call s w v ns i av pl hI hN hF hi hrow hpl _ := check1_any _ B1 b c s w v ns i av pl (by omega) hI.1 hI.2 hN hF hi hrow hpl
  stable s w w' L hL hI hk := ⟨hI.1.keeps hk (fun hm => by have := hL b hm; omega), hI.2.keeps hk (fun hm => by have := hL c hm; omega)⟩
  down ns hF n hn := (fits_mem hF hn).2
  low g hg := by simp at hg; omega
  enters := enters62
  part g hg := ⟨by omega, by simp; omega⟩

/-- What Check answers of a tree. -/
def chkTree (ns : List Nd) : Int := if (walkL fitsF ns ns 0 [] 0).2 = true then (walkL nodeF ns ns 0 [] 0).1 else 2

set_option maxRecDepth 4000 in
set_option maxHeartbeats 2000000 in
theorem nodesCheck_any (w : World) (P : Nat → Prop) (v : Value) (ns : List Nd) (h : Ns w P v ns) (hsz : sizeNs ns ≤ 2000000) (hF : FitsNs ns) :
    Calls Tryz.prog 37 #[v, .func (.func 38) #[] #[]] w fun e w' => e = .returned (.int .i64 (chkTree ns)) ∧ Keeps [] w w' := by
  unfold chkTree
  have hka : Keeps [] w (w.alloc (.cells #[.func (.func 38) #[] #[]] 67)) := (Keeps.refl [] w).alloc _
  have hbx : IsFn (w.alloc (.cells #[.func (.func 38) #[] #[]] 67)) w.heap.size := heap_alloc_new w _
  obtain ⟨W, hW⟩ : ∃ W, w.alloc (.cells #[.func (.func 38) #[] #[]] 67) = W := ⟨_, rfl⟩
  rw [hW] at hka hbx
  have HW := hide hW
  clear hW
  have hfi := hide (fits_any W P v ns (h.keeps0 hka) hsz)
  have hlow : Ns w (fun g => g < w.heap.size) v ns := h.lt
  have hlt : w.heap.size < W.heap.size := lt_of_block hbx
  have hwk := hide (fun (W1 : World) (hk1 : Keeps [] W W1) => Walk_any (check_vis w.heap.size W1.heap.size (W1.heap.size + 1) (Nat.lt_of_lt_of_le hlt hk1.size) (by omega)) (W1.alloc (.cells #[.int .i64 0] 24)) v ns (hlow.keeps0 ((hka.trans hk1).alloc _)) 0 ⟨(hbx.keeps hk1 List.not_mem_nil).keeps ((Keeps.refl [] W1).alloc _) List.not_mem_nil, heap_alloc_new W1 _⟩ (by simp) hsz hF)
  generalize walkL nodeF ns ns 0 [] 0 = R at *
  obtain ⟨o, c', hv⟩ := h.form
  subst hv
  clear hlow h
  cases hb : (walkL fitsF ns ns 0 [] 0).2
  · rw [hb] at hfi
    rw [if_neg (by simp)]
    clear hb hwk
    go_enter Tryz.func37, Tryz.ntmps37
    go_wp2_with fail
    rw [HW.out]
    refine hfi.out.mono ?_
    rintro e w1 ⟨rfl, hk1⟩
    go_wp2_with fail
    go_ret
    exact ⟨rfl, hka.trans hk1⟩
  · rw [hb] at hfi
    rw [if_pos rfl]
    clear hb
    go_enter Tryz.func37, Tryz.ntmps37
    go_wp2_with fail
    rw [HW.out]
    refine hfi.out.mono ?_
    rintro e w1 ⟨rfl, hk1⟩
    go_wp2_with fail
    refine (hwk.out w1 hk1).mono ?_
    rintro e w2 ⟨rfl, ⟨_, hn2⟩, hk2⟩
    have n0 : w2.cell? ⟨w1.heap.size, 0, none⟩ = some (.int .i64 R.1) := cell_blk hn2 0
    go_wp2_with fail
    go_ret
    refine ⟨rfl, keeps_within ((hka.trans hk1).alloc _) hk2 (fun g hg hlt2 => ?_)⟩
    simp at hg
    have := hka.size
    have := hk1.size
    omega

theorem treeCheck_any (w : World) (P : Nat → Prop) (v : Value) (ns : List Nd) (h : Ns w P v ns) (hsz : sizeNs ns ≤ 2000000) (hF : FitsNs ns) :
    Calls Tryz.prog 14 #[v] w fun e w' => e = .returned (.int .i64 (chkTree ns)) ∧ Keeps [] w w' := by
  have hc := hide (nodesCheck_any w P v ns h hsz hF)
  generalize chkTree ns = R at *
  obtain ⟨o, c', hv⟩ := h.form
  subst hv
  clear h
  go_enter Tryz.func14, Tryz.ntmps14
  go_wp2_with fail
  refine hc.out.mono ?_
  rintro e w1 ⟨rfl, hk1⟩
  go_wp2_with fail
  go_ret
  exact ⟨rfl, hk1⟩
end Go.Proofs.YtngojdajamgababGreat
