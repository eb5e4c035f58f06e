/- CleanGood holds: for every input the law returns true, and each argument reads behind the call as it read before; no condition. A part of its proof. -/
import Derived.Test.YtlcljanibjdejaaGreatCg04
namespace Go.Proofs.YtlcljanibjdejaaGreat
open Go.RowKit Go.Maps
theorem enters162 : Enters 162 := enters_of Tryz.func162 (by kernel_rfl) (by kernel_rfl)
theorem enters163 : Enters 163 := enters_of Tryz.func163 (by kernel_rfl) (by kernel_rfl)
theorem enters165 : Enters 165 := enters_of Tryz.func165 (by kernel_rfl) (by kernel_rfl)
def IsNode (w : World) (g : Nat) (nm : List UInt8) (av : Value) : Prop := w.heap[g]? = some (.cells #[.string ⟨nm.toArray⟩, av, .string ⟨#[]⟩, .slice none 0 0] 45 (0, 0))
theorem box_kept {w2 w3 : World} {cs : Array Value} {t : TypeId} (h : Keeps [] ((w2.alloc (.cells cs t)).drew) w3) : w3.heap[w2.heap.size]? = some (.cells cs t (0, 0)) :=
  (h.block w2.heap.size (by simp [World.drew]) List.not_mem_nil).trans (heap_alloc_new w2 _)
theorem cell_blk {w : World} {g : Nat} {cs : Array Value} {t : TypeId} (h : w.heap[g]? = some (.cells cs t (0, 0))) (j : Nat) : w.cell? ⟨g, j, none⟩ = cs[j]? := by
  unfold World.cell?; simp only; rw [h]; simp
theorem free_blk {w : World} {g : Nat} {cs : Array Value} {t : TypeId} (h : w.heap[g]? = some (.cells cs t (0, 0))) (j : Nat) : w.frozen? ⟨g, j, none⟩ = false := by
  unfold World.frozen?; simp only; rw [h]; simp
theorem node_early {w2 w3 : World} (nm : List UInt8) {v : Value} {la : List Pair} (hk : Keeps [] ((w2.alloc (.cells #[.string ⟨#[]⟩, .slice none 0 0, .string ⟨#[]⟩, .slice none 0 0] 45)).drew) w3)
    (ho : w3.ownsRow ((w2.alloc (.cells #[.string ⟨#[]⟩, .slice none 0 0, .string ⟨#[]⟩, .slice none 0 0] 45)).drew).heap.size 52 2 v la.length (pairCells la)) :
    w2.heap.size ≤ w2.heap.size ∧ IsNode ((((w3.setCell ⟨w2.heap.size, 0, none⟩ (.string ⟨nm.toArray⟩)).setCell ⟨w2.heap.size, 1, none⟩ v).setCell ⟨w2.heap.size, 2, none⟩ (.string ⟨#[]⟩)).setCell ⟨w2.heap.size, 3, none⟩ (.slice none 0 0)) w2.heap.size nm v ∧
      ((((w3.setCell ⟨w2.heap.size, 0, none⟩ (.string ⟨nm.toArray⟩)).setCell ⟨w2.heap.size, 1, none⟩ v).setCell ⟨w2.heap.size, 2, none⟩ (.string ⟨#[]⟩)).setCell ⟨w2.heap.size, 3, none⟩ (.slice none 0 0)).ownsRow w2.heap.size 52 2 v la.length (pairCells la) ∧
      Keeps [] w2 ((((w3.setCell ⟨w2.heap.size, 0, none⟩ (.string ⟨nm.toArray⟩)).setCell ⟨w2.heap.size, 1, none⟩ v).setCell ⟨w2.heap.size, 2, none⟩ (.string ⟨#[]⟩)).setCell ⟨w2.heap.size, 3, none⟩ (.slice none 0 0)) := by
  have hz := box_kept hk
  have hsz : ((w2.alloc (.cells #[.string ⟨#[]⟩, .slice none 0 0, .string ⟨#[]⟩, .slice none 0 0] 45)).drew).heap.size = w2.heap.size + 1 := by simp
  rw [hsz] at ho
  have hk0 : Keeps [] w2 w3 := (((Keeps.refl [] w2).alloc _).drew).trans hk
  have hk1 : Keeps [w2.heap.size] w3 ((((w3.setCell ⟨w2.heap.size, 0, none⟩ (.string ⟨nm.toArray⟩)).setCell ⟨w2.heap.size, 1, none⟩ v).setCell ⟨w2.heap.size, 2, none⟩ (.string ⟨#[]⟩)).setCell ⟨w2.heap.size, 3, none⟩ (.slice none 0 0)) :=
    ((((Keeps.refl [w2.heap.size] w3).setCell (.inl (by simp)) _).setCell (.inl (by simp)) _).setCell (.inl (by simp)) _).setCell (.inl (by simp)) _
  refine ⟨Nat.le_refl _, ?_, ?_, ?_⟩
  · unfold IsNode
    simp [World.setCell, Array.getElem?_modify, hz]
  · refine (hk1.owns ho (fun g hg hm => ?_)).mono (by omega)
    have := (ho.lt g hg).1
    simp at hm
    omega
  · refine ⟨hk1.os.trans hk0.os, hk1.tape.trans hk0.tape, hk1.output.trans hk0.output, Nat.le_trans hk0.size hk1.size, fun k hlt hn => ?_⟩
    exact (hk1.block k (Nat.lt_of_lt_of_le hlt hk0.size) (by simp; omega)).trans (hk0.block k hlt hn)
theorem node_late {w2 w3 : World} (nm : List UInt8) {v : Value} {la : List Pair} (hk : Keeps [] w2.drew w3) (ho : w3.ownsRow w2.drew.heap.size 52 2 v la.length (pairCells la)) :
    w2.heap.size ≤ w3.heap.size ∧ IsNode (w3.alloc (.cells #[.string ⟨nm.toArray⟩, v, .string ⟨#[]⟩, .slice none 0 0] 45)) w3.heap.size nm v ∧ (w3.alloc (.cells #[.string ⟨nm.toArray⟩, v, .string ⟨#[]⟩, .slice none 0 0] 45)).ownsRow w2.heap.size 52 2 v la.length (pairCells la) ∧
      Keeps [] w2 (w3.alloc (.cells #[.string ⟨nm.toArray⟩, v, .string ⟨#[]⟩, .slice none 0 0] 45)) :=
  ⟨hk.size, heap_alloc_new w3 _, ho.alloc _, (((Keeps.refl [] w2).drew).trans hk).alloc _⟩
set_option maxRecDepth 4000 in
set_option maxHeartbeats 4000000 in
theorem openTagS_any (B r : Nat) (s : St) (T : List Nat) (w : World) (h : BdT w B r s T) (hr : s.Root) (hw : s.weight ≤ 90000)
    (kd : Int) (nm tx : List UInt8) (la : List Pair) (o : Option Addr) (c : Nat) (hA : ∀ W, Below B w W → Lies W (.slice o la.length c) la.length 2 (pairCells la)) (hal : la.length ≤ 2000000) :
    Calls Tryz.prog 83 #[.pointer (some ⟨r, 0, none⟩), .agg #[.int .i64 kd, .string ⟨nm.toArray⟩, .slice o la.length c, .string ⟨tx.toArray⟩]] w fun e w' =>
      e = .returned (.tuple #[]) ∧ ∃ T', BdT w' B r (s.openTag ⟨kd, nm, la, tx⟩) T' ∧ Stp w T w' T' := by
  have hka : Keeps [] w (w.alloc (.cells #[.int .i64 kd, .string ⟨nm.toArray⟩, .slice o la.length c, .string ⟨tx.toArray⟩] 117)) := (Keeps.refl [] w).alloc _
  have hbx : IsTok (w.alloc (.cells #[.int .i64 kd, .string ⟨nm.toArray⟩, .slice o la.length c, .string ⟨tx.toArray⟩] 117)) w.heap.size (⟨kd, nm, la, tx⟩, .slice o la.length c) := heap_alloc_new w _
  have hge := h.ge
  have ha := h.keepsNil hka
  obtain ⟨W, hW⟩ : ∃ W, w.alloc (.cells #[.int .i64 kd, .string ⟨nm.toArray⟩, .slice o la.length c, .string ⟨tx.toArray⟩] 117) = W := ⟨_, rfl⟩
  rw [hW] at hka hbx ha
  have hWl : w.heap.size < W.heap.size := hbx.lt
  have hle := closedL_le s.names nm
  have hpos := closedL_pos hr nm
  have hul := weight_up s
  rw [names_len] at hle
  have hcl := hide (fun n => closeFromS_any B r s T (closedL s.names nm) hpos (by omega) (W.drewN n) (ha.keepsNil ((Keeps.refl [] _).drewN n)) (by omega))
  obtain ⟨openv, textv, l, p, hTT, e2, e3, hB⟩ := id ha
  have hnm := hB.named
  rw [names_of e2 e3] at hnm
  have c0 := hB.cell0
  have hcb := hide (fun n => closedBy_any (W.drewN n) openv s.names nm hnm)
  unfold St.openTag
  simp only
  have hw1 : (s.closeFrom (closedL s.names nm)).weight ≤ 90000 := Nat.le_trans (weight_close _ s) hw
  generalize s.closeFrom (closedL s.names nm) = s1 at *
  generalize closedL s.names nm = L at *
  obtain ⟨go, cap, hv, _⟩ := hB.form
  subst hv
  have b1 := hbx.cell 1
  simp at b1
  clear hB hnm e2 e3 hTT
  obtain ⟨R, hR⟩ : ∃ R, (if 8 < s1.up.length + 1 then s1 else s1.openIn ⟨kd, nm, la, tx⟩) = R := ⟨_, rfl⟩
  rw [hR]
  have HR := hide hR
  clear hR
  go_enter Tryz.func83, Tryz.ntmps83
  go_upto_region 1 with fail
  go_cut [] from 5 to 13 (fun wc => ∃ T1, BdT wc B r s1 T1 ∧ Stp W T wc T1 ∧ IsTok wc w.heap.size (⟨kd, nm, la, tx⟩, .slice o la.length c))
  case first =>
    go_region_law (first
      | (refine step_call rfl 163 _ _ rfl enters163 #[.slice (some ⟨go, 0, none⟩) (l.length + 1) cap, .string ⟨nm.toArray⟩] (by simp [Act.eval]) (hcb.out _) ?_; rintro e w2 ⟨rfl, rfl⟩; refine ⟨_, rfl, ?_⟩)
      | (refine step_call rfl 162 _ _ rfl enters162 #[.pointer (some ⟨r, 0, none⟩), .int .i64 L] (by simp [Act.eval]) (hcl.out _) ?_; rintro e w2 ⟨rfl, T2, hB2, hs2⟩; refine ⟨_, rfl, ?_⟩))
    all_goals go_wp2
    all_goals go_meet
    all_goals exact ⟨T2, hB2, (Stp.nil ((Keeps.refl [] _).drewN _) T).trans hs2, IsTok.keeps (show IsTok (W.drewN _) _ _ from hbx) hs2.1 (fun hm => by have := (hge.1 _ hm).2; omega)⟩
  case rest =>
    obtain ⟨T1, hB1, hs1, hbx1⟩ := hcut
    clear hcl hcb hW hbx b1 c0 ha hul hle hpos hr
    obtain ⟨openv, textv, l, p, hTT, e2, e3, hB⟩ := id hB1
    obtain ⟨go1, cap1, hv1, _⟩ := hB.form
    have hu1 := up_len e2
    have hul := weight_up s1
    subst hv1
    have d0 := hB.cell0
    rw [hu1] at d0
    clear hB e2 e3 hTT
    by_cases hdeep : 8 < s1.up.length + 1
    · have hRe : s1 = R := by rw [← HR.out, if_pos hdeep]
      subst hRe
      have hd : (8 : Int) < (s1.up.length : Int) + 1 := by omega
      clear hbx1
      go_wp2_with fail
      refine bodyPost_ret (v := .tuple #[]) (by simp [results, Tryz.results83]) rfl ?_
      exact ⟨rfl, T1, hB1, (Stp.nil hka T).trans hs1⟩
    · have hRe : s1.openIn ⟨kd, nm, la, tx⟩ = R := by rw [← HR.out, if_neg hdeep]
      have HRe := hide hRe
      clear hRe HR
      have hd : ¬ (8 : Int) < (s1.up.length : Int) + 1 := by omega
      have het := hide (endTextS_any B r s1 T1 _ hB1 (by omega))
      have hge1 := hB1.ge
      have hwe := weight_endText s1
      go_wp2_with fail
      refine het.out.mono ?_
      rintro e w2 ⟨rfl, T2, hB2, hs2⟩
      have hbW : w.heap.size ∉ T1 := fun hm => by have h9 := hs1.2 _ hm hWl; have := (hge.1 _ h9).2; omega
      have hbx2 := hbx1.keeps hs2.1 hbW
      have hge2 := hB2.ge
      have hbel : Below B w w2 := (((Stp.nil hka T).trans hs1).trans hs2).below (fun g hg => (hge.1 g hg).1) hge.2
      have hA2 := hide (fun (W' : World) (hk : Keeps [] w2 W') => hA W' (hbel.trans (hk.below hge2.2 (fun _ hm => absurd hm List.not_mem_nil))))
      have b1 := hbx2.cell 1
      have b2 := hbx2.cell 2
      simp at b1 b2
      have hcp := hide (fun (W' : World) (hk : Keeps [] w2 W') => copied_any W' _ la (hA2.out W' hk) hal)
      have b1a : ∀ o', (w2.alloc o').cell? ⟨w.heap.size, 1, none⟩ = some (.string ⟨nm.toArray⟩) := fun o' => (cell_past (a := ⟨w.heap.size, 1, none⟩) hbx2.lt o').trans b1
      have b2a : ∀ o', (w2.alloc o').cell? ⟨w.heap.size, 2, none⟩ = some (.slice o la.length c) := fun o' => (cell_past (a := ⟨w.heap.size, 2, none⟩) hbx2.lt o').trans b2
      clear het hd d0
      go_upto_region 4 with fail
      go_cut [4] from 22 to 27 (fun v4 wd => ∃ bn av, v4 = .pointer (some ⟨bn, 0, none⟩) ∧ w2.heap.size ≤ bn ∧ IsNode wd bn nm av ∧ wd.ownsRow w2.heap.size 52 2 av la.length (pairCells la) ∧ Keeps [] w2 wd)
      case first =>
        go_region_law (refine step_call rfl 165 _ _ rfl enters165 #[.slice o la.length c] (by simp [Act.eval]) (hcp.out _ (by first | exact (Keeps.refl [] _).drew | exact ((Keeps.refl [] _).alloc _).drew)) ?_; rintro e w3 ⟨v3, rfl, ho3, hk3⟩; obtain ⟨o3, c3, hv3⟩ := row_form ho3; subst hv3; refine ⟨_, rfl, ?_⟩; have x1 : w3.cell? ⟨w.heap.size, 1, none⟩ = some (.string ⟨nm.toArray⟩) := cell_keeps hk3 (by first | exact b1 | exact b1a _); have x1a : ∀ o', (w3.alloc o').cell? ⟨w.heap.size, 1, none⟩ = some (.string ⟨nm.toArray⟩) := fun o' => (cell_past (a := ⟨w.heap.size, 1, none⟩) (Nat.lt_of_lt_of_le hbx2.lt (Nat.le_trans (by simp) hk3.size)) o').trans x1; try (have hz := box_kept hk3; have z0 : w3.cell? ⟨w2.heap.size, 0, none⟩ = some (.string ⟨#[]⟩) := cell_blk hz 0; have z1 : w3.cell? ⟨w2.heap.size, 1, none⟩ = some (.slice none 0 0) := cell_blk hz 1; have z2 : w3.cell? ⟨w2.heap.size, 2, none⟩ = some (.string ⟨#[]⟩) := cell_blk hz 2; have z3 : w3.cell? ⟨w2.heap.size, 3, none⟩ = some (.slice none 0 0) := cell_blk hz 3; have y0 := free_blk hz 0; have y1 := free_blk hz 1; have y2 := free_blk hz 2; have y3 := free_blk hz 3))
        all_goals go_wp2
        all_goals go_meet
        all_goals first
          | (have hz9 := hz; exact ⟨_, _, rfl, node_early nm hk3 ho3⟩)
          | exact ⟨_, _, rfl, node_late nm hk3 ho3⟩
      case rest =>
        obtain ⟨bn, av, rfl, hbn, hnode, hrow, hkd⟩ := hcut
        obtain ⟨oa, ca, hav⟩ := row_form hrow
        subst hav
        have hLA : LiesP wc (DoneB B T2) (.slice oa la.length ca) la.length 2 (pairCells la) := LiesP.of_row hrow (fun g hg => ⟨Nat.le_trans hge2.2 (hrow.lt g hg).1, fun hm => by have := (hge2.1 g hm).2; have := (hrow.lt g hg).1; omega⟩)
        have hB3 := hB2.keepsNil hkd
        have hs3 := (((Stp.nil hka T).trans hs1).trans hs2).trans (Stp.nil hkd T2)
        have hbx3 := hbx2.keeps hkd List.not_mem_nil
        have b3 := hbx3.cell 1
        simp at b3
        have k0 : wc.cell? ⟨bn, 0, none⟩ = some (.string ⟨nm.toArray⟩) := cell_blk hnode 0
        have k1 : wc.cell? ⟨bn, 1, none⟩ = some (.slice oa la.length ca) := cell_blk hnode 1
        have k2 : wc.cell? ⟨bn, 2, none⟩ = some (.string ⟨#[]⟩) := cell_blk hnode 2
        have k3 : wc.cell? ⟨bn, 3, none⟩ = some (.slice none 0 0) := cell_blk hnode 3
        have hbnl : bn < wc.heap.size := lt_of_block hnode
        have hie := hide (fun W' => isEmpty_any nm W')
        have hRe2 := HRe.out
        unfold St.openIn at hRe2
        simp only at hRe2
        clear hcp hA2 b1a b2a b1 b2 hbx1 hbx2 hs1 hs2 hB1 hB2 hbel HRe
        cases hem : emptyN nm
        · rw [hem] at hie hRe2
          rw [if_neg (by simp)] at hRe2
          have HRe3 := hide hRe2
          clear hRe2 hem
          obtain ⟨openv, textv, l9, p9, hTT, e2, e3, hB⟩ := id hB3
          have hul9 := up_len e2
          rw [endText_up] at hul9
          obtain ⟨go2, cap2, hv2, hgo2, hgl2, hc1, hc2⟩ := hB.form
          subst hv2
          have q0 := hB.cell0
          have qf := hB.free 0
          have hrl := hB.lt
          have hrg : r ∉ (Value.slice (some ⟨go2, 0, none⟩) (l9.length + 1) cap2).ownBlock.toList := fun hm => block_ne hB.opn hB.blk (by decide) (by simpa using hm)
          have q0a : ∀ o', (wc.alloc o').cell? ⟨r, 0, none⟩ = some (.slice (some ⟨go2, 0, none⟩) (l9.length + 1) cap2) := fun o' => (cell_past (a := ⟨r, 0, none⟩) hrl o').trans q0
          have k0a : ∀ o', (wc.alloc o').cell? ⟨bn, 0, none⟩ = some (.string ⟨nm.toArray⟩) := fun o' => (cell_past (a := ⟨bn, 0, none⟩) hbnl o').trans k0
          have k1a : ∀ o', (wc.alloc o').cell? ⟨bn, 1, none⟩ = some (.slice oa la.length ca) := fun o' => (cell_past (a := ⟨bn, 1, none⟩) hbnl o').trans k1
          have k2a : ∀ o', (wc.alloc o').cell? ⟨bn, 2, none⟩ = some (.string ⟨#[]⟩) := fun o' => (cell_past (a := ⟨bn, 2, none⟩) hbnl o').trans k2
          have k3a : ∀ o', (wc.alloc o').cell? ⟨bn, 3, none⟩ = some (.slice none 0 0) := fun o' => (cell_past (a := ⟨bn, 3, none⟩) hbnl o').trans k3
          have hopn := hB.opn
          rw [List.length_append, List.length_singleton] at hopn
          obtain ⟨i0, hi, hz0, hz1, hz2⟩ := info_parts info79
          unfold maxLen at hc2
          have hl9 : l9.length ≤ 100000 := by omega
          have hlt1 : (l9.length : Int) + 1 < (l9.length : Int) + 1 + 1 := by omega
          have hlt0 : (0 : Int) ≤ (l9.length : Int) + 1 := by omega
          have hBwc : B ≤ wc.heap.size := Nat.le_trans hge2.2 hkd.size
          have hpl : (posCells (l9 ++ [p9])).length = (l9.length + 1) * 4 := by rw [posCells_len]; simp
          have E2 := hide e2
          have E3 := hide e3
          have HT := hide hTT
          clear hul9 e2 e3 hTT
          go_wp2_with fail
          refine (hie.out _).mono ?_
          rintro e w5 ⟨rfl, h5⟩
          obtain rfl : wc = w5 := h5.symm
          go_upto_region 7 with fail
          go_region_law (refine step_own_at rfl _ _ 29 rfl B 45 i0 _ 4 80 Tryz.underlying29 hi hz0 hz1 hz2 (by kernel_rfl) (by decide) (.slice (some ⟨go2, 0, none⟩) (l9.length + 1) cap2) (l9.length + 1) (posCells (l9 ++ [p9])) rfl ((hopn.alloc _).drew) ⟨wc.heap.size, 0, none⟩ 1 1 zeroNd rfl rfl (lit_cells wc _ 45) (by intro u hu; simp [zeroNd] at hu; rcases hu with rfl | rfl | rfl | rfl <;> rfl) (by unfold maxLen; omega) (by omega) (Nat.le_trans hBwc (by simp)) ?_; intro v3 w3 ho3 hg3 hw3; obtain ⟨g3, c3, hv3, hc31, hc32, hB3', hl3, hcl3, hfr3⟩ := grow_form ho3 hpl; subst hv3; unfold maxLen at hc32; have n0 : w3.cell? ⟨g3, (l9.length + 1) * 4, none⟩ = some (.string ⟨#[]⟩) := hcl3 0 (by decide); have n1 : w3.cell? ⟨g3, (l9.length + 1) * 4 + 1, none⟩ = some (.slice none 0 0) := hcl3 1 (by decide); have n2 : w3.cell? ⟨g3, (l9.length + 1) * 4 + 2, none⟩ = some (.string ⟨#[]⟩) := hcl3 2 (by decide); have n3 : w3.cell? ⟨g3, (l9.length + 1) * 4 + 3, none⟩ = some (.slice none 0 0) := hcl3 3 (by decide); clear hcl3; have hk3 : Keeps (Value.slice (some ⟨go2, 0, none⟩) (l9.length + 1) cap2).ownBlock.toList wc w3 := (((Keeps.refl _ wc).alloc _).drew).grown hg3 (fun i e => .inl (by simp [e])); have hne : g3 ≠ r := put_ne hrg hw3 hrl; have z0 := hfr3 ((l9.length + 1) * 4); have z1 := hfr3 ((l9.length + 1) * 4 + 1); have z2 := hfr3 ((l9.length + 1) * 4 + 2); have z3 := hfr3 ((l9.length + 1) * 4 + 3); have d3 := cell_keepsS hk3 (a := ⟨r, 0, none⟩) hrg q0; have e9 : w3.frozen? ⟨r, 0, none⟩ = false := free_blk ((hk3.block r hrl hrg).trans hB.blk) 0)
          all_goals go_end0
          all_goals rw [← HRe3.out]
          all_goals have hW1 : wc.heap.size ≤ ((wc.alloc (.cells #[.string ⟨#[]⟩, .slice none 0 0, .string ⟨#[]⟩, .slice none 0 0] 45)).drew).heap.size := by simp
          all_goals have hfin := hB.push (q := ⟨⟨nm, la, []⟩, .slice oa la.length ca, .slice none 0 0, []⟩) (keeps4 (n := l9.length + 1) hk3 (own_or hw3 hW1) (.string ⟨nm.toArray⟩) (.slice oa la.length ca) (.string ⟨#[]⟩) (.slice none 0 0)) (by rw [List.length_append, List.length_singleton]; exact stored4 ho3 hpl _ _ _ _) (own_or2 hw3 hW1) rfl rfl rfl (HT.out ▸ hLA)
          all_goals try rw [setCell_comm w3 (a := ⟨r, 0, none⟩) (b := ⟨g3, (l9.length + 1) * 4, none⟩) hne.symm, setCell_comm _ (a := ⟨r, 0, none⟩) (b := ⟨g3, (l9.length + 1) * 4 + 1, none⟩) hne.symm, setCell_comm _ (a := ⟨r, 0, none⟩) (b := ⟨g3, (l9.length + 1) * 4 + 2, none⟩) hne.symm, setCell_comm _ (a := ⟨r, 0, none⟩) (b := ⟨g3, (l9.length + 1) * 4 + 3, none⟩) hne.symm]
          all_goals exact ⟨rfl, _, ⟨_, textv, l9 ++ [p9], _, rfl, by simp [E2.out, E3.out, endText_up], rfl, by have h9 := hfin.1; rw [endText_text] at h9; exact h9⟩, hs3.trans (HT.out ▸ hfin.2)⟩
        · rw [hem] at hie hRe2
          rw [if_pos rfl] at hRe2
          have HRe3 := hide hRe2
          clear hRe2 hem
          have hput := hide (putS_any B r s1.endText T2 wc hB3 (by omega) (.mk nm la [] []) oa none la.length ca 0 0 hLA (Ns.nil _ _ none 0 (by simp [maxLen])))
          simp only [Nd.name, Nd.text] at hput
          go_wp2_with fail
          refine (hie.out _).mono ?_
          rintro e w5 ⟨rfl, h5⟩
          subst h5
          go_wp2_with fail
          refine hput.out.mono ?_
          rintro e w6 ⟨rfl, T6, hB6, hs6⟩
          go_wp2_with fail
          refine bodyPost_ret (v := .tuple #[]) (by simp [results, Tryz.results83]) rfl ?_
          rw [← HRe3.out]
          exact ⟨rfl, T6, hB6, hs3.trans hs6⟩
theorem run_append_string_at {P : Program} (w : World) (base : Nat) (t u ty e : TypeId) (i : TypeInfo) (ht : P.underlying t = some (.slice e)) (hu : P.underlying u = some .string) (hi : P.info? e = some i) (hz : i.zero = some (.int .u8 0))
    (hsize : i.size = 1) (hby : i.bytes = 1) (v : Value) (n : Nat) (xs : List Value) (hown : w.ownsRow base e 1 v n xs) (s : ByteArray)
    (h63 : n + s.size ≤ maxLen) (hbytes : n + s.size ≤ 140737488355328) (hbase : base ≤ w.heap.size) :
    ∃ v' w', (Builtin.append_ #[t, u] ty #[v, .string s]).run P w = .ok v' w' ∧ w'.ownsRow base e 1 v' (n + s.size) (xs ++ Lib.strCells s) ∧ w.grownBy w' v.ownBlock ∧
      (v'.ownBlock = v.ownBlock ∨ ∃ k, v'.ownBlock = some k ∧ w.heap.size ≤ k) := by
  obtain ⟨v', w', hr, h1, h2, h3⟩ := Lib.run_append_own_string (P := P) w base t u ty e i ht hu hi hz hsize hby v n xs hown s h63 hbytes hbase
  refine ⟨v', w', hr, h1, h2, ?_⟩
  have hxl : xs.length = n := by simpa using hown.1
  rcases hown.2 with ⟨rfl, rfl⟩ | ⟨g, cap, cur, rfl, hbg, hg, hnc, hcm, hcs, htake⟩
  · obtain ⟨v2, w2, hr2, h12, h22, _⟩ := Lib.run_append_own_string (P := P) w w.heap.size t u ty e i ht hu hi hz hsize hby (.slice none 0 0) 0 [] (World.ownsRow_nil _ _ _ _) s h63 hbytes (Nat.le_refl _)
    rw [hr] at hr2
    simp only [Result.ok.injEq] at hr2
    obtain ⟨rfl, rfl⟩ := hr2
    cases hb : v'.ownBlock with
    | none => exact .inl rfl
    | some k => exact .inr ⟨k, rfl, (h12.lt k hb).1⟩
  · by_cases hroom : n + s.size ≤ cap
    · have hcs' : cur.size = cap := by simpa using hcs
      have hr2 := Lib.run_append_room_string (P := P) w t u ty e i ht hu hi hsize g n cap cur hg s hroom (by omega)
      rw [hr] at hr2
      simp only [Result.ok.injEq] at hr2
      rw [hr2.1]
      exact .inl rfl
    · have holds : ∀ j u, xs[j]? = some u → w.cell? ((⟨g, 0, none⟩ : Addr).add j) = some u := hown.cells (g := g) rfl
      have hsmall : n + s.size ≤ 9223372036854775807 := by simp only [maxLen] at h63; omega
      have hr2 := Lib.run_append_grow_string (P := P) w t u ty e i (.int .u8 0) ht hu hi hz ⟨g, 0, none⟩ n cap xs (by rw [hsize]; simpa using hxl) holds s (by omega) (by omega) (by rw [hby]; exact growslice_fits (by omega) (by omega))
      rw [hr] at hr2
      simp only [Result.ok.injEq] at hr2
      rw [hr2.1]
      exact .inr ⟨_, rfl, Nat.le_refl _⟩
theorem step_str_at {P : Program} {ops : Array Oper} {o : Oper} {a : Act} {w : World} {K : Act → World → Prop} {Q : Exit → Act → World → Prop} {E : Prop} (hg : o.guard = none) (sl x : Operand) (t u : TypeId)
    (ho : o.op = .call { callee := .builtin .append, args := #[sl, x], argTypes := #[t, u] })
    (base : Nat) (e : TypeId) (i : TypeInfo) (ht : P.underlying t = some (.slice e)) (hu : P.underlying u = some .string) (hi : P.info? e = some i) (hz : i.zero = some (.int .u8 0))
    (hsize : i.size = 1) (hby : i.bytes = 1)
    (v : Value) (n : Nat) (xs : List Value) (hs : a.eval sl = v) (hown : w.ownsRow base e 1 v n xs) (s : ByteArray) (hx : a.eval x = .string s)
    (h63 : n + s.size ≤ maxLen) (hbytes : n + s.size ≤ 140737488355328) (hbase : base ≤ w.heap.size)
    (h : ∀ v' w', w'.ownsRow base e 1 v' (n + s.size) (xs ++ Lib.strCells s) → w.grownBy w' v.ownBlock → (v'.ownBlock = v.ownBlock ∨ ∃ k, v'.ownBlock = some k ∧ w.heap.size ≤ k) → K (a.put o.dst v') w') :
    if Region.wanted o (yielded ops a.tmps) = true then Oper.wp P o a w K Q else E := by
  refine step_is hg ?_
  obtain ⟨v', w', hr, h2, h3, h4⟩ := run_append_string_at (P := P) w base t u o.type e i ht hu hi hz hsize hby v n xs hown s h63 hbytes hbase
  unfold Oper.wp execOp
  simp only [ho, resolve, invoke, builtin, Sem.run_bind, Sem.run_pure, Result.andThen_ok, List.map_toArray, List.map_cons, List.map_nil, hs, hx, hr]
  exact h v' w' h2 h3 h4
theorem info5b : (Tryz.prog.info? 5).map (fun i => (i.zero, i.size, i.bytes)) = some (some (.int .u8 0), 1, 1) := by kernel_rfl
theorem start_bd (w : World) (h0 : 0 < w.heap.size) :
    BdT ((w.alloc (.cells #[.string ⟨#[]⟩, .slice none 0 0, .string ⟨#[]⟩, .slice none 0 0] 45)).alloc (.cells #[.slice (some ⟨w.heap.size, 0, none⟩) 1 1, .slice none 0 0] 115)) w.heap.size (w.heap.size + 1) St.start
      (touchB (w.heap.size + 1) (.slice (some ⟨w.heap.size, 0, none⟩) 1 1) (.slice none 0 0) [⟨⟨[], [], []⟩, .slice none 0 0, .slice none 0 0, []⟩]) := by
  refine ⟨_, _, [], ⟨⟨[], [], []⟩, .slice none 0 0, .slice none 0 0, []⟩, rfl, rfl, rfl, ?_⟩
  have hblk := heap_alloc_new (w.alloc (.cells #[.string ⟨#[]⟩, .slice none 0 0, .string ⟨#[]⟩, .slice none 0 0] 45)) (.cells #[.slice (some ⟨w.heap.size, 0, none⟩) 1 1, .slice none 0 0] 115)
  have hsz : (w.alloc (.cells #[.string ⟨#[]⟩, .slice none 0 0, .string ⟨#[]⟩, .slice none 0 0] 45)).heap.size = w.heap.size + 1 := by simp
  rw [hsz] at hblk
  refine ⟨hblk, (World.ownsRow_lit (base := w.heap.size) (e := 45) (size := 4) w #[.string ⟨#[]⟩, .slice none 0 0, .string ⟨#[]⟩, .slice none 0 0] 1 (Nat.le_refl _) (by decide) rfl).alloc _, World.ownsRow_nil _ _ _ _, ?_, ?_, ?_, ?_, by omega, h0⟩
  · intro p hp
    simp at hp
    subst hp
    exact ⟨rfl, World.ownsRow_nil _ _ _ _⟩
  · intro p hp
    simp at hp
    subst hp
    exact ⟨rfl, .inl ⟨rfl, none, 0, rfl, by simp [maxLen]⟩⟩
  · intro p hp
    simp at hp
    subst hp
    simp
  · simp [kidBlocks, Value.ownBlock]
theorem byteCells_str (l : List UInt8) (t : List UInt8) : Lib.byteCells l ++ Lib.strCells ⟨t.toArray⟩ = Lib.byteCells (l ++ t) := by
  simp [Lib.byteCells, Lib.strCells]
theorem weight_step (s : St) (t : Tok) : (s.step t).weight ≤ s.weight + 1 := by
  unfold St.step
  split
  · unfold St.weight
    simp only [St.all]
    split <;> split <;> omega
  · split
    · unfold St.openTag
      have hc := weight_close (s.up.length + 1 - closedL s.names t.name) s
      split
      · exact Nat.le_trans hc (by omega)
      · unfold St.closeFrom
        generalize s.close (s.up.length + 1 - closedL s.names t.name) = s1 at hc
        rw [← weight_endText s1] at hc
        refine Nat.le_trans ?_ (Nat.add_le_add_right hc 1)
        have h1 := endText_up s1
        have h2 := endText_text s1
        unfold St.openIn
        split
        · unfold St.weight
          rw [weight_all, weight_all]
          simp [St.put, Op.put, h2]
          omega
        · unfold St.weight
          rw [weight_all, weight_all, h1, h2]
          simp
          omega
    · exact Nat.le_trans (weight_close _ s) (by omega)
theorem text_pop (s : St) : s.pop.text = [] := by
  unfold St.pop
  split
  · exact endText_text s
  · rfl
theorem text_close (k : Nat) (s : St) : (s.close k).text.length ≤ s.text.length := by
  induction k generalizing s with
  | zero => exact Nat.le_refl _
  | succ k ih => rw [St.close]; exact Nat.le_trans (ih _) (by rw [text_pop]; simp)
theorem text_step (s : St) (t : Tok) : (s.step t).text.length ≤ s.text.length + t.text.length := by
  unfold St.step
  split
  · simp
  · split
    · unfold St.openTag
      have hc := text_close (s.up.length + 1 - closedL s.names t.name) s
      split
      · exact Nat.le_trans hc (by omega)
      · unfold St.openIn
        split
        · simp [St.put, endText_text]
        · simp
    · exact Nat.le_trans (text_close _ s) (by omega)
theorem chkT_kind {t : Tok} (h : chkT t = 0) : t.kind = 1 ∨ t.kind = 2 ∨ (t.kind = 3 ∧ t.name ≠ []) := by
  unfold chkT at h
  split at h
  · exact .inl ‹_›
  · split at h
    · exact .inr (.inl ‹_›)
    · split at h
      · split at h
        · simp at h
        · next hn =>
          refine .inr (.inr ⟨‹_›, fun e => ?_⟩)
          rw [e] at hn
          exact hn (.inr (.inr (by decide)))
      · simp at h
theorem make36 (w : World) : (Instr.makeSlice 29 (.int .i64 1) (.int .i64 1)).run Tryz.prog w = .ok (.slice (some ⟨w.heap.size, 0, none⟩) 1 1) (w.alloc (.cells #[.string ⟨#[]⟩, .slice none 0 0, .string ⟨#[]⟩, .slice none 0 0] 45)) := by
  obtain ⟨i0, hi, hz0, hz1, hz2⟩ := info_parts info79
  have hr := run_make (P := Tryz.prog) w 29 45 i0 _ Tryz.underlying29 hi hz0 .i64 .i64 1 1 (by decide) (by decide) (by rw [hz2]; decide) (by decide)
  rw [hz1] at hr
  have e1 : madeCells (Value.agg #[.string ⟨#[]⟩, .slice none 0 0, .string ⟨#[]⟩, .slice none 0 0]).cells ((1 : Int).toNat * 4) = #[.string ⟨#[]⟩, .slice none 0 0, .string ⟨#[]⟩, .slice none 0 0] := by kernel_rfl
  rw [e1] at hr
  exact hr
set_option maxRecDepth 8000 in
set_option maxHeartbeats 8000000 in
theorem build_any (w : World) (v : Value) (ts : List Tok) (hv : Toks w v ts) (hf : ∀ t ∈ ts, FitsT t) (h0 : 0 < w.heap.size) (hat : ∀ t ∈ ts, t.attrs.length ≤ 2000000) (htx : (ts.flatMap Tok.text).length ≤ 2000000) :
    Calls Tryz.prog 19 #[v] w fun e w' => ∃ v', e = .returned (.tuple #[v', .int .i64 (chkL ts)]) ∧ Ns w' (fun g => w.heap.size ≤ g) v' (if chkL ts = 0 then buildL ts else []) ∧ Keeps [] w w' := by
  have hck := hide (check_any w v ts hv hf)
  by_cases hc : chkL ts = 0
  · have hts : ∀ t ∈ ts, chkT t = 0 := chkL_each ts hc
    rw [if_pos hc]
    rw [hc] at hck ⊢
    have hlen : ts.length ≤ 3000 := by
      unfold chkL at hc
      split at hc
      · simp at hc
      · omega
    unfold buildL
    obtain ⟨R, hR⟩ : ∃ R, ts.foldl St.step St.start = R := ⟨_, rfl⟩
    rw [hR]
    obtain ⟨l, rfl, hvl, hva⟩ := id hv
    obtain ⟨o, c, rfl, h1, h2⟩ := hvl.form
    unfold maxLen at h2
    have HR := hide hR
    have HTX := hide htx
    have HV := hide hv
    clear hc hR htx hv
    rw [List.length_map] at hlen
    go_enter Tryz.func19, Tryz.ntmps19
    go_wp2_with fail
    refine hck.out.mono ?_
    rintro e w1 ⟨rfl, hk1⟩
    clear hck
    have hst := start_bd w1 (Nat.lt_of_lt_of_le h0 hk1.size)
    have HST := hide hst
    clear hst
    have hmk := make36 w1
    go_wp2_with fail
    clear hmk
    obtain ⟨W0, hW0⟩ : ∃ W0, ((w1.alloc (.cells #[.string ⟨#[]⟩, .slice none 0 0, .string ⟨#[]⟩, .slice none 0 0] 45)).alloc (.cells #[.slice (some ⟨w1.heap.size, 0, none⟩) 1 1, .slice none 0 0] 115)) = W0 := ⟨_, rfl⟩
    have hk0 : Keeps [] w1 W0 := by rw [← hW0]; exact ((Keeps.refl [] w1).alloc _).alloc _
    have hst := HST.out
    rw [hW0] at hst ⊢
    generalize touchB (w1.heap.size + 1) (.slice (some ⟨w1.heap.size, 0, none⟩) 1 1) (.slice none 0 0) [⟨⟨[], [], []⟩, .slice none 0 0, .slice none 0 0, []⟩] = T0 at hst
    have hge0 := hst.ge
    have HST0 := hide hst
    have hw1 : w.heap.size ≤ w1.heap.size := hk1.size
    clear HST hW0 hst
    generalize hrr : w1.heap.size + 1 = r at *
    generalize hBB : w1.heap.size = B at *
    have hkW : ∀ wr T, Stp W0 T0 wr T → Keeps [] w wr := fun wr T h => by
      have hb := h.below (B := B) (fun g hg => (hge0.1 g hg).1) hge0.2
      have h8 := hk0.nil_below
      rw [hBB] at h8
      have h9 : Keeps [] w1 wr := Keeps.of_below (by rw [hBB]; exact h8.trans hb)
      exact hk1.trans h9
    have HkW := hide hkW
    have HTS := hide hts
    have HAT := hide hat
    have HVA := hide hva
    have HVL := hide hvl
    clear hkW hrr hge0 hts hat hva hvl hf hk0 hk1
    go_loopw [18] (fun i wr => ∃ (k : Nat) (s : St), k ≤ l.length ∧ i = .int .i64 k ∧ Hid (∃ T, BdT wr B r s T ∧ Stp W0 T0 wr T) ∧ Hid (((l.drop k).map (·.1)).foldl St.step s = R) ∧ Hid (s.weight ≤ k + 1) ∧ Hid s.Root ∧ Hid (s.text.length + (((l.drop k).map (·.1)).flatMap Tok.text).length ≤ 2000000)) (fun i _ => l.length - (intOf i).toNat)
    case atStart => exact ⟨0, St.start, Nat.zero_le _, rfl, ⟨T0, HST0.out, Stp.refl _ _⟩, HR, by rw [Hid]; decide, ⟨[], rfl⟩, by rw [Hid]; simpa [St.start] using HTX.out⟩
    case round =>
      obtain ⟨k, s, hk, rfl, hB, hF, hW, hRt, hX⟩ := hrel
      clear HST0 HR HTX
      by_cases hlt : k < l.length
      · obtain ⟨T, hBd, hS⟩ := hB.out
        have hkw := HkW.out wr T hS
        have hgeT := hBd.ge
        obtain ⟨g, x, hoo, hcl⟩ := (HVL.out.keeps hkw).addr (by omega)
        subst hoo
        obtain ⟨a0, a1, a2, a3⟩ := lies_tok hcl k hlt
        have hdr : l.drop k = l[k] :: l.drop (k + 1) := List.drop_eq_getElem_cons hlt
        have hF1 := hF.out
        have hX1 := hX.out
        rw [hdr, List.map_cons] at hF1 hX1
        rw [List.foldl_cons] at hF1
        rw [List.flatMap_cons, List.length_append] at hX1
        have hmem : l[k].1 ∈ l.map (·.1) := List.mem_map_of_mem (List.getElem_mem hlt)
        have hchk := chkT_kind (HTS.out _ hmem)
        have hatk := HAT.out _ hmem
        have hvak := HVA.out l[k] (List.getElem_mem hlt)
        have hws := weight_step s l[k].1
        have hts := text_step s l[k].1
        have hrs := root_step s l[k].1 hRt.out
        have hw0 := hW.out
        clear hF hX hdr hmem hcl hB
        generalize l[k] = p at *
        obtain ⟨⟨kd, nm, la, tx⟩, pv⟩ := p
        simp only at a0 a1 a2 a3 hchk hatk hvak hX1 hws hts hrs hF1
        obtain ⟨po, pc, hpv, hp1, hp2⟩ := hvak.form
        subst hpv
        unfold maxLen at hp2
        have hka : Keeps [] wr (wr.alloc (.cells #[.int .i64 kd, .string ⟨nm.toArray⟩, .slice po la.length pc, .string ⟨tx.toArray⟩] 117)) := (Keeps.refl [] wr).alloc _
        have hBa := hBd.keepsNil hka
        have hSa := hS.trans (Stp.nil hka T)
        have HNX : Hid (∃ s', s.step ⟨kd, nm, la, tx⟩ = s' ∧ s'.weight ≤ k + 1 + 1 ∧ s'.Root ∧ s'.text.length + (((l.drop (k + 1)).map (·.1)).flatMap Tok.text).length ≤ 2000000 ∧ ((l.drop (k + 1)).map (·.1)).foldl St.step s' = R) := ⟨_, rfl, by omega, hrs, by omega, hF1⟩
        have hNX := HNX
        clear HNX hws hts hrs hF1
        rcases hchk with hkd | hkd | ⟨hkd, hnn⟩
        · subst hkd
          have hstp : s.step ⟨1, nm, la, tx⟩ = ⟨s.up, s.cur, s.text ++ tx⟩ := rfl
          have HSTP := hide hstp
          obtain ⟨openv, textv, l9, p9, hTT, e2, e3, hBt⟩ := id hBa
          have hrl := hBt.lt
          have q1 := hBt.cell1
          obtain ⟨t0, tc, htv⟩ := row_form hBt.txt
          subst htv
          obtain ⟨i0, hi, hz0, hz1, hz2⟩ := info_parts info5b
          have hbx : (wr.alloc (.cells #[.int .i64 1, .string ⟨nm.toArray⟩, .slice po la.length pc, .string ⟨tx.toArray⟩] 117)).heap[wr.heap.size]? = some (.cells #[.int .i64 1, .string ⟨nm.toArray⟩, .slice po la.length pc, .string ⟨tx.toArray⟩] 117 (0, 0)) := heap_alloc_new wr _
          have b3 : (wr.alloc (.cells #[.int .i64 1, .string ⟨nm.toArray⟩, .slice po la.length pc, .string ⟨tx.toArray⟩] 117)).cell? ⟨wr.heap.size, 3, none⟩ = some (.string ⟨tx.toArray⟩) := cell_blk hbx 3
          have hrt : r ∉ (Value.slice t0 s.text.length tc).ownBlock.toList := fun hm => block_ne hBt.txt hBt.blk (by decide) (by simpa using hm)
          have hBW := hBa.ge.2
          have E2 := hide e2
          have E3 := hide e3
          have HT := hide hTT
          clear hstp e2 e3 hTT hbx
          have htsz : (⟨tx.toArray⟩ : ByteArray).size = tx.length := str_size tx
          go_upto_region 11 with fail
          obtain ⟨W, hWW⟩ : ∃ W, wr.alloc (.cells #[.int .i64 1, .string ⟨nm.toArray⟩, .slice po la.length pc, .string ⟨tx.toArray⟩] 117) = W := ⟨_, rfl⟩
          rw [hWW] at hBa hSa hBt q1 b3 hBW hrl hka ⊢
          clear hWW
          go_region_law (refine step_str_at rfl _ _ 107 9 rfl B 5 i0 Tryz.underlying107 Tryz.underlying9 hi hz0 hz1 hz2 (.slice t0 s.text.length tc) s.text.length (Lib.byteCells s.text) rfl hBt.txt.drew ⟨tx.toArray⟩ rfl (by rw [str_size]; unfold maxLen; omega) (by rw [str_size]; omega) hBW ?_; intro v3 w3 ho3 hg3 hw3; obtain ⟨o3, c3, hv3⟩ := row_form ho3; subst hv3; have hk3 : Keeps (Value.slice t0 s.text.length tc).ownBlock.toList W w3 := ((Keeps.refl _ W).drew).grown hg3 (fun i e => .inl (by simp [e])); have d1 := cell_keepsS hk3 (a := ⟨r, 1, none⟩) hrt q1; have d2 : w3.frozen? ⟨r, 1, none⟩ = false := free_blk ((hk3.block r hrl hrt).trans hBt.blk) 1)
          all_goals go_wp2_with fail
          all_goals have ho4 : w3.ownsRow B 5 1 (.slice o3 (s.text.length + tx.length) c3) (s.text ++ tx).length (Lib.byteCells (s.text ++ tx))  := (by have h9 := ho3; rw [byteCells_str] at h9; rw [List.length_append]; exact h9)
          all_goals have hst := hBt.setText hk3 ho4 hw3
          all_goals obtain ⟨s', hs', n1, n2, n3, n4⟩ := hNX.out
          all_goals rw [HSTP.out] at hs'
          all_goals subst hs'
          all_goals refine ⟨⟨k + 1, ⟨s.up, s.cur, s.text ++ tx⟩, by omega, rfl, ⟨_, ⟨openv, _, l9, p9, rfl, E2.out, E3.out, hst.1⟩, hSa.trans (HT.out ▸ hst.2)⟩, n4, n1, n2, n3⟩, ?_⟩
          all_goals (simp [intOf]; omega)
        · subst hkd
          have hop := hide (openTagS_any B r s T _ hBa hRt.out (by omega) 2 nm tx la po pc (fun W hb => hvak.keeps (Keeps.of_below ((HkW.out _ _ hSa).nil_below.trans (hb.mono hw1)))) hatk)
          have hstp : s.step ⟨2, nm, la, tx⟩ = s.openTag ⟨2, nm, la, tx⟩ := rfl
          rw [hstp] at hNX
          clear hstp
          go_wp2_with fail
          refine hop.out.mono ?_
          rintro e w5 ⟨rfl, T5, hB5, hS5⟩
          clear hop
          go_wp2_with fail
          go_roundw
          case rel =>
            obtain ⟨s', hs', n1, n2, n3, n4⟩ := hNX.out
            subst hs'
            exact ⟨k + 1, _, by omega, by go_num, ⟨T5, hB5, hSa.trans hS5⟩, n4, n1, n2, n3⟩
          case measure => simp [intOf]; omega
        · subst hkd
          have hcl := hide (closeTagS_any B r s T nm hnn _ hBa hRt.out (by omega))
          have hstp : s.step ⟨3, nm, la, tx⟩ = s.closeTag nm := rfl
          rw [hstp] at hNX
          clear hstp
          go_wp2_with fail
          refine hcl.out.mono ?_
          rintro e w5 ⟨rfl, T5, hB5, hS5⟩
          clear hcl
          go_wp2_with fail
          go_roundw
          case rel =>
            obtain ⟨s', hs', n1, n2, n3, n4⟩ := hNX.out
            subst hs'
            exact ⟨k + 1, _, by omega, by go_num, ⟨T5, hB5, hSa.trans hS5⟩, n4, n1, n2, n3⟩
          case measure => simp [intOf]; omega
      · have hke : k = l.length := by omega
        subst hke
        have hRe : s = R := by have := hF.out; rw [List.drop_length] at this; exact this
        subst hRe
        obtain ⟨T, hBd, hS⟩ := hB.out
        have hkw := HkW.out wr T hS
        have hen := hide (endS_any B r s T wr hBd (by have := hW.out; omega))
        go_wp2_with fail
        refine hen.out.mono ?_
        rintro e w9 ⟨v9, rfl, hN9, hb9⟩
        have hN9' : Ns w9 (fun g => w.heap.size ≤ g) v9 _ := hN9.mono (fun g _ hg => by omega)
        obtain ⟨o9, n9, c9, hv9⟩ : ∃ o n c, v9 = .slice o n c := by
          cases hN9 with
          | mk v l' ns e h ha hk => obtain ⟨o, c, h⟩ := h.form; exact ⟨o, _, c, h⟩
        subst hv9
        clear hen
        go_wp2_with fail
        go_ret2
        refine ⟨_, rfl, hN9', Keeps.of_below ((hkw.nil_below).trans (hb9.mono hw1))⟩
  · rw [if_neg hc]
    generalize chkL ts = E at *
    have hEb : (E != 0) = true := by simpa using hc
    obtain ⟨l, _, hvl, _⟩ := id hv
    obtain ⟨o, c, rfl, h1, h2⟩ := hvl.form
    unfold maxLen at h2
    clear hvl hv hf hat htx
    go_enter Tryz.func19, Tryz.ntmps19
    go_wp2_with fail
    refine hck.out.mono ?_
    rintro e w1 ⟨rfl, hk1⟩
    clear hck
    go_wp2_with fail
    go_ret2
    exact ⟨_, rfl, Ns.nil _ _ none 0 (by simp [maxLen]), hk1⟩
def touchL (r : Nat) (allv textv : Value) : List Nat := r :: (textv.ownBlock.toList ++ allv.ownBlock.toList)
structure Ls (w : World) (B r : Nat) (allv textv : Value) (l : List Pn) (text : List UInt8) : Prop where
  blk : w.heap[r]? = some (.cells #[allv, textv] 199 (0, 0))
  all : w.ownsRow B 45 4 allv l.length (pnsCells l)
  txt : w.ownsRow B 5 1 textv text.length (Lib.byteCells text)
  done : ∀ q ∈ l, LiesP w (DoneB B (touchL r allv textv)) q.av q.nd.attrs.length 2 (pairCells q.nd.attrs) ∧ Ns w (DoneB B (touchL r allv textv)) q.kv q.nd.kids
  hr : B ≤ r
  pos : 0 < B
section
variable {w w' : World} {B r : Nat} {allv textv : Value} {l : List Pn} {text : List UInt8}
theorem mem_touchL {g : Nat} : g ∈ touchL r allv textv ↔ g = r ∨ textv.ownBlock = some g ∨ allv.ownBlock = some g := by simp [touchL]
theorem Ls.lt (h : Ls w B r allv textv l text) : r < w.heap.size := lt_of_block h.blk
theorem Ls.cell0 (h : Ls w B r allv textv l text) : w.cell? ⟨r, 0, none⟩ = some allv := cell_blk h.blk 0
theorem Ls.cell1 (h : Ls w B r allv textv l text) : w.cell? ⟨r, 1, none⟩ = some textv := cell_blk h.blk 1
theorem Ls.free (h : Ls w B r allv textv l text) (j : Nat) : w.frozen? ⟨r, j, none⟩ = false := free_blk h.blk j
theorem Ls.keepsNil (h : Ls w B r allv textv l text) (hk : Keeps [] w w') : Ls w' B r allv textv l text :=
  ⟨by rw [hk.block r h.lt List.not_mem_nil]; exact h.blk, hk.owns h.all (fun _ _ => List.not_mem_nil), hk.owns h.txt (fun _ _ => List.not_mem_nil), fun q hq => ⟨(h.done q hq).1.keeps hk (fun _ _ => List.not_mem_nil), (h.done q hq).2.keeps hk (fun _ _ => List.not_mem_nil)⟩, h.hr, h.pos⟩
theorem Ls.ge (h : Ls w B r allv textv l text) : ∀ g, g ∈ touchL r allv textv → B ≤ g ∧ g < w.heap.size := fun g hg => by
  rcases mem_touchL.1 hg with rfl | hg | hg
  · exact ⟨h.hr, h.lt⟩
  · exact h.txt.lt g hg
  · exact h.all.lt g hg
theorem Ls.setText (h : Ls w B r allv textv l text) (hk : Keeps textv.ownBlock.toList w w') {tv : Value} {tx : List UInt8} (ho : w'.ownsRow B 5 1 tv tx.length (Lib.byteCells tx)) (hw : tv.ownBlock = textv.ownBlock ∨ ∃ n, tv.ownBlock = some n ∧ w.heap.size ≤ n) :
    Ls (w'.setCell ⟨r, 1, none⟩ tv) B r allv tv l tx ∧ Stp w (touchL r allv textv) (w'.setCell ⟨r, 1, none⟩ tv) (touchL r allv tv) := by
  have hrt : r ∉ textv.ownBlock.toList := fun hm => block_ne h.txt h.blk (by decide) (by simpa using hm)
  have hks : Keeps [r] w' (w'.setCell ⟨r, 1, none⟩ tv) := (Keeps.refl [r] w').setCell (.inl (by simp)) _
  have hblk' : w'.heap[r]? = some (.cells #[allv, textv] 199 (0, 0)) := by rw [hk.block r h.lt hrt]; exact h.blk
  have hkk : Keeps (r :: textv.ownBlock.toList) w (w'.setCell ⟨r, 1, none⟩ tv) := (hk.to (by simp; exact fun _ h => .inr h)).trans (hks.to (by simp))
  have hS : ∀ g, g ∈ r :: textv.ownBlock.toList → g ∈ touchL r allv textv := by
    intro g hg
    rw [mem_touchL]
    simp at hg
    rcases hg with hg | hg
    · exact .inl hg
    · exact .inr (.inl hg)
  have hT : ∀ g, g < w.heap.size → g ∈ touchL r allv tv → g ∈ touchL r allv textv := by
    intro g hg hm
    rw [mem_touchL] at hm ⊢
    rcases hm with hm | hm | hm
    · exact .inl hm
    · rcases hw with hw | ⟨n, hw, hn⟩
      · exact .inr (.inl (hw ▸ hm))
      · rw [hw] at hm; simp at hm; omega
    · exact .inr (.inr hm)
  refine ⟨⟨?_, ?_, hks.owns ho (fun g hg hm => by simp at hm; subst hm; exact block_ne ho hblk' (by decide) hg), fun q hq => ⟨(h.done q hq).1.move hkk hS hT, (h.done q hq).2.move hkk hS hT⟩, h.hr, h.pos⟩, hkk.to hS, fun g hm hg => hT g hg hm⟩
  · simp [World.setCell, Array.getElem?_modify, hblk']
  · refine hkk.owns h.all (fun g hg hm => ?_)
    simp at hm
    rcases hm with hm | hm
    · subst hm; exact block_ne h.all h.blk (by decide) hg
    · exact rows_apart h.all h.txt (by decide) hg hm
theorem Ls.push {q : Pn} (h : Ls w B r allv textv l text) (hk : Keeps allv.ownBlock.toList w w') {av : Value} (ho : w'.ownsRow B 45 4 av (l.length + 1) (pnsCells l ++ pnCells q)) (hw : av.ownBlock = allv.ownBlock ∨ ∃ n, av.ownBlock = some n ∧ w.heap.size ≤ n)
    (hqa : LiesP w (DoneB B (touchL r allv textv)) q.av q.nd.attrs.length 2 (pairCells q.nd.attrs)) (hqk : Ns w (DoneB B (touchL r allv textv)) q.kv q.nd.kids) :
    Ls (w'.setCell ⟨r, 0, none⟩ av) B r av textv (l ++ [q]) text ∧ Stp w (touchL r allv textv) (w'.setCell ⟨r, 0, none⟩ av) (touchL r av textv) := by
  have hro : r ∉ allv.ownBlock.toList := fun hm => block_ne h.all h.blk (by decide) (by simpa using hm)
  have hks : Keeps [r] w' (w'.setCell ⟨r, 0, none⟩ av) := (Keeps.refl [r] w').setCell (.inl (by simp)) _
  have hblk' : w'.heap[r]? = some (.cells #[allv, textv] 199 (0, 0)) := by rw [hk.block r h.lt hro]; exact h.blk
  have hkk : Keeps (r :: allv.ownBlock.toList) w (w'.setCell ⟨r, 0, none⟩ av) := (hk.to (by simp; exact fun _ h => .inr h)).trans (hks.to (by simp))
  have hS : ∀ g, g ∈ r :: allv.ownBlock.toList → g ∈ touchL r allv textv := by
    intro g hg
    rw [mem_touchL]
    simp at hg
    rcases hg with hg | hg
    · exact .inl hg
    · exact .inr (.inr hg)
  have hT : ∀ g, g < w.heap.size → g ∈ touchL r av textv → g ∈ touchL r allv textv := by
    intro g hg hm
    rw [mem_touchL] at hm ⊢
    rcases hm with hm | hm | hm
    · exact .inl hm
    · exact .inr (.inl hm)
    · rcases hw with hw | ⟨n, hw, hn⟩
      · exact .inr (.inr (hw ▸ hm))
      · rw [hw] at hm; simp at hm; omega
  have ec : pnsCells (l ++ [q]) = pnsCells l ++ pnCells q := by simp [pnsCells]
  refine ⟨⟨?_, ?_, ?_, fun p hp => ?_, h.hr, h.pos⟩, hkk.to hS, fun g hm hg => hT g hg hm⟩
  · simp [World.setCell, Array.getElem?_modify, hblk']
  · rw [ec, List.length_append, List.length_singleton]
    exact hks.owns ho (fun g hg hm => by simp at hm; subst hm; exact block_ne ho hblk' (by decide) hg)
  · refine hkk.owns h.txt (fun g hg hm => ?_)
    simp at hm
    rcases hm with hm | hm
    · subst hm; exact block_ne h.txt h.blk (by decide) hg
    · exact rows_apart h.txt h.all (by decide) hg hm
  · rcases List.mem_append.1 hp with hp | hp
    · exact ⟨(h.done p hp).1.move hkk hS hT, (h.done p hp).2.move hkk hS hT⟩
    · simp at hp
      subst hp
      exact ⟨hqa.move hkk hS hT, hqk.move hkk hS hT⟩
end
def LsT (w : World) (B r : Nat) (s : Lst) (T : List Nat) : Prop := ∃ allv textv l, T = touchL r allv textv ∧ l.map Pn.nd = s.all ∧ Ls w B r allv textv l s.text
theorem LsT.keepsNil {w w' : World} {B r : Nat} {s : Lst} {T : List Nat} (h : LsT w B r s T) (hk : Keeps [] w w') : LsT w' B r s T := by
  obtain ⟨a, t, l, e1, e2, h⟩ := h
  exact ⟨a, t, l, e1, e2, h.keepsNil hk⟩
theorem LsT.ge {w : World} {B r : Nat} {s : Lst} {T : List Nat} (h : LsT w B r s T) : (∀ g, g ∈ T → B ≤ g ∧ g < w.heap.size) ∧ B ≤ w.heap.size := by
  obtain ⟨a, t, l, rfl, e2, h⟩ := h
  exact ⟨h.ge, Nat.le_trans h.hr (Nat.le_of_lt h.lt)⟩
set_option maxRecDepth 4000 in
set_option maxHeartbeats 4000000 in
theorem endTextL_any (B r : Nat) (s : Lst) (T : List Nat) (w : World) (h : LsT w B r s T) (hw : s.weight ≤ 4000000) :
    Calls Tryz.prog 250 #[.pointer (some ⟨r, 0, none⟩)] w fun e w' => e = .returned (.tuple #[]) ∧ ∃ T', LsT w' B r ⟨s.done, []⟩ T' ∧ Stp w T w' T' := by
  obtain ⟨allv, textv, l, rfl, e2, h⟩ := h
  obtain ⟨all, text⟩ := s
  simp only at e2 h
  have hll : l.length = all.length := by rw [← e2, List.length_map]
  simp only [Lst.weight] at hw
  rw [← hll] at hw
  have E2 := hide e2
  clear hll e2
  unfold Lst.done
  simp only
  have c1 := h.cell1
  by_cases hne : text = []
  · subst hne
    rw [if_pos (show ([] : List UInt8).isEmpty = true from rfl)]
    obtain ⟨o, c, ho⟩ := row_form h.txt
    subst ho
    go_enter Tryz.func250, Tryz.ntmps250
    go_wp2_with fail
    go_end0
    exact ⟨rfl, _, ⟨_, _, l, rfl, E2.out, h⟩, Stp.refl _ _⟩
  · rw [if_neg (by simpa using hne)]
    obtain ⟨g, cap, cur', hrv, hgb, hgc, hcap1, hcap2, hcur1, hcur2⟩ : ∃ g cap cur, textv = .slice (some ⟨g, 0, none⟩) text.length cap ∧ B ≤ g ∧ w.heap[g]? = some (.cells cur 5 (0, 0)) ∧ text.length ≤ cap ∧ cap ≤ maxLen ∧ cur.size = cap * 1 ∧ cur.toList.take (text.length * 1) = Lib.byteCells text := by
      rcases h.txt.2 with ⟨_, h0⟩ | h'
      · exact absurd (List.eq_nil_of_length_eq_zero h0) hne
      · exact h'
    subst hrv
    have hpos : 0 < text.length := List.length_pos_iff.2 hne
    obtain ⟨i0, hi, hz0, hz1, hz2⟩ := info_parts info79
    obtain ⟨ao, ac, hav⟩ := row_form h.all
    subst hav
    have c0 := h.cell0
    have hcv : ∀ W, Keeps [] w W → (convert 107 9 (.slice (some ⟨g, 0, none⟩) text.length cap)).run Tryz.prog W = .ok (.string ⟨text.toArray⟩) W := fun W hk => own_string (w := W) (hk.owns h.txt (fun _ _ => List.not_mem_nil)) 0
    have hcv1 := hcv w.drew ((Keeps.refl [] w).drew)
    have hcv2 := fun o => hcv (w.alloc o).drew (((Keeps.refl [] w).alloc o).drew)
    have c0a : ∀ o, (w.alloc o).cell? ⟨r, 0, none⟩ = some (.slice ao l.length ac) := fun o => (cell_past (a := ⟨r, 0, none⟩) h.lt o).trans c0
    have c1a : ∀ o, (w.alloc o).cell? ⟨r, 1, none⟩ = some (.slice (some ⟨g, 0, none⟩) text.length cap) := fun o => (cell_past (a := ⟨r, 1, none⟩) h.lt o).trans c1
    have hBw : B ≤ w.heap.size := Nat.le_trans h.hr (Nat.le_of_lt h.lt)
    have hrA : r ∉ (Value.slice ao l.length ac).ownBlock.toList := fun hm => block_ne h.all h.blk (by decide) (by simpa using hm)
    have hlt1 : (l.length : Int) < l.length + 1 := by omega
    clear hcur1 hcur2 hgc
    unfold maxLen at hcap2
    go_enter Tryz.func250, Tryz.ntmps250
    go_upto_region 1 with fail
    go_cut [] from 8 to 24 (fun wc => ∃ av', Ls wc B r av' (.slice (some ⟨g, 0, none⟩) text.length cap) (l ++ [⟨textN text, .slice none 0 0, .slice none 0 0⟩]) text ∧ Stp w (touchL r (.slice ao l.length ac) (.slice (some ⟨g, 0, none⟩) text.length cap)) wc (touchL r av' (.slice (some ⟨g, 0, none⟩) text.length cap)))
    case first =>
      go_region_law (refine step_own_at rfl _ _ 29 rfl B 45 i0 _ 4 80 Tryz.underlying29 hi hz0 hz1 hz2 (by kernel_rfl) (by decide) (.slice ao l.length ac) l.length (pnsCells l) rfl ((h.all.alloc _).drew) ⟨w.heap.size, 0, none⟩ 1 1 zeroNd rfl rfl (lit_cells w _ 45) (by intro u hu; simp [zeroNd] at hu; rcases hu with rfl | rfl | rfl | rfl <;> rfl) (by unfold maxLen; omega) (by omega) (Nat.le_trans hBw (by simp)) ?_; intro v3 w3 ho3 hg3 hw3; obtain ⟨g3, c3, hv3, hc31, hc32, hB3, hl3, hcl3, hfr3⟩ := grow_form ho3 (pnsCells_len l); subst hv3; unfold maxLen at hc32; have n0 : w3.cell? ⟨g3, l.length * 4, none⟩ = some (.string ⟨#[]⟩) := hcl3 0 (by decide); have n1 : w3.cell? ⟨g3, l.length * 4 + 1, none⟩ = some (.slice none 0 0) := hcl3 1 (by decide); have n2 : w3.cell? ⟨g3, l.length * 4 + 2, none⟩ = some (.string ⟨#[]⟩) := hcl3 2 (by decide); have n3 : w3.cell? ⟨g3, l.length * 4 + 3, none⟩ = some (.slice none 0 0) := hcl3 3 (by decide); clear hcl3; have hk3 : Keeps (Value.slice ao l.length ac).ownBlock.toList w w3 := (((Keeps.refl _ w).alloc _).drew).grown hg3 (fun i e => .inl (by simp [e])); have z0 := hfr3 (l.length * 4); have z1 := hfr3 (l.length * 4 + 1); have z2 := hfr3 (l.length * 4 + 2); have z3 := hfr3 (l.length * 4 + 3); have d3 := cell_keepsS hk3 (a := ⟨r, 0, none⟩) hrA c0; have d4 := cell_keepsS hk3 (a := ⟨r, 1, none⟩) hrA c1; have hb3 := (hk3.block r h.lt hrA).trans h.blk; have e3 : w3.frozen? ⟨r, 0, none⟩ = false := free_blk hb3 0; have hne3 : g3 ≠ r := put_ne hrA hw3 h.lt)
      all_goals go_wp2
      all_goals go_meet
      all_goals have hw1 : w.heap.size ≤ ((w.alloc (.cells #[.string ⟨#[]⟩, .slice none 0 0, .string ⟨#[]⟩, .slice none 0 0] 45)).drew).heap.size := by simp
      all_goals have hfin := h.push (q := ⟨textN text, .slice none 0 0, .slice none 0 0⟩) (keeps4 hk3 (own_or hw3 hw1) (.string ⟨#[]⟩) (.slice none 0 0) (.string ⟨text.toArray⟩) (.slice none 0 0)) (stored4 ho3 (pnsCells_len l) _ _ _ _) (own_or2 hw3 hw1) ⟨rfl, .inl ⟨rfl, none, 0, rfl, by simp [maxLen]⟩⟩ (Ns.nil _ _ none 0 (by simp [maxLen]))
      all_goals try rw [setCell_comm w3 (a := ⟨r, 0, none⟩) (b := ⟨g3, l.length * 4, none⟩) hne3.symm, setCell_comm _ (a := ⟨r, 0, none⟩) (b := ⟨g3, l.length * 4 + 1, none⟩) hne3.symm, setCell_comm _ (a := ⟨r, 0, none⟩) (b := ⟨g3, l.length * 4 + 2, none⟩) hne3.symm, setCell_comm _ (a := ⟨r, 0, none⟩) (b := ⟨g3, l.length * 4 + 3, none⟩) hne3.symm]
      all_goals exact ⟨_, hfin.1, hfin.2⟩
    case rest =>
      obtain ⟨av', h', hs'⟩ := hcut
      have e1 := h'.cell1
      have f1 := h'.free 1
      clear c0 c1 c0a c1a hcv1 hcv2 hcv
      go_wp2_with fail
      go_end0
      have hst := h'.setText (Keeps.refl _ _) (tx := []) (row_zero h'.txt) (.inl rfl)
      exact ⟨rfl, _, ⟨_, _, _, rfl, by simp [E2.out, textN], hst.1⟩, hs'.trans hst.2⟩
def IsNd (w : World) (g : Nat) (n : List UInt8) (av : Value) (t : List UInt8) (kv : Value) : Prop :=
  w.cell? ⟨g, 0, none⟩ = some (.string ⟨n.toArray⟩) ∧ w.cell? ⟨g, 1, none⟩ = some av ∧ w.cell? ⟨g, 2, none⟩ = some (.string ⟨t.toArray⟩) ∧ w.cell? ⟨g, 3, none⟩ = some kv
theorem IsNd.keeps {w w' : World} {S : List Nat} {g : Nat} {n t : List UInt8} {av kv : Value} (h : IsNd w g n av t kv) (hk : Keeps S w w') (hg : g ∉ S) : IsNd w' g n av t kv :=
  ⟨cell_keepsS hk hg h.1, cell_keepsS hk hg h.2.1, cell_keepsS hk hg h.2.2.1, cell_keepsS hk hg h.2.2.2⟩
theorem IsNd.of {w : World} {g : Nat} {n t : List UInt8} {av kv : Value} {ty : TypeId} (h : w.heap[g]? = some (.cells #[.string ⟨n.toArray⟩, av, .string ⟨t.toArray⟩, kv] ty (0, 0))) : IsNd w g n av t kv :=
  ⟨cell_blk h 0, cell_blk h 1, cell_blk h 2, cell_blk h 3⟩
theorem DoneB.fresh {B : Nat} {T : List Nat} {g s : Nat} (hB : B ≤ s) (hT : ∀ g, g ∈ T → g < s) (hg : s ≤ g) : DoneB B T g := ⟨by omega, fun h => by have := hT g h; omega⟩
set_option maxRecDepth 4000 in
set_option maxHeartbeats 8000000 in
theorem putL_any (B r : Nat) (s : Lst) (T : List Nat) (w : World) (h : LsT w B r s T) (nm tx : List UInt8) (at' : List Pair) (ks : List Nd) (hw : s.weight + tx.length ≤ 4000000) (oa ok : Option Addr) (na ca nk ck : Nat) (g : Nat) (hN : IsNd w g nm (.slice oa na ca) tx (.slice ok nk ck))
    (hq : nm ≠ [] → LiesP w (DoneB B T) (.slice oa na ca) at'.length 2 (pairCells at') ∧ Ns w (DoneB B T) (.slice ok nk ck) ks) :
    Calls Tryz.prog 246 #[.pointer (some ⟨r, 0, none⟩), .slice (some ⟨g, 0, none⟩) 1 1] w fun e w' => e = .returned (.tuple #[]) ∧ ∃ T', LsT w' B r (s.put (.mk nm at' tx ks)) T' ∧ Stp w T w' T' := by
  obtain ⟨R, hR⟩ : ∃ R, s.put (.mk nm at' tx ks) = R := ⟨_, rfl⟩
  rw [hR]
  obtain ⟨n0, n1, n2, n3⟩ := id hN
  have HR := hide hR
  have Hh := hide h
  have Hw := hide hw
  have HN := hide hN
  have HQ := hide hq
  clear hR h hw hN hq
  go_enter Tryz.func246, Tryz.ntmps246
  go_wp2_with fail
  go_loopw [8] (fun i wr => (i = .int .i64 0 ∧ wr = w) ∨ (i = .int .i64 1 ∧ Hid (∃ T', LsT wr B r R T' ∧ Stp w T wr T'))) (fun i _ => 1 - (intOf i).toNat)
  case atStart => exact .inl ⟨rfl, rfl⟩
  case round =>
    rcases hrel with ⟨rfl, h9⟩ | ⟨rfl, hres⟩
    · obtain rfl : w = wr := h9.symm
      have hbx : (w.alloc (.cells #[.string ⟨nm.toArray⟩, .slice oa na ca, .string ⟨tx.toArray⟩, .slice ok nk ck] 45)).heap[w.heap.size]? = some (.cells #[.string ⟨nm.toArray⟩, .slice oa na ca, .string ⟨tx.toArray⟩, .slice ok nk ck] 45 (0, 0)) := heap_alloc_new w _
      have hka : Keeps [] w (w.alloc (.cells #[.string ⟨nm.toArray⟩, .slice oa na ca, .string ⟨tx.toArray⟩, .slice ok nk ck] 45)) := (Keeps.refl [] w).alloc _
      have HBX := hide hbx
      have HKA := hide hka
      clear hbx hka
      have hw0 := Hw.out
      simp only [Lst.weight] at hw0
      by_cases he : nm = []
      · have q0 : nm.isEmpty = true := by simpa using he
        have hRt : R = ⟨s.all, s.text ++ tx⟩ := by rw [← HR.out]; unfold Lst.put; rw [if_pos (show (Nd.mk nm at' tx ks).name.isEmpty = true from by simp [Nd.name, he])]; rfl
        subst hRt
        clear he
        obtain ⟨allv, textv, l, hTT, e2, hL⟩ := (Hh.out).keepsNil HKA.out
        have hge := ((Hh.out).keepsNil HKA.out).ge
        have HT := hide hTT
        have E2 := hide e2
        have hBW := hge.2
        have hrl := hL.lt
        have q1 := hL.cell1
        obtain ⟨t0, tc, htv⟩ := row_form hL.txt
        subst htv
        obtain ⟨i0, hi, hz0, hz1, hz2⟩ := info_parts info5b
        have b3 : (w.alloc (.cells #[.string ⟨nm.toArray⟩, .slice oa na ca, .string ⟨tx.toArray⟩, .slice ok nk ck] 45)).cell? ⟨w.heap.size, 2, none⟩ = some (.string ⟨tx.toArray⟩) := cell_blk HBX.out 2
        have hrt : r ∉ (Value.slice t0 s.text.length tc).ownBlock.toList := fun hm => block_ne hL.txt hL.blk (by decide) (by simpa using hm)
        have htsz : (⟨tx.toArray⟩ : ByteArray).size = tx.length := str_size tx
        clear hTT e2 hge
        go_upto_region 4 with fail
        obtain ⟨W, hWW⟩ : ∃ W, w.alloc (.cells #[.string ⟨nm.toArray⟩, .slice oa na ca, .string ⟨tx.toArray⟩, .slice ok nk ck] 45) = W := ⟨_, rfl⟩
        rw [hWW] at hL q1 b3 hBW hrl HKA ⊢
        clear hWW HBX
        go_region_law (refine step_str_at rfl _ _ 107 9 rfl B 5 i0 Tryz.underlying107 Tryz.underlying9 hi hz0 hz1 hz2 (.slice t0 s.text.length tc) s.text.length (Lib.byteCells s.text) rfl hL.txt.drew ⟨tx.toArray⟩ rfl (by rw [str_size]; unfold maxLen; omega) (by rw [str_size]; omega) hBW ?_; intro v3 w3 ho3 hg3 hw3; obtain ⟨o3, c3, hv3⟩ := row_form ho3; subst hv3; have hk3 : Keeps (Value.slice t0 s.text.length tc).ownBlock.toList W w3 := ((Keeps.refl _ W).drew).grown hg3 (fun i e => .inl (by simp [e])); have d1 := cell_keepsS hk3 (a := ⟨r, 1, none⟩) hrt q1; have d2 : w3.frozen? ⟨r, 1, none⟩ = false := free_blk ((hk3.block r hrl hrt).trans hL.blk) 1)
        all_goals go_wp2_with fail
        all_goals have ho4 : w3.ownsRow B 5 1 (.slice o3 (s.text.length + tx.length) c3) (s.text ++ tx).length (Lib.byteCells (s.text ++ tx))  := (by have h9 := ho3; rw [byteCells_str] at h9; rw [List.length_append]; exact h9)
        all_goals have hst := hL.setText hk3 ho4 hw3
        all_goals refine ⟨.inr ⟨by go_num, ⟨_, ⟨allv, _, l, rfl, E2.out, hst.1⟩, HT.out ▸ (Stp.nil HKA.out _).trans hst.2⟩⟩, ?_⟩
        all_goals (simp [intOf])
      · have q0 : nm.isEmpty = false := by simpa using he
        have hRt : R = ⟨s.done ++ [.mk nm at' tx ks], []⟩ := by rw [← HR.out]; unfold Lst.put; rw [if_neg (show ¬ (Nd.mk nm at' tx ks).name.isEmpty = true from by simpa [Nd.name] using he)]
        subst hRt
        have hqq := HQ.out he
        have HQ1 := hide (hqq.1.keeps HKA.out (fun _ _ => List.not_mem_nil))
        have HQ2 := hide (hqq.2.keeps HKA.out (fun _ _ => List.not_mem_nil))
        clear hqq HQ he
        have het := hide (endTextL_any B r s T _ ((Hh.out).keepsNil HKA.out) (by have := Hw.out; omega))
        have hgT := (Hh.out).ge
        have HGT := hide hgT
        clear hgT
        go_wp2_with fail
        obtain ⟨W0, hWW⟩ : ∃ W, w.alloc (.cells #[.string ⟨nm.toArray⟩, .slice oa na ca, .string ⟨tx.toArray⟩, .slice ok nk ck] 45) = W := ⟨_, rfl⟩
        rw [hWW] at HKA HBX HQ1 HQ2 het ⊢
        refine het.out.mono ?_
        rintro e W ⟨rfl, T1, ⟨allv, textv, l, rfl, e2, hL⟩, hS1⟩
        have E2 := hide e2
        have HS1 := hide hS1
        have hxT : w.heap.size ∉ T := fun hm => by have := (HGT.out.1 _ hm).2; omega
        have hb1 : W.heap[w.heap.size]? = some (.cells #[.string ⟨nm.toArray⟩, .slice oa na ca, .string ⟨tx.toArray⟩, .slice ok nk ck] 45 (0, 0)) := (hS1.1.block _ (lt_of_block HBX.out) hxT).trans HBX.out
        have hbl := lt_of_block hb1
        have hll : l.length ≤ 4000000 := by
          have h8 : l.length = s.done.length := by rw [← List.length_map (f := Pn.nd), e2]
          have := s.done_len
          have := Hw.out
          omega
        clear e2 hS1 het q0
        have hBW : B ≤ W.heap.size := Nat.le_trans hL.hr (Nat.le_of_lt hL.lt)
        obtain ⟨ao, ac, hav⟩ := row_form hL.all
        subst hav
        have c0 := hL.cell0
        have c0a : ∀ o, (W.alloc o).cell? ⟨r, 0, none⟩ = some (.slice ao l.length ac) := fun o => (cell_past (a := ⟨r, 0, none⟩) hL.lt o).trans c0
        have hrA : r ∉ (Value.slice ao l.length ac).ownBlock.toList := fun hm => block_ne hL.all hL.blk (by decide) (by simpa using hm)
        have b0 : W.cell? ⟨w.heap.size, 0, none⟩ = some (.string ⟨nm.toArray⟩) := cell_blk hb1 0
        have b1 : W.cell? ⟨w.heap.size, 1, none⟩ = some (.slice oa na ca) := cell_blk hb1 1
        have b2 : W.cell? ⟨w.heap.size, 2, none⟩ = some (.string ⟨tx.toArray⟩) := cell_blk hb1 2
        have b3 : W.cell? ⟨w.heap.size, 3, none⟩ = some (.slice ok nk ck) := cell_blk hb1 3
        have b0a : ∀ o, (W.alloc o).cell? ⟨w.heap.size, 0, none⟩ = some (.string ⟨nm.toArray⟩) := fun o => (cell_past (a := ⟨w.heap.size, 0, none⟩) hbl o).trans b0
        have b1a : ∀ o, (W.alloc o).cell? ⟨w.heap.size, 1, none⟩ = some (.slice oa na ca) := fun o => (cell_past (a := ⟨w.heap.size, 1, none⟩) hbl o).trans b1
        have b2a : ∀ o, (W.alloc o).cell? ⟨w.heap.size, 2, none⟩ = some (.string ⟨tx.toArray⟩) := fun o => (cell_past (a := ⟨w.heap.size, 2, none⟩) hbl o).trans b2
        have b3a : ∀ o, (W.alloc o).cell? ⟨w.heap.size, 3, none⟩ = some (.slice ok nk ck) := fun o => (cell_past (a := ⟨w.heap.size, 3, none⟩) hbl o).trans b3
        obtain ⟨i0, hi, hz0, hz1, hz2⟩ := info_parts info79
        have hlt1 : (l.length : Int) < l.length + 1 := by omega
        clear hb1
        have HQA := hide (HQ1.out.move HS1.out.1 (fun g hg => hg) (fun g h1 h2 => HS1.out.2 g h2 h1))
        have HQK := hide (HQ2.out.move HS1.out.1 (fun g hg => hg) (fun g h1 h2 => HS1.out.2 g h2 h1))
        go_upto_region 6 with fail
        go_region_law (refine step_own_at rfl _ _ 29 rfl B 45 i0 _ 4 80 Tryz.underlying29 hi hz0 hz1 hz2 (by kernel_rfl) (by decide) (.slice ao l.length ac) l.length (pnsCells l) rfl ((hL.all.alloc _).drew) ⟨W.heap.size, 0, none⟩ 1 1 zeroNd rfl rfl (lit_cells W _ 45) (by intro u hu; simp [zeroNd] at hu; rcases hu with rfl | rfl | rfl | rfl <;> rfl) (by unfold maxLen; omega) (by omega) (Nat.le_trans hBW (by simp)) ?_; intro v3 w3 ho3 hg3 hw3; obtain ⟨g3, c3, hv3, hc31, hc32, hB3, hl3, hcl3, hfr3⟩ := grow_form ho3 (pnsCells_len l); subst hv3; unfold maxLen at hc32; have n0 : w3.cell? ⟨g3, l.length * 4, none⟩ = some (.string ⟨#[]⟩) := hcl3 0 (by decide); have n1 : w3.cell? ⟨g3, l.length * 4 + 1, none⟩ = some (.slice none 0 0) := hcl3 1 (by decide); have n2 : w3.cell? ⟨g3, l.length * 4 + 2, none⟩ = some (.string ⟨#[]⟩) := hcl3 2 (by decide); have n3 : w3.cell? ⟨g3, l.length * 4 + 3, none⟩ = some (.slice none 0 0) := hcl3 3 (by decide); clear hcl3; have hk3 : Keeps (Value.slice ao l.length ac).ownBlock.toList W w3 := (((Keeps.refl _ W).alloc _).drew).grown hg3 (fun i e => .inl (by simp [e])); have z0 := hfr3 (l.length * 4); have z1 := hfr3 (l.length * 4 + 1); have z2 := hfr3 (l.length * 4 + 2); have z3 := hfr3 (l.length * 4 + 3); have d3 := cell_keepsS hk3 (a := ⟨r, 0, none⟩) hrA c0; have hb3 := (hk3.block r hL.lt hrA).trans hL.blk; have e3 : w3.frozen? ⟨r, 0, none⟩ = false := free_blk hb3 0; have hne3 : g3 ≠ r := put_ne hrA hw3 hL.lt)
        all_goals go_wp2_with fail
        all_goals have hw1 : W.heap.size ≤ ((W.alloc (.cells #[.string ⟨#[]⟩, .slice none 0 0, .string ⟨#[]⟩, .slice none 0 0] 45)).drew).heap.size := by simp
        all_goals have hfin := hL.push (q := ⟨.mk nm at' tx ks, .slice oa na ca, .slice ok nk ck⟩) (keeps4 hk3 (own_or hw3 hw1) (.string ⟨nm.toArray⟩) (.slice oa na ca) (.string ⟨tx.toArray⟩) (.slice ok nk ck)) (stored4 ho3 (pnsCells_len l) _ _ _ _) (own_or2 hw3 hw1) HQA.out HQK.out
        all_goals try rw [setCell_comm w3 (a := ⟨r, 0, none⟩) (b := ⟨g3, l.length * 4, none⟩) hne3.symm, setCell_comm _ (a := ⟨r, 0, none⟩) (b := ⟨g3, l.length * 4 + 1, none⟩) hne3.symm, setCell_comm _ (a := ⟨r, 0, none⟩) (b := ⟨g3, l.length * 4 + 2, none⟩) hne3.symm, setCell_comm _ (a := ⟨r, 0, none⟩) (b := ⟨g3, l.length * 4 + 3, none⟩) hne3.symm]
        all_goals refine ⟨.inr ⟨by go_num, ⟨_, ⟨_, _, _, rfl, by simp [E2.out], hfin.1⟩, (Stp.nil HKA.out _).trans (HS1.out.trans hfin.2)⟩⟩, ?_⟩
        all_goals (simp [intOf])
    · go_wp2_with fail
      go_end0
      exact ⟨rfl, hres.out⟩
theorem Ns.keeps0 {w w' : World} {P : Nat → Prop} {v : Value} {ns : List Nd} (h : Ns w P v ns) (hk : Keeps [] w w') : Ns w' P v ns := h.keeps hk (fun _ _ => List.not_mem_nil)
set_option maxRecDepth 8000 in
set_option maxHeartbeats 8000000 in
theorem sameNodes_eq (P Q : Nat → Prop) (w0 : World) (va : Value) (ns : List Nd) (h : Ns w0 P va ns) : ∀ (vb : Value) (w : World), Keeps [] w0 w → Ns w Q vb ns →
    Calls Tryz.prog 25 #[va, vb] w fun e w' => e = .returned (.bool true) ∧ ∃ n, w' = w.drewN n := by
  induction h with
  | mk v la ns hns hl haa hk ih =>
    intro vb w hkw hb
    cases hb with
    | mk _ lb _ hnb hlb hab hkb =>
    have hM : la.map Pn.nd = lb.map Pn.nd := hns.trans hnb.symm
    have hlen : la.length = lb.length := by simpa using congrArg List.length hM
    have hn : (((la.length : Int) != (lb.length : Int))) = false := by simp; omega
    have hla := (hl.keeps hkw (fun _ _ => List.not_mem_nil)).lies
    obtain ⟨oa, ca, rfl, h1, h2⟩ := hla.form
    have hlb' := hlb.lies
    obtain ⟨ob, cb, rfl, h3, h4⟩ := hlb'.form
    unfold maxLen at h2 h4
    have HL := hide hlen
    have HM := hide hM
    have HA := hide hla
    have HB := hide hlb'
    have HI := hide ih
    have HK := hide hkw
    have HAA := hide haa
    have HAB := hide hab
    have HKB := hide hkb
    clear hlen hM hla hlb' ih hkw haa hab hkb hl hlb hk hns hnb
    go_enter Tryz.func25, Tryz.ntmps25
    go_wp2_with fail
    go_loopw [5] (fun i wr => ∃ k : Nat, k ≤ la.length ∧ i = .int .i64 k ∧ Hid (∃ m, wr = w.drewN m)) (fun i _ => la.length - (intOf i).toNat)
    case atStart => exact ⟨0, Nat.zero_le _, rfl, 0, rfl⟩
    case round =>
      obtain ⟨k, hk, rfl, hW⟩ := hrel
      have hkw : Keeps [] w wr := by obtain ⟨m, hm⟩ := hW.out; rw [hm]; exact (Keeps.refl _ _).drewN _
      by_cases hlt : k < la.length
      · obtain ⟨ga, xa, ea, hca⟩ := (HA.out.keeps hkw).addr (by omega)
        obtain ⟨gb, xb, eb, hcb⟩ := (HB.out.keeps hkw).addr (by rw [← HL.out]; omega)
        subst ea
        subst eb
        have hltb : k < lb.length := by rw [← HL.out]; exact hlt
        obtain ⟨a0, a1, a2, a3⟩ := lies_pn hca k hlt
        obtain ⟨b0, b1, b2, b3⟩ := lies_pn hcb k hltb
        have hpq : la[k].nd = lb[k].nd := by
          have h9 : (la.map Pn.nd)[k]? = (lb.map Pn.nd)[k]? := by rw [HM.out]
          simpa [List.getElem?_eq_getElem hlt, List.getElem?_eq_getElem hltb] using h9
        have hpa := ((HAA.out la[k] (List.getElem_mem hlt)).keeps (HK.out.trans hkw) (fun _ _ => List.not_mem_nil)).lies
        have hpb := ((HAB.out lb[k] (List.getElem_mem hltb)).keeps hkw (fun _ _ => List.not_mem_nil)).lies
        have hsa := hide (fun n : Nat => sameAttrs_any (wr.drewN n) la[k].av lb[k].av la[k].nd.attrs lb[k].nd.attrs (hpa.keeps ((Keeps.refl [] wr).drewN n)) (hpb.keeps ((Keeps.refl [] wr).drewN n)))
        have hkb := HKB.out lb[k] (List.getElem_mem hltb)
        rw [← hpq] at hkb
        have hsn := hide (fun n : Nat => HI.out la[k] (List.getElem_mem hlt) lb[k].kv (wr.drewN n) ((HK.out.trans hkw).drewN n) (hkb.keeps0 (hkw.drewN n)))
        clear hca hcb hpa hpb hkb
        generalize la[k] = p at *
        generalize lb[k] = q at *
        obtain ⟨np, avp, kvp⟩ := p
        obtain ⟨nq', avq, kvq⟩ := q
        simp only at hpq
        subst hpq
        simp only at a0 a1 a2 a3 b0 b1 b2 b3 hsa hsn
        simp only [decide_true] at hsa
        generalize np.name = nm at *
        generalize np.text = tx at *
        go_wp2_with fail
        go_quiet ((first | (go_at_call 92; exact Calls.quiet_of (hsa.out _)) | (go_at_call 25; exact Calls.quiet_of (hsn.out _))))
        go_wp2_with fail
        go_roundw
        case rel => exact ⟨k + 1, by omega, by go_num, by obtain ⟨m, hm⟩ := hW.out; exact ⟨m + nq, by rw [hm]; simp⟩⟩
        case measure => simp [intOf]; omega
      · go_wp2_with fail
        go_ret
        exact ⟨rfl, hW.out⟩
end Go.Proofs.YtlcljanibjdejaaGreat
