/- shelf.Put, where something is wrong; a keeper: what is marked. A keeper: what is marked. shelf.Mark. A keeper: was an entry read? Where the first such one stands. slices.DeleteFunc, of entries that were read. shelf.Drop. shelf.Unread. -/
import Derived.Test.YtlcljanibjdejaaGreatSo23
namespace Go.Proofs.YtlcljanibjdejaaGreat
open Go.RowKit Go.Maps
set_option maxRecDepth 8000 in
set_option maxHeartbeats 16000000 in
theorem put41_bad (w : World) (ev rv v : Value) (s : Sh) (l : List En) (he : Lies w ev s.es.length 5 (ensCells s.es)) (hr : Lies w rv s.rd.length 1 (idCs s.rd)) (hv : Lies w v l.length 5 (ensCells l)) (hf : ∀ x ∈ s.es, FitE x) (hfl : ∀ x ∈ l, FitE x) (hM : HasMax w) (h0 : chkPut s l ≠ 0) :
    Calls Tryz.prog 41 #[.agg #[ev, rv], v] w fun e w' => e = .returned (.tuple #[.agg #[.slice none 0 0, .slice none 0 0], .int .i64 0, .int .i64 (chkPut s l)]) ∧ Keeps [] w w' := by
  obtain ⟨C, hC⟩ : ∃ C, chkPut s l = C := ⟨_, rfl⟩
  rw [hC] at h0 ⊢
  unfold chkPut at hC
  have hne : (C != 0) = true := by simpa using h0
  have hne2 : (C == 0) = false := by simpa using h0
  obtain ⟨es, rd⟩ := s
  simp only at he hr hf
  obtain ⟨eo, ec, rfl, g1, g2⟩ := he.form
  obtain ⟨ro, rc, rfl, g3, g4⟩ := hr.form
  obtain ⟨lo, lc, rfl, g5, g6⟩ := hv.form
  have nn : ∀ g, g ∉ ([] : List Nat) := fun _ => List.not_mem_nil
  obtain ⟨W, hW⟩ : ∃ W, (w.alloc (.cells #[.slice eo es.length ec, .slice ro rd.length rc] 64)).alloc (.cells #[.slice none 0 0, .slice none 0 0] 64) = W := ⟨_, rfl⟩
  have hkW : Keeps [] w W := by rw [← hW]; exact ((Keeps.refl [] w).alloc _).alloc _
  have hb0 : W.heap[w.heap.size]? = some (.cells #[.slice eo es.length ec, .slice ro rd.length rc] 64 (0, 0)) := by rw [← hW]; exact two_fst w _ _
  have hb1 : W.heap[w.heap.size + 1]? = some (.cells #[.slice none 0 0, .slice none 0 0] 64 (0, 0)) := by rw [← hW]; exact two_snd w _ _
  have b0 : W.cell? ⟨w.heap.size, 0, none⟩ = some (.slice eo es.length ec) := cell_blk hb0 0
  have b1 : W.cell? ⟨w.heap.size, 1, none⟩ = some (.slice ro rd.length rc) := cell_blk hb0 1
  have HB0 := hide hb0
  have HB1 := hide hb1
  have HKW := hide hkW
  have HW := hide hW
  unfold maxLen at g2 g4 g6
  have hcm := hide (fun w1 (hk : Keeps [] w w1) => checkComing_any w1 _ l (hv.keeps hk) hfl (hM.keeps hk (nn _)))
  by_cases hc1 : chkSh ⟨es, rd⟩ = 0
  · rw [if_neg (by simpa using hc1)] at hC
    rw [hC] at hcm
    have hkp := hide (keep_good W _ _ ⟨es, rd⟩ (he.keeps hkW) (hr.keeps hkW) hf (hM.keeps hkW (nn _)) hc1)
    clear he hr hv hf hfl hM h0 hkW hb0 hb1 hW hc1 hC
    go_enter Tryz.func41, Tryz.ntmps41
    go_upto_region 1 with fail
    rw [HW.out]
    go_wp2_with fail
    refine hkp.out.mono ?_
    rintro e w1 ⟨k, ev1, rv1, rfl, hkp1, hk1⟩
    have HK1 := hide (HKW.out.trans hk1)
    have HB11 := hide ((hk1.block _ (lt_of_block HB1.out) List.not_mem_nil).trans HB1.out)
    clear hkp1 hk1 b0 b1 hkp
    go_wp2_with fail
    refine (hcm.out w1 HK1.out).mono ?_
    rintro e w2 ⟨rfl, hk2⟩
    have hb12 := (hk2.block _ (lt_of_block HB11.out) List.not_mem_nil).trans HB11.out
    have z0 := cell_blk hb12 0
    have z1 := cell_blk hb12 1
    have q0 := free_blk hb12 0
    have q1 := free_blk hb12 1
    simp at z0 z1
    have HB12 := hide hb12
    have HK2 := hide (HK1.out.trans hk2)
    clear hk2 hb12
    go_wp2_with fail
    exact ⟨rfl, _, results_row3 (P := Tryz.prog) rfl _ _ (w.heap.size + 1) 64 _ (0, 0) _ rfl (set2_blk _ _ HB12.out) Tryz.underlying64 rfl (by kernel_rfl), rfl, keeps_on HK2.out (set2_keeps _ _ _ _) (fun g hg hlt => by simp at hg; omega)⟩
  · rw [if_pos hc1] at hC
    have hkp := hide (keep_bad W _ _ ⟨es, rd⟩ (he.keeps hkW) (hr.keeps hkW) hf (hM.keeps hkW (nn _)) hc1)
    rw [hC] at hkp
    clear he hr hv hf hfl hM h0 hkW hb0 hb1 hW hc1 hC hcm
    go_enter Tryz.func41, Tryz.ntmps41
    go_upto_region 1 with fail
    rw [HW.out]
    go_wp2_with fail
    refine hkp.out.mono ?_
    rintro e w2 ⟨rfl, hk2⟩
    have hb12 := (hk2.block _ (lt_of_block HB1.out) List.not_mem_nil).trans HB1.out
    have z0 := cell_blk hb12 0
    have z1 := cell_blk hb12 1
    have q0 := free_blk hb12 0
    have q1 := free_blk hb12 1
    simp at z0 z1
    have HB12 := hide hb12
    have HK2 := hide (HKW.out.trans hk2)
    clear hk2 hb12
    go_wp2_with fail
    exact ⟨rfl, _, results_row3 (P := Tryz.prog) rfl _ _ (w.heap.size + 1) 64 _ (0, 0) _ rfl (set2_blk _ _ HB12.out) Tryz.underlying64 rfl (by kernel_rfl), rfl, keeps_on HK2.out (set2_keeps _ _ _ _) (fun g hg hlt => by simp at hg; omega)⟩
end Go.Proofs.YtlcljanibjdejaaGreat
namespace Go.Proofs.YtlcljanibjdejaaGreat
open Go.RowKit Go.Maps
theorem del199_own (w : World) (B i j : Nat) (v : Value) (l : List (List UInt8)) (h : w.ownsRow B 9 1 v l.length (idCs l)) (hij : i ≤ j) (hj : j ≤ l.length) (h0 : 0 < l.length) :
    Calls Tryz.prog 199 #[v, .int .i64 i, .int .i64 j] w fun e w' => ∃ v', e = .returned v' ∧ w'.ownsRow B 9 1 v' (l.take i ++ l.drop j).length (idCs (l.take i ++ l.drop j)) ∧ Keeps v.ownBlock.toList w w' ∧ v'.ownBlock = v.ownBlock := by
  have hlen : (l.take i ++ l.drop j).length = l.length - (j - i) := by simp; omega
  rcases h.2 with ⟨rfl, h9⟩ | ⟨g, cap, cur, rfl, hBg, hg, hnc, hcap, hcs, htake⟩
  · omega
  · refine (delete199_any w g cap l.length i j cur l hg rfl hnc hcs htake hij hj).mono ?_
    rintro e w' ⟨rfl, cur', hg', hcs', ht', hk⟩
    exact ⟨_, rfl, ⟨idCs_len1 _, .inr ⟨g, cap, cur', by rw [hlen], hBg, hg', by omega, hcap, hcs', by rw [hlen]; exact ht'⟩⟩, hk, rfl⟩
theorem insI_eq (l : List (List UInt8)) (x : List UInt8) : insI l x = l.take (aheadI l x) ++ x :: l.drop (aheadI l x) := by
  rw [aheadI_take, aheadI_drop]
  rfl
theorem insI_len (l : List (List UInt8)) (x : List UInt8) : (insI l x).length = l.length + 1 := by
  rw [insI_eq]
  have := aheadI_le l x
  simp
  omega
theorem filter_cutI {l : List (List UInt8)} (h : SortedI l) {i : Nat} (hi : i < l.length) {id : List UInt8} (hid : l[i] = id) : l.filter (fun z => !(z == id)) = l.take i ++ l.drop (i + 1) := by
  have hne : ∀ (a b : Nat) (ha : a < l.length) (hb : b < l.length), a ≠ b → l[a] ≠ l[b] := fun a b ha hb hab e => by
    rcases Nat.lt_or_gt_of_ne hab with h1 | h1
    · have := List.pairwise_iff_getElem.1 h a b ha hb h1
      rw [e, lessL_irrefl] at this
      cases this
    · have := List.pairwise_iff_getElem.1 h b a hb ha h1
      rw [e, lessL_irrefl] at this
      cases this
  have e : l = l.take i ++ l[i] :: l.drop (i + 1) := by rw [← List.drop_eq_getElem_cons hi, List.take_append_drop]
  conv => lhs; rw [e]
  rw [List.filter_append, List.filter_cons]
  have h1 : (l.take i).filter (fun z => !(z == id)) = l.take i := List.filter_eq_self.2 (fun y hy => by
    obtain ⟨j, hj, rfl⟩ := List.getElem_of_mem hy
    rw [List.length_take] at hj
    have := hne j i (by omega) hi (by omega)
    rw [List.getElem_take]
    rw [hid] at this
    simpa using this)
  have h2 : (l.drop (i + 1)).filter (fun z => !(z == id)) = l.drop (i + 1) := List.filter_eq_self.2 (fun y hy => by
    obtain ⟨j, hj, rfl⟩ := List.getElem_of_mem hy
    rw [List.length_drop] at hj
    have := hne (i + 1 + j) i (by omega) hi (by omega)
    rw [List.getElem_drop]
    rw [hid] at this
    simpa using this)
  rw [h1, h2, hid]
  simp
theorem mark_none {l : List (List UInt8)} {x : List UInt8} (h : x ∉ l) : markI l x false = l := by
  unfold markI
  rw [if_neg (by simp)]
  exact List.filter_eq_self.2 (fun y hy => by
    have : y ≠ x := fun e => h (e ▸ hy)
    simpa using this)
set_option maxRecDepth 8000 in
set_option maxHeartbeats 16000000 in
theorem mark_kp (w : World) (B k : Nat) (ev rv : Value) (es : List En) (rd : List (List UInt8)) (id : List UInt8) (read : Bool) (h : IsKp w B k ev rv ⟨es, rd⟩) (hs : SortedI rd) (hl : rd.length ≤ 900) :
    Calls Tryz.prog 122 #[.pointer (some ⟨k, 0, none⟩), .string ⟨id.toArray⟩, .bool read] w fun e w' => e = .returned (.tuple #[]) ∧ ∃ rv', IsKp w' B k ev rv' ⟨es, markI rd id read⟩ ∧ Stp w (tK k ev rv) w' (tK k ev rv') := by
  have hrd := h.rd
  simp only at hrd
  obtain ⟨ro, rc, rfl⟩ := row_form hrd
  have c1 := cell_blk h.blk 1
  simp at c1
  have hsr := hide (search197_any w _ rd id (Lies.of_row hrd) hs (by omega))
  have hm := aheadI_le rd id
  have hmem := aheadI_mem hs id
  have HH := hide h
  have hBl : B ≤ w.heap.size := Nat.le_trans h.hb (Nat.le_of_lt h.lt)
  cases read
  · by_cases hin : id ∈ rd
    · obtain ⟨hk, he⟩ := hmem.1 hin
      have hmk : markI rd id false = rd.take (aheadI rd id) ++ rd.drop (aheadI rd id + 1) := by
        unfold markI
        rw [if_neg (by simp)]
        exact filter_cutI hs hk he
      have hdl := hide (del199_own w B (aheadI rd id) (aheadI rd id + 1) _ rd hrd (by omega) (by omega) (by omega))
      rw [← hmk, show ((aheadI rd id + 1 : Nat) : Int) = (aheadI rd id : Int) + 1 from by omega] at hdl
      rw [decide_eq_true hin] at hsr
      have hwi : IntKind.i64.wrap ((aheadI rd id : Int) + 1) = (aheadI rd id : Int) + 1 := by rw [IntKind.wrap_i64]; omega
      clear hmem he hmk hin h hs
      obtain ⟨E2, hE2⟩ : ∃ E2, markI rd id false = E2 := ⟨_, rfl⟩
      rw [hE2] at hdl ⊢
      clear hE2
      generalize aheadI rd id = m at *
      clear hrd
      go_enter Tryz.func122, Tryz.ntmps122
      go_wp2_with fail
      refine hsr.out.mono ?_
      rintro e w2 ⟨rfl, h9⟩
      subst h9
      go_wp2_with fail
      refine hdl.out.mono ?_
      rintro e w7 ⟨v7, rfl, ho7, hk7, hw7⟩
      obtain ⟨o7, c7, rfl⟩ := row_form ho7
      have hb7 := (hk7.block k HH.out.lt (fun hm9 => block_ne HH.out.rd HH.out.blk (by decide) (by simpa using hm9))).trans HH.out.blk
      have x7 := cell_blk hb7 1
      have y7 := free_blk hb7 1
      simp at x7
      go_wp2_with fail
      go_end0
      have hfin := kp_set1 (rd' := E2) HH.out hk7 ho7 (.inl hw7)
      exact ⟨rfl, _, hfin.1, hfin.2⟩
    · rw [mark_none hin]
      rw [decide_eq_false hin] at hsr
      clear hmem hin h hs hrd
      go_enter Tryz.func122, Tryz.ntmps122
      go_wp2_with fail
      refine hsr.out.mono ?_
      rintro e w2 ⟨rfl, h9⟩
      subst h9
      go_wp2_with fail
      go_end0
      exact ⟨rfl, _, HH.out, Stp.refl _ _⟩
  · by_cases hin : id ∈ rd
    · have hmk : markI rd id true = rd := by unfold markI; rw [if_pos rfl, if_pos hin]
      rw [hmk]
      rw [decide_eq_true hin] at hsr
      clear hmem hin h hs hrd hmk
      go_enter Tryz.func122, Tryz.ntmps122
      go_wp2_with fail
      refine hsr.out.mono ?_
      rintro e w2 ⟨rfl, h9⟩
      subst h9
      go_wp2_with fail
      go_end0
      exact ⟨rfl, _, HH.out, Stp.refl _ _⟩
    · have hmk : markI rd id true = insI rd id := by unfold markI; rw [if_pos rfl, if_neg hin]
      rw [hmk]
      rw [decide_eq_false hin] at hsr
      obtain ⟨W, hW⟩ : ∃ W, w.alloc (.cells #[.string ⟨id.toArray⟩] 9) = W := ⟨_, rfl⟩
      have hkW : Keeps [] w W := by rw [← hW]; exact (Keeps.refl [] w).alloc _
      have hbW : W.heap[w.heap.size]? = some (.cells (idCs [id]).toArray 9 (0, 0)) := (nblk_new rfl hW).1
      have hins := hide (insert198_any W B (aheadI rd id) _ rd id w.heap.size (hkW.owns hrd (fun _ _ => List.not_mem_nil)) hm (by omega) hbW (fun e => by have := (hrd.lt _ e).2; omega) (Nat.le_trans hBl hkW.size))
      rw [← insI_eq] at hins
      have HKW := hide hkW
      have HW := hide hW
      have hIl := insI_len rd id
      clear hmem hin h hs hmk hkW hbW hW hrd
      obtain ⟨E2, hE2⟩ : ∃ E2, insI rd id = E2 := ⟨_, rfl⟩
      rw [hE2] at hins hIl ⊢
      clear hE2
      generalize aheadI rd id = m at *
      go_enter Tryz.func122, Tryz.ntmps122
      go_wp2_with fail
      refine hsr.out.mono ?_
      rintro e w2 ⟨rfl, h9⟩
      subst h9
      go_wp2_with fail
      rw [HW.out]
      refine hins.out.mono ?_
      rintro e w7 ⟨v7, rfl, ho7, hk7, hw7⟩
      obtain ⟨o7, c7, rfl⟩ := row_form ho7
      have hkpW := HH.out.keepsNil HKW.out
      have hb7 := (hk7.block k hkpW.lt (fun hm9 => block_ne hkpW.rd hkpW.blk (by decide) (by simpa using hm9))).trans hkpW.blk
      have x7 := cell_blk hb7 1
      have y7 := free_blk hb7 1
      simp at x7
      go_wp2_with fail
      go_end0
      have hfin := kp_set1 (rd' := E2) hkpW hk7 (by rw [hIl]; exact ho7) (hw7.imp (fun e => e) (fun e => ⟨_, e, Nat.le_refl _⟩))
      exact ⟨rfl, _, hfin.1, (Stp.nil HKW.out _).trans hfin.2⟩
end Go.Proofs.YtlcljanibjdejaaGreat
namespace Go.Proofs.YtlcljanibjdejaaGreat
open Go.RowKit Go.Maps
/-- What Mark answers beside a shelf. -/
def chkMark (s : Sh) (id : List UInt8) (read : Bool) : Int := if chkSh s ≠ 0 then chkSh s else if idxE id s.es < 0 then 5 else if 40 < (markI s.rd id read).length then 2 else 0
set_option maxRecDepth 8000 in
set_option maxHeartbeats 16000000 in
theorem mark42_good (w : World) (ev rv : Value) (s : Sh) (id : List UInt8) (read : Bool) (he : Lies w ev s.es.length 5 (ensCells s.es)) (hr : Lies w rv s.rd.length 1 (idCs s.rd)) (hf : ∀ x ∈ s.es, FitE x) (hM : HasMax w) (h0 : chkMark s id read = 0) :
    Calls Tryz.prog 42 #[.agg #[ev, rv], .string ⟨id.toArray⟩, .bool read] w fun e w' => ∃ ev' rv', e = .returned (.tuple #[.agg #[ev', rv'], .int .i64 0]) ∧ OwnSh w' w.heap.size ev' rv' ⟨s.es, markI s.rd id read⟩ ∧ Keeps [] w w' := by
  have hc1 : chkSh s = 0 := by
    unfold chkMark at h0
    split at h0
    · rename_i h1; exact absurd h0 h1
    · rename_i h1; simpa using h1
  have hrd := chkSh_read hc1
  obtain ⟨_, hp2, _, _⟩ := chkSh_parts hc1
  unfold chkMark at h0
  rw [if_neg (by simpa using hc1)] at h0
  obtain ⟨es, rd⟩ := s
  simp only at he hr hf
  obtain ⟨eo, ec, rfl, g1, g2⟩ := he.form
  obtain ⟨ro, rc, rfl, g3, g4⟩ := hr.form
  have nn : ∀ g, g ∉ ([] : List Nat) := fun _ => List.not_mem_nil
  obtain ⟨W, hW⟩ : ∃ W, (w.alloc (.cells #[.slice eo es.length ec, .slice ro rd.length rc] 64)).alloc (.cells #[.slice none 0 0, .slice none 0 0] 64) = W := ⟨_, rfl⟩
  have hkW : Keeps [] w W := by rw [← hW]; exact ((Keeps.refl [] w).alloc _).alloc _
  have hb0 : W.heap[w.heap.size]? = some (.cells #[.slice eo es.length ec, .slice ro rd.length rc] 64 (0, 0)) := by rw [← hW]; exact two_fst w _ _
  have hb1 : W.heap[w.heap.size + 1]? = some (.cells #[.slice none 0 0, .slice none 0 0] 64 (0, 0)) := by rw [← hW]; exact two_snd w _ _
  have b0 : W.cell? ⟨w.heap.size, 0, none⟩ = some (.slice eo es.length ec) := cell_blk hb0 0
  have b1 : W.cell? ⟨w.heap.size, 1, none⟩ = some (.slice ro rd.length rc) := cell_blk hb0 1
  have HB0 := hide hb0
  have HB1 := hide hb1
  have HKW := hide hkW
  have HW := hide hW
  unfold maxLen at g2 g4
  simp only at h0 hp2 hrd
  by_cases hix : idxE id es < 0
  · rw [if_pos hix] at h0
    simp at h0
  rw [if_neg hix] at h0
  by_cases h40 : 40 < (markI rd id read).length
  · rw [if_pos h40] at h0
    simp at h0
  have hkp := hide (keep_good W _ _ ⟨es, rd⟩ (he.keeps hkW) (hr.keeps hkW) hf (hM.keeps hkW (nn _)) hc1)
  have hdx : decide (idxE id es < 0) = false := decide_eq_false hix
  have hdl : decide ((40 : Int) < ((markI rd id read).length : Int)) = false := decide_eq_false (by omega)
  have hpl := hide (fun w1 k ev1 rv1 (h : IsKp w1 W.heap.size k ev1 rv1 ⟨es, rd⟩) => place_any w1 W.heap.size k ev1 rv1 ⟨es, rd⟩ id h)
  have hmk := hide (fun w1 k ev1 rv1 (h : IsKp w1 W.heap.size k ev1 rv1 ⟨es, rd⟩) => mark_kp w1 W.heap.size k ev1 rv1 es rd id read h hrd (by omega))
  simp only at hpl
  generalize idxE id es = ix at *
  generalize markI rd id read = MK at *
  clear he hr hf hM h0 hc1 hkW hb0 hb1 hW hix hrd
  go_enter Tryz.func42, Tryz.ntmps42
  go_upto_region 1 with fail
  rw [HW.out]
  go_wp2_with fail
  refine hkp.out.mono ?_
  rintro e w1 ⟨k, ev1, rv1, rfl, hkp1, hk1⟩
  have HK1 := hide hk1
  have HKP1 := hide hkp1
  clear hkp1 hk1 b0 b1 hkp
  go_wp2_with fail
  refine (hpl.out w1 k ev1 rv1 HKP1.out).mono ?_
  rintro e w2 ⟨rfl, hk2⟩
  have HK2 := hide (HK1.out.trans hk2)
  have HKP2 := hide (HKP1.out.keepsNil hk2)
  clear hk2
  go_wp2_with fail
  refine (hmk.out w2 k ev1 rv1 HKP2.out).mono ?_
  rintro e w3 ⟨rfl, rv3, hkp3, hst3⟩
  have hge := HKP2.out.ge
  have hk3 := ((HK2.out.up.trans hst3.1).mono (T := []) (fun g hg hlt => by have := (hge g hg).1; omega))
  have hb13 := (hk3.block _ (lt_of_block HB1.out) List.not_mem_nil).trans HB1.out
  obtain ⟨o3, c3, hv3⟩ := row_form hkp3.es
  obtain ⟨o4, c4, hv4⟩ := row_form hkp3.rd
  subst hv3 hv4
  simp only at hkp3
  have x0 := cell_blk hkp3.blk 0
  have x1 := cell_blk hkp3.blk 1
  simp at x0 x1
  have z0 := cell_blk hb13 0
  have z1 := cell_blk hb13 1
  have q0 := free_blk hb13 0
  have q1 := free_blk hb13 1
  simp at z0 z1
  have HKP3 := hide hkp3
  have HK3 := hide hk3
  have HB13 := hide hb13
  have hkB := hkp3.hb
  have hBl := lt_of_block HB1.out
  have hks := hide (set2_keeps w3 (w.heap.size + 1) (.slice o3 es.length c3) (.slice o4 MK.length c4))
  have hne := hide (fun g (hg : g ∈ tK k (Value.slice o3 es.length c3) (Value.slice o4 MK.length c4)) => show g ≠ w.heap.size + 1 from by have := (hkp3.ge g hg).1; omega)
  clear hst3 hkp3 hge hk3 hb13
  go_wp2_with fail
  exact ⟨rfl, _, results_row2 (P := Tryz.prog) rfl _ _ (w.heap.size + 1) 64 _ (0, 0) _ rfl (set2_blk _ _ HB13.out) Tryz.underlying64 rfl (by kernel_rfl), _, _, rfl,
    ⟨own_base (hks.out.owns HKP3.out.es (fun g hg hm => hne.out g (by simp [tK, hg]) (by simpa using hm))) (by have := HKW.out.size; omega), own_base (hks.out.owns HKP3.out.rd (fun g hg hm => hne.out g (by simp [tK, hg]) (by simpa using hm))) (by have := HKW.out.size; omega)⟩,
    keeps_on (HKW.out.trans HK3.out) hks.out (fun g hg hlt => by simp at hg; omega)⟩
end Go.Proofs.YtlcljanibjdejaaGreat
namespace Go.Proofs.YtlcljanibjdejaaGreat
open Go.RowKit Go.Maps
theorem enters197 : Enters 197 := enters_of Tryz.func197 (by kernel_rfl) (by kernel_rfl)
theorem enters124 : Enters 124 := enters_of Tryz.func124 (by kernel_rfl) (by kernel_rfl)
/-- What wasRead reads: the ids in a keeper's block. -/
structure RdAt (w : World) (k : Nat) (rv : Value) (rd : List (List UInt8)) : Prop where
  cell : w.cell? ⟨k, 1, none⟩ = some rv
  ids : Lies w rv rd.length 1 (idCs rd)
theorem RdAt.keeps {w w' : World} {k : Nat} {rv : Value} {rd : List (List UInt8)} (h : RdAt w k rv rd) (hk : Keeps [] w w') : RdAt w' k rv rd := ⟨cell_keeps hk h.cell, h.ids.keeps hk⟩
set_option maxRecDepth 8000 in
set_option maxHeartbeats 8000000 in
theorem wasRead_any (x : En) (w : World) (k : Nat) (rv : Value) (rd : List (List UInt8)) (h : RdAt w k rv rd) (hs : SortedI rd) (hl : rd.length ≤ 900) :
    Calls Tryz.prog 124 #[.pointer (some ⟨k, 0, none⟩), .agg (enCells x).toArray] w fun e w' => e = .returned (.bool (decide (x.id ∈ rd))) ∧ Keeps [] w w' := by
  obtain ⟨W, hW⟩ : ∃ W, w.alloc (.cells (enCells x).toArray 75) = W := ⟨_, rfl⟩
  have hkW : Keeps [] w W := by rw [← hW]; exact (Keeps.refl [] w).alloc _
  have hb := (nblk_new rfl hW).1
  have b0 : W.cell? ⟨w.heap.size, 0, none⟩ = some (.string ⟨x.id.toArray⟩) := cell_blk hb 0
  obtain ⟨ro, rc, rfl, g1, g2⟩ := h.ids.form
  have c1 := (h.keeps hkW).cell
  have hsr := hide (fun w1 (hk1 : Keeps [] W w1) => search197_any w1 _ rd x.id ((h.ids.keeps hkW).keeps hk1) hs (by omega))
  have HKW := hide hkW
  have HW := hide hW
  generalize decide (x.id ∈ rd) = R at *
  clear hkW hb hW h hs
  go_enter Tryz.func124, Tryz.ntmps124
  go_upto_region 1 with fail
  rw [HW.out]
  go_region_law (refine step_call rfl 197 _ _ rfl enters197 #[.slice ro rd.length rc, .string ⟨x.id.toArray⟩] (by first | (simp [Act.eval]; done) | (simp [Act.eval, Act.put]; done)) (hsr.out _ (by first | exact Keeps.refl _ _ | exact (Keeps.refl _ _).drew)) ?_; rintro e w7 ⟨rfl, h7⟩; refine ⟨_, rfl, ?_⟩; subst h7)
  all_goals go_wp2_with fail
  all_goals go_ret
  all_goals exact ⟨rfl, by first | exact HKW.out.drew | exact HKW.out⟩
def idxR (rd : List (List UInt8)) : List En → Nat → Int
  | [], _ => -1
  | x :: r, k => if x.id ∈ rd then (k : Int) else idxR rd r (k + 1)
theorem idxR_drop (rd : List (List UInt8)) (l : List En) (k : Nat) (hk : k < l.length) : idxR rd (l.drop k) k = if l[k].id ∈ rd then (k : Int) else idxR rd (l.drop (k + 1)) (k + 1) := by
  rw [List.drop_eq_getElem_cons hk]
  rfl
theorem idxR_cases (rd : List (List UInt8)) : ∀ (l : List En) (k : Nat), (idxR rd l k = -1 ∧ ∀ y ∈ l, y.id ∉ rd) ∨ ∃ i, ∃ hi : i < l.length, idxR rd l k = ((k + i : Nat) : Int) ∧ l[i].id ∈ rd ∧ ∀ y ∈ l.take i, y.id ∉ rd
  | [], _ => .inl ⟨rfl, by simp⟩
  | x :: r, k => by
    unfold idxR
    by_cases h : x.id ∈ rd
    · rw [if_pos h]
      exact .inr ⟨0, by simp, by simp, h, by simp⟩
    · rw [if_neg h]
      rcases idxR_cases rd r (k + 1) with ⟨h1, h2⟩ | ⟨i, hi, h1, h2, h3⟩
      · exact .inl ⟨h1, fun y hy => by rcases List.mem_cons.1 hy with rfl | hy; exact h; exact h2 y hy⟩
      · exact .inr ⟨i + 1, by simp; omega, by rw [h1]; congr 1; omega, by simpa using h2, fun y hy => by
          rw [List.take_succ_cons] at hy
          rcases List.mem_cons.1 hy with rfl | hy
          · exact h
          · exact h3 y hy⟩
set_option maxRecDepth 8000 in
set_option maxHeartbeats 8000000 in
theorem idx195_read (k : Nat) (w : World) (v : Value) (l : List En) (rv : Value) (rd : List (List UInt8)) (hv : Lies w v l.length 5 (ensCells l)) (hr : RdAt w k rv rd) (hs : SortedI rd) (hl : rd.length ≤ 900) :
    Calls Tryz.prog 195 #[v, .func (.func 124) #[.pointer (some ⟨k, 0, none⟩)] #[]] w fun e w' => e = .returned (.int .i64 (idxR rd l 0)) ∧ Keeps [] w w' := by
  have hE := enters124
  unfold Enters at hE
  obtain ⟨o, c, rfl, h1, h2⟩ := hv.form
  unfold maxLen at h2
  obtain ⟨R, hR⟩ : ∃ R, idxR rd l 0 = R := ⟨_, rfl⟩
  rw [hR]
  have HR := hide hR
  have HV := hide hv
  have HP := hide hr
  have HS := hide hs
  clear hR hv hr hs
  go_enter Tryz.func195, Tryz.ntmps195
  go_wp2_with fail
  go_loopw [8] (fun i wr => ∃ k : Nat, k ≤ l.length ∧ i = .int .i64 k ∧ Keeps [] w wr ∧ Hid (idxR rd (l.drop k) k = R)) (fun i _ => l.length - (intOf i).toNat)
  case atStart => exact ⟨0, Nat.zero_le _, rfl, Keeps.refl _ _, HR⟩
  case round =>
    obtain ⟨j, hj, rfl, hkw, hC⟩ := hrel
    clear HR
    by_cases hlt : j < l.length
    · have hC1 := hC.out
      rw [idxR_drop rd l j hlt] at hC1
      obtain ⟨g, o0, rfl, hc⟩ := (HV.out.keeps hkw).addr (by omega)
      obtain ⟨a0, a1, a2, a3, a4⟩ := lies_en hc j hlt
      have HC1 := hide hC1
      have hcall := hide (wasRead_any l[j] wr k rv rd (HP.out.keeps hkw) HS.out hl)
      unfold enCells at hcall
      clear hC hC1 hc
      generalize l[j] = x at *
      by_cases hx : x.id ∈ rd
      · have hRk : R = (j : Int) := by rw [← HC1.out]; simp [hx]
        rw [decide_eq_true hx] at hcall
        subst hRk
        clear HC1 hx
        go_wp2_with fail
        refine hcall.out.mono ?_
        rintro e w3 ⟨rfl, hk3⟩
        go_wp2_with fail
        go_ret
        exact ⟨rfl, hkw.trans hk3⟩
      · have HC2 : Hid (idxR rd (l.drop (j + 1)) (j + 1) = R) := hide (by have := HC1.out; simpa [hx] using this)
        rw [decide_eq_false hx] at hcall
        clear HC1 hx
        go_wp2_with fail
        refine hcall.out.mono ?_
        rintro e w3 ⟨rfl, hk3⟩
        have HK3 := hide (hkw.trans hk3)
        clear hk3 a0 a1 a2 a3 a4
        go_wp2_with fail
        go_roundw
        case rel => exact ⟨j + 1, by omega, by go_num, HK3.out, HC2⟩
        case measure => simp [intOf]; omega
    · have hRR : R = -1 := by
        rw [← hC.out, List.drop_eq_nil_of_le (by omega)]
        rfl
      subst hRR
      go_wp2_with fail
      go_ret
      exact ⟨rfl, hkw⟩
theorem set5_list {l : List Value} {o : Nat} {v0 v1 v2 v3 v4 : Value} (h : o + 5 ≤ l.length) : ((((l.set o v0).set (o + 1) v1).set (o + 2) v2).set (o + 3) v3).set (o + 4) v4 = l.take o ++ [v0, v1, v2, v3, v4] ++ l.drop (o + 5) := by
  obtain ⟨A, x0, x1, x2, x3, x4, C, rfl, hA⟩ : ∃ A x0 x1 x2 x3 x4 C, l = A ++ x0 :: x1 :: x2 :: x3 :: x4 :: C ∧ A.length = o := by
    refine ⟨l.take o, l[o], l[o + 1], l[o + 2], l[o + 3], l[o + 4], l.drop (o + 5), ?_, by simp; omega⟩
    rw [← List.drop_eq_getElem_cons (by omega), ← List.drop_eq_getElem_cons (by omega), ← List.drop_eq_getElem_cons (by omega), ← List.drop_eq_getElem_cons (by omega), ← List.drop_eq_getElem_cons (by omega), List.take_append_drop]
  subst hA
  rw [List.take_left, List.drop_append, List.drop_eq_nil_of_le (by omega)]
  simp
theorem set5_blk {W : World} {g o : Nat} {cur : Array Value} {t : TypeId} (v0 v1 v2 v3 v4 : Value) (hb : W.heap[g]? = some (.cells cur t (0, 0))) (h : o + 5 ≤ cur.size) :
    (((((W.setCell ⟨g, o, none⟩ v0).setCell ⟨g, o + 1, none⟩ v1).setCell ⟨g, o + 2, none⟩ v2).setCell ⟨g, o + 3, none⟩ v3).setCell ⟨g, o + 4, none⟩ v4).heap[g]? = some (.cells (laidR cur o [v0, v1, v2, v3, v4]) t (0, 0)) := by
  have e : ((((cur.setIfInBounds o v0).setIfInBounds (o + 1) v1).setIfInBounds (o + 2) v2).setIfInBounds (o + 3) v3).setIfInBounds (o + 4) v4 = laidR cur o [v0, v1, v2, v3, v4] := by
    apply Array.ext'
    simp only [Array.toList_setIfInBounds, laidR]
    exact set5_list (by simpa using h)
  rw [← e]
  simp [World.setCell, Array.getElem?_modify, hb]
theorem set5_keeps (W : World) (g o : Nat) (v0 v1 v2 v3 v4 : Value) : Keeps [g] W (((((W.setCell ⟨g, o, none⟩ v0).setCell ⟨g, o + 1, none⟩ v1).setCell ⟨g, o + 2, none⟩ v2).setCell ⟨g, o + 3, none⟩ v3).setCell ⟨g, o + 4, none⟩ v4) :=
  (((((Keeps.refl [g] W).setCell (.inl (by simp)) _).setCell (.inl (by simp)) _).setCell (.inl (by simp)) _).setCell (.inl (by simp)) _).setCell (.inl (by simp)) _
end Go.Proofs.YtlcljanibjdejaaGreat
namespace Go.Proofs.YtlcljanibjdejaaGreat
open Go.RowKit Go.Maps
theorem unread_take (rd : List (List UInt8)) (l : List En) (k : Nat) (hk : k < l.length) : unreadE (l.take (k + 1)) rd = unreadE (l.take k) rd ++ if l[k].id ∈ rd then [] else [l[k]] := by
  unfold unreadE
  rw [List.take_succ_eq_append_getElem hk, List.filter_append]
  congr 1
  by_cases h : l[k].id ∈ rd
  · simp [h]
  · simp [h]
theorem unread_all {rd : List (List UInt8)} {l : List En} (h : ∀ y ∈ l, y.id ∉ rd) : unreadE l rd = l := by
  unfold unreadE
  exact List.filter_eq_self.2 (fun y hy => by simpa using h y hy)
theorem laidR_far {cur : Array Value} {off t : Nat} {cs : List Value} (h : off + cs.length ≤ cur.size) (ht : off + cs.length ≤ t) : (laidR cur off cs).toList[t]? = cur.toList[t]? := by
  simp only [laidR]
  rw [List.getElem?_append_right (by simp; omega), List.getElem?_drop]
  congr 1
  simp
  omega
set_option maxRecDepth 8000 in
set_option maxHeartbeats 16000000 in
theorem delFunc_read (w : World) (g cap n k : Nat) (cur : Array Value) (l : List En) (rv : Value) (rd : List (List UInt8)) (hg : w.heap[g]? = some (.cells cur 75 (0, 0))) (hn : l.length = n) (hnc : n ≤ cap) (hcap : cap ≤ maxLen) (hcs : cur.size = cap * 5) (htake : cur.toList.take (n * 5) = ensCells l)
    (hr : ∀ W, Keeps [g] w W → RdAt W k rv rd) (hs : SortedI rd) (hl : rd.length ≤ 900) :
    Calls Tryz.prog 123 #[.slice (some ⟨g, 0, none⟩) n cap, .func (.func 124) #[.pointer (some ⟨k, 0, none⟩)] #[]] w fun e w' => e = .returned (.slice (some ⟨g, 0, none⟩) (unreadE l rd).length cap) ∧ ∃ cur', w'.heap[g]? = some (.cells cur' 75 (0, 0)) ∧ cur'.size = cap * 5 ∧ cur'.toList.take ((unreadE l rd).length * 5) = ensCells (unreadE l rd) ∧ Keeps [g] w w' := by
  have hE := enters124
  unfold Enters at hE
  obtain ⟨i0, hi, hz0, hz1, hz2⟩ := info_parts info75
  have hv : ∀ w, (zeroValue 75).run Tryz.prog w = .ok (.agg #[.string ⟨#[]⟩, .string ⟨#[]⟩, .string ⟨#[]⟩, .int .i64 0, .string ⟨#[]⟩]) w := fun w => by simp [zeroValue, typeInfo, hi, hz0]
  have hcell0 : ∀ t u, (ensCells l)[t]? = some u → cur.toList[t]? = some u := fun t u hu => by
    rw [← htake, List.getElem?_take] at hu
    split at hu
    · exact hu
    · cases hu
  have hlies : Lies w (.slice (some ⟨g, 0, none⟩) n cap) l.length 5 (ensCells l) := ⟨ensCells_len l, .inr (.inl ⟨g, 0, cap, by rw [hn], by omega, hcap, fun t u hu => by
    rw [Nat.zero_add, cell_of_row w g t cur 75 (0, 0) hg]
    simpa using hcell0 t u hu⟩)⟩
  have hix := hide (idx195_read k w _ l rv rd hlies (hr w (Keeps.refl _ _)) hs hl)
  unfold maxLen at hcap
  rcases idxR_cases rd l 0 with ⟨hidx, hno⟩ | ⟨j0, hj0, hidx, hin, hpre⟩
  · rw [hidx] at hix
    have hall := unread_all hno
    rw [hall, hn]
    have HFIN := hide (And.intro hg (And.intro hcs htake))
    clear hr hs hg htake hcs hlies hcell0 hv hno hidx hall
    go_enter Tryz.func123, Tryz.ntmps123
    go_wp2_with fail
    refine hix.out.mono ?_
    rintro e w1 ⟨rfl, hk1⟩
    go_wp2_with fail
    go_ret
    exact ⟨rfl, cur, (hk1.block _ (lt_of_block HFIN.out.1) List.not_mem_nil).trans HFIN.out.1, HFIN.out.2.1, HFIN.out.2.2, hk1.to (by simp)⟩
  · rw [hidx, Nat.zero_add] at hix
    have hpr0 : unreadE (l.take j0) rd = l.take j0 := unread_all hpre
    have hpr1 : unreadE (l.take (j0 + 1)) rd = l.take j0 := by rw [unread_take rd l j0 hj0, if_pos hin, hpr0, List.append_nil]
    have hstart : cur.toList.take (j0 * 5) = ensCells (l.take j0) := by rw [← ensCells_take l j0, ← htake, List.take_take, Nat.min_eq_left (by omega)]
    have hw0 : IntKind.i64.wrap ((j0 : Int) + 1) = (j0 : Int) + 1 := by rw [IntKind.wrap_i64]; omega
    have hne1 : ((j0 : Int) == -1) = false := beq_eq_false_iff_ne.2 (by omega)
    have HG := hide hg
    have HR := hide hr
    have HS := hide hs
    have HC0 := hide hcell0
    have HST := hide hstart
    have HP1 := hide hpr1
    have HV := hide hv
    have HCS := hide hcs
    obtain ⟨UL, hUL⟩ : ∃ UL, unreadE l rd = UL := ⟨_, rfl⟩
    rw [hUL]
    have HUL := hide hUL
    clear hr hs hg htake hcs hlies hcell0 hv hidx hpre hpr0 hpr1 hstart hUL
    go_enter Tryz.func123, Tryz.ntmps123
    go_wp2_with fail
    refine hix.out.mono ?_
    rintro e w1 ⟨rfl, hk1⟩
    have HK1 := hide hk1
    clear hk1 hix
    go_wp2_with fail
    go_loopw [5, 6] (fun a b wr => ∃ (i j : Nat) (cr : Array Value), a = .int .i64 i ∧ b = .int .i64 j ∧ j ≤ n ∧ i < j ∧ wr.heap[g]? = some (.cells cr 75 (0, 0)) ∧ cr.size = cap * 5 ∧ Hid (i = (unreadE (l.take j) rd).length ∧ cr.toList.take (i * 5) = ensCells (unreadE (l.take j) rd)) ∧ Hid (∀ t u, j * 5 ≤ t → (ensCells l)[t]? = some u → cr.toList[t]? = some u) ∧ Keeps [g] w wr) (fun _ b _ => n - (intOf b).toNat)
    case atStart => exact ⟨j0, j0 + 1, cur, rfl, by go_num, by omega, by omega, (HK1.out.block _ (lt_of_block HG.out) List.not_mem_nil).trans HG.out, HCS.out, hide ⟨by rw [HP1.out, List.length_take]; omega, by rw [HP1.out]; exact HST.out⟩, hide (fun t u _ hu => HC0.out t u hu), HK1.out.to (by simp)⟩
    case round =>
      obtain ⟨i, j, cr, rfl, rfl, hj, hij, hgr, hcr, hH, hF, hkw⟩ := hrel
      by_cases hlt : j < n
      · have hjl : j < l.length := by omega
        have hU := unread_take rd l j hjl
        have hcj : ∀ c u, c < 5 → (enCells l[j])[c]? = some u → wr.cell? ⟨g, j * 5 + c, none⟩ = some u := fun c u hc hu => by
          rw [cell_of_row wr g _ cr 75 (0, 0) hgr]
          have := hF.out (j * 5 + c) u (by omega) (by rw [en_at l j c hjl hc]; exact hu)
          simpa using this
        have a0 := hcj 0 _ (by omega) rfl
        have a1 := hcj 1 _ (by omega) rfl
        have a2 := hcj 2 _ (by omega) rfl
        have a3 := hcj 3 _ (by omega) rfl
        have a4 := hcj 4 _ (by omega) rfl
        rw [Nat.add_zero] at a0
        have hin0 : (0 : Int) ≤ (j : Int) := by omega
        have hin1 : (j : Int) < (n : Int) := by omega
        have hii0 : (0 : Int) ≤ (i : Int) := by omega
        have hii1 : (i : Int) < (n : Int) := by omega
        have HU := hide hU
        clear hU hcj
        have hpred := hide (fun W (hk : Keeps [] wr W) => wasRead_any l[j] W k rv rd (HR.out W (hkw.trans (hk.to (by simp)))) HS.out hl)
        unfold enCells at hpred
        generalize l[j] = x at *
        obtain ⟨WE, hWE⟩ : ∃ WE, wr.alloc (.cells #[.string ⟨x.id.toArray⟩, .string ⟨x.title.toArray⟩, .string ⟨x.link.toArray⟩, .int .i64 x.tm, .string ⟨x.html.toArray⟩] 75) = WE := ⟨_, rfl⟩
        have hkN : Keeps [] wr WE := by rw [← hWE]; exact (Keeps.refl [] wr).alloc _
        have hbx := (nblk_new rfl hWE).1
        have HKN := hide hkN
        have HBX := hide hbx
        have HWE := hide hWE
        have HGR := hide hgr
        have HKW := hide hkw
        have d0 : WE.cell? ⟨wr.heap.size, 0, none⟩ = some (.string ⟨x.id.toArray⟩) := cell_blk hbx 0
        have d1 : WE.cell? ⟨wr.heap.size, 1, none⟩ = some (.string ⟨x.title.toArray⟩) := cell_blk hbx 1
        have d2 : WE.cell? ⟨wr.heap.size, 2, none⟩ = some (.string ⟨x.link.toArray⟩) := cell_blk hbx 2
        have d3 : WE.cell? ⟨wr.heap.size, 3, none⟩ = some (.int .i64 x.tm) := cell_blk hbx 3
        have d4 : WE.cell? ⟨wr.heap.size, 4, none⟩ = some (.string ⟨x.html.toArray⟩) := cell_blk hbx 4
        clear hkN hWE hbx hgr hkw
        by_cases hx : x.id ∈ rd
        · have HU2 : Hid (unreadE (l.take (j + 1)) rd = unreadE (l.take j) rd) := hide (by have := HU.out; rwa [if_pos hx, List.append_nil] at this)
          rw [decide_eq_true hx] at hpred
          clear HU hx
          go_upto_region 8 with fail
          rw [HWE.out]
          go_wp2_with fail
          refine (hpred.out WE HKN.out).mono ?_
          rintro e w3 ⟨rfl, hk3⟩
          have HK3 := hide (HKN.out.trans hk3)
          clear hk3 d0 d1 d2 d3 d4 a0 a1 a2 a3 a4
          go_wp2_with fail
          go_roundw
          case rel => exact ⟨i, j + 1, cr, rfl, by go_num, by omega, by omega, (HK3.out.block _ (lt_of_block HGR.out) List.not_mem_nil).trans HGR.out, hcr, by rw [HU2.out]; exact hH, hide (fun t u ht hu => hF.out t u (by omega) hu), HKW.out.trans (HK3.out.to (by simp))⟩
          case measure => simp [intOf]; omega
        · have HU2 : Hid (unreadE (l.take (j + 1)) rd = unreadE (l.take j) rd ++ [x]) := hide (by have := HU.out; rwa [if_neg hx] at this)
          rw [decide_eq_false hx] at hpred
          clear HU hx
          have hcx : ∀ c, c < 5 → ∃ u, cr[i * 5 + c]? = some u := fun c hc => ⟨_, Array.getElem?_eq_getElem (by omega)⟩
          obtain ⟨u0, hu0⟩ := hcx 0 (by omega)
          obtain ⟨u1, hu1⟩ := hcx 1 (by omega)
          obtain ⟨u2, hu2⟩ := hcx 2 (by omega)
          obtain ⟨u3, hu3⟩ := hcx 3 (by omega)
          obtain ⟨u4, hu4⟩ := hcx 4 (by omega)
          go_upto_region 8 with fail
          rw [HWE.out]
          go_wp2_with fail
          refine (hpred.out WE HKN.out).mono ?_
          rintro e w3 ⟨rfl, hk3⟩
          have HK3 := hide (HKN.out.trans hk3)
          have hg3 := (HK3.out.block _ (lt_of_block HGR.out) List.not_mem_nil).trans HGR.out
          have e0 : w3.cell? ⟨wr.heap.size, 0, none⟩ = some (.string ⟨x.id.toArray⟩) := ncell_all hk3 HBX.out 0
          have e1 : w3.cell? ⟨wr.heap.size, 1, none⟩ = some (.string ⟨x.title.toArray⟩) := ncell_all hk3 HBX.out 1
          have e2 : w3.cell? ⟨wr.heap.size, 2, none⟩ = some (.string ⟨x.link.toArray⟩) := ncell_all hk3 HBX.out 2
          have e3 : w3.cell? ⟨wr.heap.size, 3, none⟩ = some (.int .i64 x.tm) := ncell_all hk3 HBX.out 3
          have e4 : w3.cell? ⟨wr.heap.size, 4, none⟩ = some (.string ⟨x.html.toArray⟩) := ncell_all hk3 HBX.out 4
          have s0 : w3.cell? ⟨g, i * 5, none⟩ = some u0 := by rw [cell_of_row w3 g _ cr 75 (0, 0) hg3]; exact hu0
          have s1 : w3.cell? ⟨g, i * 5 + 1, none⟩ = some u1 := by rw [cell_of_row w3 g _ cr 75 (0, 0) hg3]; exact hu1
          have s2 : w3.cell? ⟨g, i * 5 + 2, none⟩ = some u2 := by rw [cell_of_row w3 g _ cr 75 (0, 0) hg3]; exact hu2
          have s3 : w3.cell? ⟨g, i * 5 + 3, none⟩ = some u3 := by rw [cell_of_row w3 g _ cr 75 (0, 0) hg3]; exact hu3
          have s4 : w3.cell? ⟨g, i * 5 + 4, none⟩ = some u4 := by rw [cell_of_row w3 g _ cr 75 (0, 0) hg3]; exact hu4
          have f0 := free_blk hg3 (i * 5)
          have f1 := free_blk hg3 (i * 5 + 1)
          have f2 := free_blk hg3 (i * 5 + 2)
          have f3 := free_blk hg3 (i * 5 + 3)
          have f4 := free_blk hg3 (i * 5 + 4)
          have HG3 := hide hg3
          clear hk3 d0 d1 d2 d3 d4 a0 a1 a2 a3 a4 hg3 hu0 hu1 hu2 hu3 hu4 hcx
          go_wp2_with fail
          go_roundw
          case rel =>
            have hfit : i * 5 + [Value.string ⟨x.id.toArray⟩, .string ⟨x.title.toArray⟩, .string ⟨x.link.toArray⟩, .int .i64 x.tm, .string ⟨x.html.toArray⟩].length ≤ cr.size := by simp; omega
            refine ⟨i + 1, j + 1, _, by go_num, by go_num, by omega, by omega, set5_blk _ _ _ _ _ HG3.out (by omega), by rw [laidR_size hfit]; exact hcr, hide ⟨by rw [HU2.out, List.length_append, ← hH.out.1]; rfl, ?_⟩, hide (fun t u ht hu => ?_), (HKW.out.trans (HK3.out.to (by simp))).trans (set5_keeps _ _ _ _ _ _ _ _)⟩
            · rw [HU2.out, ensCells_app, ← hH.out.2]
              exact laidR_take hfit (by simp; omega)
            · rw [laidR_far hfit (by simp; omega)]
              exact hF.out t u (by omega) hu
          case measure => simp [intOf]; omega
      · have hjn : j = n := by omega
        subst hjn
        have hke : l.take j = l := List.take_of_length_le (by omega)
        have hHH := hH.out
        rw [hke, HUL.out] at hHH
        obtain ⟨hi1, hi2⟩ := hHH
        subst hi1
        have hcl : ∀ ty, (Builtin.clear_ #[61] ty #[.slice (some ⟨g, UL.length * 5, none⟩) (j - UL.length) (cap - UL.length)]).run Tryz.prog wr = .ok (.tuple #[]) (wr.setRow g (laidR cr (UL.length * 5) (Builtin.zeroCells (.agg #[.string ⟨#[]⟩, .string ⟨#[]⟩, .string ⟨#[]⟩, .int .i64 0, .string ⟨#[]⟩] : Value).cells (j - UL.length)).toList)) :=
          fun ty => run_clear_row wr 61 75 ty _ Tryz.underlying61 HV.out (by intro u hu; simp [Value.cells] at hu; rcases hu with rfl | rfl | rfl | rfl | rfl <;> rfl) g (UL.length * 5) _ _ cr 75 hgr (by omega) (by rw [hcr]; show _ + _ * 5 ≤ _; omega)
        have hf2 : UL.length * 5 + (Builtin.zeroCells (.agg #[.string ⟨#[]⟩, .string ⟨#[]⟩, .string ⟨#[]⟩, .int .i64 0, .string ⟨#[]⟩] : Value).cells (j - UL.length)).toList.length ≤ cr.size := by rw [zeroCells_len, hcr]; show _ + _ * 5 ≤ _; omega
        obtain ⟨cur2, hcur2⟩ : ∃ cur2, laidR cr (UL.length * 5) (Builtin.zeroCells (.agg #[.string ⟨#[]⟩, .string ⟨#[]⟩, .string ⟨#[]⟩, .int .i64 0, .string ⟨#[]⟩] : Value).cells (j - UL.length)).toList = cur2 := ⟨_, rfl⟩
        rw [hcur2] at hcl
        have HF2 := hide (show cur2.size = cap * 5 ∧ cur2.toList.take (UL.length * 5) = ensCells UL from ⟨by rw [← hcur2, laidR_size hf2, hcr], by rw [← hcur2, laidR_head hf2 (Nat.le_refl _)]; exact hi2⟩)
        have HG2 := hide (setRow_blk hgr cur2)
        have hc3 : ¬ cap = UL.length := by omega
        have hul : UL.length ≤ cap := by omega
        have hul2 : UL.length ≤ j := by omega
        have HKW := hide hkw
        clear hcur2 hf2 hi2 hgr hkw hH hF hke
        go_wp2_with fail
        go_ret
        exact ⟨rfl, cur2, HG2.out, HF2.out.1, HF2.out.2, HKW.out.trans (setRow_keeps _ _ _)⟩
end Go.Proofs.YtlcljanibjdejaaGreat
namespace Go.Proofs.YtlcljanibjdejaaGreat
open Go.RowKit Go.Maps
theorem delFunc_nil (w : World) (k : Nat) (rv : Value) (rd : List (List UInt8)) (hr : RdAt w k rv rd) (hs : SortedI rd) (hl : rd.length ≤ 900) :
    Calls Tryz.prog 123 #[.slice none 0 0, .func (.func 124) #[.pointer (some ⟨k, 0, none⟩)] #[]] w fun e w' => e = .returned (.slice none 0 0) ∧ Keeps [] w w' := by
  have hix := hide (idx195_read k w (.slice none 0 0) [] rv rd ⟨rfl, .inl ⟨rfl, rfl⟩⟩ hr hs hl)
  rw [show idxR rd [] 0 = -1 from rfl] at hix
  clear hr hs
  go_enter Tryz.func123, Tryz.ntmps123
  go_wp2_with fail
  refine hix.out.mono ?_
  rintro e w1 ⟨rfl, hk1⟩
  go_wp2_with fail
  go_ret
  exact ⟨rfl, hk1⟩
theorem delFunc_own (w : World) (B k : Nat) (v rv : Value) (l : List En) (rd : List (List UInt8)) (h : w.ownsRow B 75 5 v l.length (ensCells l)) (hr : ∀ W, Keeps v.ownBlock.toList w W → RdAt W k rv rd) (hs : SortedI rd) (hl : rd.length ≤ 900) :
    Calls Tryz.prog 123 #[v, .func (.func 124) #[.pointer (some ⟨k, 0, none⟩)] #[]] w fun e w' => ∃ v', e = .returned v' ∧ w'.ownsRow B 75 5 v' (unreadE l rd).length (ensCells (unreadE l rd)) ∧ Keeps v.ownBlock.toList w w' ∧ v'.ownBlock = v.ownBlock := by
  rcases h.2 with ⟨rfl, h0⟩ | ⟨g, cap, cur, rfl, hBg, hg, hnc, hcap, hcs, htake⟩
  · have hl0 : l = [] := List.eq_nil_of_length_eq_zero h0
    subst hl0
    refine (delFunc_nil w k rv rd (hr w (Keeps.refl _ _)) hs hl).mono ?_
    rintro e w' ⟨rfl, hk⟩
    exact ⟨_, rfl, World.ownsRow_nil _ _ _ _, hk.to (by simp), rfl⟩
  · refine (delFunc_read w g cap l.length k cur l rv rd hg rfl hnc hcap hcs htake hr hs hl).mono ?_
    rintro e w' ⟨rfl, cur', hg', hcs', ht', hk⟩
    have hle : (unreadE l rd).length ≤ l.length := List.length_filter_le _ _
    exact ⟨_, rfl, ⟨ensCells_len _, .inr ⟨g, cap, cur', rfl, hBg, hg', by omega, hcap, hcs', ht'⟩⟩, hk, rfl⟩
theorem RdAt.of {w w' : World} {B k : Nat} {ev rv : Value} {s : Sh} (h : IsKp w B k ev rv s) (hk : Keeps ev.ownBlock.toList w w') : RdAt w' k rv s.rd :=
  ⟨cell_blk ((hk.block k h.lt (fun hm => block_ne h.es h.blk (by decide) (by simpa using hm))).trans h.blk) 1, Lies.of_row (hk.owns h.rd (fun g hg hm => rows_apart h.rd h.es (by decide) hg (by simpa using hm)))⟩
set_option maxRecDepth 8000 in
set_option maxHeartbeats 16000000 in
theorem drop43_good (w : World) (ev rv : Value) (s : Sh) (he : Lies w ev s.es.length 5 (ensCells s.es)) (hr : Lies w rv s.rd.length 1 (idCs s.rd)) (hf : ∀ x ∈ s.es, FitE x) (hM : HasMax w) (h0 : chkSh s = 0) :
    Calls Tryz.prog 43 #[.agg #[ev, rv]] w fun e w' => ∃ ev' rv', e = .returned (.tuple #[.agg #[ev', rv'], .int .i64 ((s.es.length : Int) - ((unreadE s.es s.rd).length : Int)), .int .i64 0]) ∧ OwnSh w' w.heap.size ev' rv' ⟨unreadE s.es s.rd, s.rd⟩ ∧ Keeps [] w w' := by
  have hc1 := h0
  have hrd := chkSh_read hc1
  obtain ⟨hp1, hp2, _, _⟩ := chkSh_parts hc1
  obtain ⟨es, rd⟩ := s
  simp only at he hr hf
  obtain ⟨eo, ec, rfl, g1, g2⟩ := he.form
  obtain ⟨ro, rc, rfl, g3, g4⟩ := hr.form
  have nn : ∀ g, g ∉ ([] : List Nat) := fun _ => List.not_mem_nil
  obtain ⟨W, hW⟩ : ∃ W, (w.alloc (.cells #[.slice eo es.length ec, .slice ro rd.length rc] 64)).alloc (.cells #[.slice none 0 0, .slice none 0 0] 64) = W := ⟨_, rfl⟩
  have hkW : Keeps [] w W := by rw [← hW]; exact ((Keeps.refl [] w).alloc _).alloc _
  have hb0 : W.heap[w.heap.size]? = some (.cells #[.slice eo es.length ec, .slice ro rd.length rc] 64 (0, 0)) := by rw [← hW]; exact two_fst w _ _
  have hb1 : W.heap[w.heap.size + 1]? = some (.cells #[.slice none 0 0, .slice none 0 0] 64 (0, 0)) := by rw [← hW]; exact two_snd w _ _
  have b0 : W.cell? ⟨w.heap.size, 0, none⟩ = some (.slice eo es.length ec) := cell_blk hb0 0
  have b1 : W.cell? ⟨w.heap.size, 1, none⟩ = some (.slice ro rd.length rc) := cell_blk hb0 1
  have HB0 := hide hb0
  have HB1 := hide hb1
  have HKW := hide hkW
  have HW := hide hW
  unfold maxLen at g2 g4
  simp only at hp1 hp2 hrd
  have hkp := hide (keep_good W _ _ ⟨es, rd⟩ (he.keeps hkW) (hr.keeps hkW) hf (hM.keeps hkW (nn _)) hc1)
  have hdf := hide (fun w1 k ev1 rv1 (h : IsKp w1 W.heap.size k ev1 rv1 ⟨es, rd⟩) => delFunc_own w1 W.heap.size k ev1 rv1 es rd h.es (fun W9 hk9 => RdAt.of h hk9) hrd (by omega))
  have hul : (unreadE es rd).length ≤ es.length := List.length_filter_le _ _
  obtain ⟨UL, hUL⟩ : ∃ UL, unreadE es rd = UL := ⟨_, rfl⟩
  rw [hUL] at hdf hul ⊢
  have hwi : IntKind.i64.wrap ((es.length : Int) - (UL.length : Int)) = (es.length : Int) - (UL.length : Int) := by rw [IntKind.wrap_i64]; omega
  have hmf : ∀ (fn : Fn) (first cap : Array Value) (w : World), (Instr.makeFunc fn first cap).run Tryz.prog w = .ok (.func fn first cap) w := fun _ _ _ _ => rfl
  clear he hr hf hM h0 hc1 hkW hb0 hb1 hW hrd hUL
  go_enter Tryz.func43, Tryz.ntmps43
  go_upto_region 1 with fail
  rw [HW.out]
  go_wp2_with fail
  refine hkp.out.mono ?_
  rintro e w1 ⟨k, ev1, rv1, rfl, hkp1, hk1⟩
  have hes1 := hkp1.es
  simp only at hes1
  obtain ⟨o1, c1, hv1⟩ := row_form hes1
  subst hv1
  have x0 := cell_blk hkp1.blk 0
  simp at x0
  have HK1 := hide hk1
  have HKP1 := hide hkp1
  clear hkp1 hk1 hkp hes1 b1
  go_wp2_with fail
  refine (hdf.out w1 k _ rv1 HKP1.out).mono ?_
  rintro e w2 ⟨v2, rfl, ho2, hk2, hw2⟩
  obtain ⟨o2, c2, rfl⟩ := row_form ho2
  have hb2 := (hk2.block k HKP1.out.lt (fun hm9 => block_ne HKP1.out.es HKP1.out.blk (by decide) (by simpa using hm9))).trans HKP1.out.blk
  have y0 := cell_blk hb2 0
  have f0 := free_blk hb2 0
  simp at y0
  have hfin := kp_set0 (es' := UL) HKP1.out hk2 ho2 (.inl hw2)
  obtain ⟨W3, hW3⟩ : ∃ W3, w2.setCell ⟨k, 0, none⟩ (.slice o2 UL.length c2) = W3 := ⟨_, rfl⟩
  rw [hW3] at hfin
  obtain ⟨hkp3, hst3⟩ := hfin
  have hge := HKP1.out.ge
  have hk3 := ((HK1.out.up.trans hst3.1).mono (T := []) (fun g hg hlt => by have := (hge g hg).1; omega))
  have hb03 := (hk3.block _ (lt_of_block HB0.out) List.not_mem_nil).trans HB0.out
  have hb13 := (hk3.block _ (lt_of_block HB1.out) List.not_mem_nil).trans HB1.out
  obtain ⟨o4, c4, hv4⟩ := row_form hkp3.rd
  subst hv4
  simp only at hkp3
  have m0 := cell_blk hkp3.blk 0
  have m1 := cell_blk hkp3.blk 1
  have n0 := cell_blk hb03 0
  have n1 := cell_blk hb03 1
  have z0 := cell_blk hb13 0
  have z1 := cell_blk hb13 1
  have q0 := free_blk hb13 0
  have q1 := free_blk hb13 1
  simp at m0 m1 n0 n1 z0 z1
  have HKP3 := hide hkp3
  have HK3 := hide hk3
  have HB13 := hide hb13
  have HW3 := hide hW3
  have hkB := hkp3.hb
  have hBl := lt_of_block HB1.out
  clear hst3 hkp3 hge hk3 hb03 hb13 hW3 hb2 ho2 hk2 x0 b0
  go_upto_region 5 with fail
  rw [HW3.out]
  clear y0 f0
  go_region_law (fail)
  all_goals go_wp2_with fail
  all_goals
    have hks := set2_keeps W3.drew (w.heap.size + 1) (.slice o2 UL.length c2) (.slice o4 rd.length c4)
    have hkpd := HKP3.out.keepsNil ((Keeps.refl [] W3).drew)
    have hne : ∀ g, g ∈ tK k (Value.slice o2 UL.length c2) (Value.slice o4 rd.length c4) → g ≠ w.heap.size + 1 := fun g hg => by have := (hkpd.ge g hg).1; omega
    exact ⟨rfl, _, results_row3 (P := Tryz.prog) rfl _ _ (w.heap.size + 1) 64 _ (0, 0) _ rfl (set2_blk _ _ (show W3.drew.heap[w.heap.size + 1]? = _ from HB13.out)) Tryz.underlying64 rfl (by kernel_rfl), _, _, rfl,
      ⟨own_base (hks.owns hkpd.es (fun g hg hm => hne g (by simp [tK, hg]) (by simpa using hm))) (by have := HKW.out.size; omega), own_base (hks.owns hkpd.rd (fun g hg hm => hne g (by simp [tK, hg]) (by simpa using hm))) (by have := HKW.out.size; omega)⟩,
      keeps_on ((HKW.out.trans HK3.out).drew) hks (fun g hg hlt => by simp at hg; omega)⟩
end Go.Proofs.YtlcljanibjdejaaGreat
namespace Go.Proofs.YtlcljanibjdejaaGreat
open Go.RowKit Go.Maps
theorem OwnSh.lies {w : World} {B : Nat} {ev rv : Value} {s : Sh} (h : OwnSh w B ev rv s) : Lies w ev s.es.length 5 (ensCells s.es) ∧ Lies w rv s.rd.length 1 (idCs s.rd) := ⟨Lies.of_row h.1, Lies.of_row h.2⟩
set_option maxRecDepth 8000 in
set_option maxHeartbeats 16000000 in
theorem unread44_good (w : World) (ev rv : Value) (s : Sh) (he : Lies w ev s.es.length 5 (ensCells s.es)) (hr : Lies w rv s.rd.length 1 (idCs s.rd)) (hf : ∀ x ∈ s.es, FitE x) (hM : HasMax w) (h0 : chkSh s = 0) :
    Calls Tryz.prog 44 #[.agg #[ev, rv]] w fun e w' => ∃ v, e = .returned (.tuple #[v, .int .i64 0]) ∧ w'.ownsRow w.heap.size 9 1 v ((unreadE s.es s.rd).map (·.id)).length (idCs ((unreadE s.es s.rd).map (·.id))) ∧ Keeps [] w w' := by
  obtain ⟨hp1, hp2, _, _⟩ := chkSh_parts h0
  have hul : (unreadE s.es s.rd).length ≤ s.es.length := List.length_filter_le _ _
  obtain ⟨i0, hi, hz0, hz1, hz2⟩ := info_parts info9s
  have nn : ∀ g, g ∉ ([] : List Nat) := fun _ => List.not_mem_nil
  obtain ⟨eo, ec, rfl, g1, g2⟩ := he.form
  obtain ⟨ro, rc, rfl, g3, g4⟩ := hr.form
  obtain ⟨W, hW⟩ : ∃ W, w.alloc (.cells #[.slice eo s.es.length ec, .slice ro s.rd.length rc] 64) = W := ⟨_, rfl⟩
  have hkW : Keeps [] w W := by rw [← hW]; exact (Keeps.refl [] w).alloc _
  have hb := (nblk_new rfl hW).1
  have b0 : W.cell? ⟨w.heap.size, 0, none⟩ = some (.slice eo s.es.length ec) := cell_blk hb 0
  have b1 : W.cell? ⟨w.heap.size, 1, none⟩ = some (.slice ro s.rd.length rc) := cell_blk hb 1
  have hdr := hide (drop43_good W _ _ s (he.keeps hkW) (hr.keeps hkW) hf (hM.keeps hkW (nn _)) h0)
  have HKW := hide hkW
  have HW := hide hW
  obtain ⟨l, hl⟩ : ∃ l, unreadE s.es s.rd = l := ⟨_, rfl⟩
  rw [hl] at hdr hul ⊢
  clear he hr hM h0 hf hb hkW hW hl
  unfold OwnSh at hdr
  simp only at hdr
  go_enter Tryz.func44, Tryz.ntmps44
  go_upto_region 1 with fail
  rw [HW.out]
  go_wp2_with fail
  refine hdr.out.mono ?_
  rintro e w1 ⟨ev1, rv1, rfl, ⟨hes1, hrd1⟩, hk1⟩
  obtain ⟨o1, c1, rfl⟩ := row_form hes1
  obtain ⟨o2, c2, rfl⟩ := row_form hrd1
  obtain ⟨W2, hW2⟩ : ∃ W2, w1.alloc (.cells #[.slice o1 l.length c1, .slice o2 s.rd.length c2] 64) = W2 := ⟨_, rfl⟩
  have hk2 : Keeps [] w1 W2 := by rw [← hW2]; exact (Keeps.refl [] w1).alloc _
  have hb2 := (nblk_new rfl hW2).1
  have d0 : W2.cell? ⟨w1.heap.size, 0, none⟩ = some (.slice o1 l.length c1) := cell_blk hb2 0
  have d1 : W2.cell? ⟨w1.heap.size, 1, none⟩ = some (.slice o2 s.rd.length c2) := cell_blk hb2 1
  have HV := hide ((Lies.of_row hes1).keeps hk2)
  obtain ⟨_, _, e9, g5, g6⟩ := (Lies.of_row hes1).form
  injection e9 with e91 e92 e93
  subst e91 e93
  unfold maxLen at g6
  have HK1 := hide ((HKW.out.trans hk1).trans hk2)
  have HW2 := hide hW2
  clear hes1 hrd1 hk1 hk2 hb2 hW2 b0 b1 e92 hdr
  go_wp2_with fail
  rw [HW2.out]
  go_loopw [7, 22] (fun v i wr => ∃ k : Nat, k ≤ l.length ∧ i = .int .i64 k ∧ wr.ownsRow W2.heap.size 9 1 v ((l.take k).map (·.id)).length (idCs ((l.take k).map (·.id))) ∧ Keeps [] W2 wr) (fun _ i _ => l.length - (intOf i).toNat)
  case atStart => exact ⟨0, Nat.zero_le _, rfl, World.ownsRow_nil _ _ _ _, Keeps.refl _ _⟩
  case round =>
    obtain ⟨k, hk, rfl, hrow, hkw2⟩ := hrel
    obtain ⟨vo, vc, rfl⟩ := row_form hrow
    by_cases hlt : k < l.length
    · have hH : (l.take (k + 1)).map (·.id) = (l.take k).map (·.id) ++ [l[k].id] := by rw [List.take_succ_eq_append_getElem hlt, List.map_append]; rfl
      have hHl : ((l.take k).map (·.id)).length ≤ 20 := by simp; omega
      obtain ⟨g, o0, rfl, hc⟩ := (HV.out.keeps hkw2).addr (by omega)
      obtain ⟨a0, a1, a2, a3, a4⟩ := lies_en hc k hlt
      have HH := hide hH
      clear hc hH
      generalize (l.take k).map (·.id) = got at *
      generalize l[k] = x at *
      obtain ⟨WE, hWE⟩ : ∃ WE, wr.alloc (.cells #[.string ⟨x.id.toArray⟩, .string ⟨x.title.toArray⟩, .string ⟨x.link.toArray⟩, .int .i64 x.tm, .string ⟨x.html.toArray⟩] 75) = WE := ⟨_, rfl⟩
      have hkN : Keeps [] wr WE := by rw [← hWE]; exact (Keeps.refl [] wr).alloc _
      have hbx := (nblk_new rfl hWE).1
      have HKR2 := hide (hkw2.trans hkN)
      have hrow3 := hkN.owns hrow (fun _ _ => List.not_mem_nil)
      have HWE := hide hWE
      have e0 : WE.cell? ⟨wr.heap.size, 0, none⟩ = some (.string ⟨x.id.toArray⟩) := cell_blk hbx 0
      have hsz3 : W2.heap.size ≤ WE.heap.size := HKR2.out.size
      clear hkN hWE hbx hrow hkw2
      go_upto_region 8 with fail
      rw [HWE.out]
      clear a0 a1 a2 a3 a4 d0 d1
      go_wp2_with (at_builtin; refine wpList_append_own_at9 _ rfl _ _ 62 rfl W2.heap.size 9 i0 _ 1 16 Tryz.underlying62 hi hz0 hz1 hz2 (by kernel_rfl) (by decide) (.slice vo got.length vc) got.length (idCs got) rfl (hrow3.alloc _) ⟨WE.heap.size, 0, none⟩ 1 1 [.string ⟨x.id.toArray⟩] rfl rfl ?c1 ?c2 ?c3 ?c4 ?c5 ?_)
      case c1 => exact one_str WE x.id
      case c2 => intro u hu; simp at hu; subst hu; rfl
      case c3 => unfold maxLen; omega
      case c4 => omega
      case c5 => exact Nat.le_trans hsz3 (by simp)
      intro v4 w4 ho4 hg4 hw4
      obtain ⟨o4, c4, hv4⟩ := row_form ho4
      subst hv4
      have hk4 : Keeps (Value.slice vo got.length vc).ownBlock.toList WE w4 := ((Keeps.refl _ WE).alloc _).grown hg4 (fun i e => .inl (by simp [e]))
      have HK4 : Hid (Keeps [] W2 w4) := hide ((HKR2.out.up.trans hk4).mono (fun i hi hlt => by have := (hrow3.lt i (by simpa using hi)).1; omega))
      have HO4 := hide ho4
      clear hk4 hg4 hw4 ho4
      go_wp2_with fail
      go_roundw
      case rel => exact ⟨k + 1, by omega, by go_num, by rw [HH.out, idCs_app, List.length_append]; exact HO4.out, HK4.out⟩
      case measure => simp [intOf]; omega
    · have hke : l.take k = l := List.take_of_length_le (by omega)
      rw [hke] at hrow ⊢
      have HR := hide hrow
      obtain ⟨got, hgot⟩ : ∃ got, l.map (·.id) = got := ⟨_, rfl⟩
      have HG := hide hgot
      rw [hgot] at HR ⊢
      clear hgot hrow
      go_wp2_with fail
      go_ret2
      refine ⟨_, rfl, ?_, HK1.out.trans hkw2⟩
      show wr.ownsRow _ 9 1 _ (l.map (·.id)).length (idCs (l.map (·.id)))
      rw [HG.out]
      exact own_base HR.out HK1.out.size
end Go.Proofs.YtlcljanibjdejaaGreat
