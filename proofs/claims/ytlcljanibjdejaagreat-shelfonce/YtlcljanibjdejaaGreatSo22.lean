/- slices.Insert of one, of entries and of texts, into a row of one's own. slices.BinarySearchFunc of entries that are in order. slices.BinarySearch of texts that are in order. -/
import Derived.Test.YtlcljanibjdejaaGreatSo21
import Derived.Shelf.Spec.SlicesInsertGrow
namespace Go.Proofs.YtlcljanibjdejaaGreat
open Go.RowKit Go.Maps
theorem laidR_two {cur : Array Value} {a z : Nat} {X D : List Value} (hX : X.length = z) (hf : a + z + D.length ≤ cur.size) :
    laidR (laidR cur (a + z) D) a X = (cur.toList.take a ++ X ++ D ++ cur.toList.drop (a + z + D.length)).toArray := by
  have e1 : (laidR cur (a + z) D).toList.take a = cur.toList.take a := laidR_head hf (by omega)
  have e2 : (laidR cur (a + z) D).toList.drop (a + z) = D ++ cur.toList.drop (a + z + D.length) := by
    simp only [laidR]
    rw [List.append_assoc, List.drop_append_of_le_length (by simp; omega), List.drop_eq_nil_of_le (by simp; omega), List.nil_append]
  unfold laidR at e1 e2 ⊢
  rw [e1, hX, e2]
  simp
theorem row_two {cur : Array Value} {a z n : Nat} {A X D : List Value} (hX : X.length = z) (hf : a + z + D.length ≤ cur.size) (hA : cur.toList.take a = A) (hn : n = a + z + D.length) :
    (laidR (laidR cur (a + z) D) a X).toList.take n = A ++ X ++ D := by
  subst hn
  have hAl : A.length = a := by rw [← hA, List.length_take]; simp; omega
  rw [laidR_two hX hf, hA]
  simp only
  rw [List.take_append_of_le_length (by simp; omega)]
  exact List.take_of_length_le (by simp; omega)
theorem shape_blk {w : World} {g : Nat} {cs : Array Value} {t : TypeId} {fz : Nat × Nat} (h : w.heap[g]? = some (.cells cs t fz)) : w.shape? g = some (t, cs.size) := by simp [World.shape?, h]
set_option maxRecDepth 8000 in
set_option maxHeartbeats 16000000 in
theorem insert193_end (w : World) (B : Nat) (v : Value) (n : Nat) (l : List En) (x : En) (vb : Nat) (h : w.ownsRow B 75 5 v n (ensCells l)) (hn : n ≤ 1000) (hvb : w.heap[vb]? = some (.cells (ensCells [x]).toArray 75 (0, 0))) (hB : B ≤ w.heap.size) :
    Calls Tryz.prog 193 #[v, .int .i64 n, .slice (some ⟨vb, 0, none⟩) 1 1] w fun e w' => ∃ v', e = .returned v' ∧ w'.ownsRow B 75 5 v' (n + 1) (ensCells l ++ ensCells [x]) ∧ Keeps v.ownBlock.toList w w' ∧ (v'.ownBlock = v.ownBlock ∨ v'.ownBlock = some w.heap.size) := by
  obtain ⟨i0, hi, hz0, hz1, hz2⟩ := info_parts info75
  have hsrc : ∀ j u, (ensCells [x])[j]? = some u → w.cell? ((⟨vb, 0, none⟩ : Addr).add j) = some u := fun j u hj => by
    rw [Addr.add_lit, Nat.zero_add, cell_of_row w vb j _ _ _ hvb]
    simpa using hj
  have hlen : (ensCells [x]).length = 1 * 5 := rfl
  have hone := ens_one [x]
  obtain ⟨vo, vc, rfl⟩ := row_form h
  have HH := hide h
  have HS := hide hsrc
  generalize ensCells [x] = X at *
  generalize ensCells l = L at *
  clear h hsrc hvb
  rcases HH.out.2 with ⟨e, rfl⟩ | ⟨g, cap, cur, e, hBg, hg, hnc, hcap, _, _⟩
  · injection e with e1 e2 e3
    subst e1 e3
    go_enter Tryz.func193, Tryz.ntmps193
    go_wp2_with (at_builtin; refine wpList_append_own_at9 _ rfl _ _ 61 rfl B 75 i0 _ 5 72 Tryz.underlying61 hi hz0 hz1 hz2 (by kernel_rfl) (by decide) (.slice none 0 0) 0 L rfl HH.out ⟨vb, 0, none⟩ 1 1 X rfl hlen HS.out hone (by unfold maxLen; omega) (by omega) hB ?_)
    intro v3 w3 ho3 hg3 hw3
    obtain ⟨o3, c3, rfl⟩ := row_form ho3
    have HO := hide ho3
    have HK := hide ((Keeps.refl ((Value.slice none 0 0).ownBlock.toList) w).grown hg3 (fun i e => .inl (by simp [Value.ownBlock] at e)))
    have HW3 := hide hw3
    clear ho3 hg3 hw3
    go_wp2_with fail
    go_ret
    exact ⟨_, rfl, HO.out, HK.out, HW3.out⟩
  · injection e with e1 e2 e3
    subst e1 e3
    unfold maxLen at hcap
    have hli : 0 < w.heap.size := by have := lt_of_block hg; omega
    clear hg
    go_enter Tryz.func193, Tryz.ntmps193
    go_wp2_with (at_builtin; refine wpList_append_own_at9 _ rfl _ _ 61 rfl B 75 i0 _ 5 72 Tryz.underlying61 hi hz0 hz1 hz2 (by kernel_rfl) (by decide) (.slice (some ⟨g, 0, none⟩) n vc) n L rfl HH.out ⟨vb, 0, none⟩ 1 1 X rfl hlen HS.out hone (by unfold maxLen; omega) (by omega) hB ?_)
    all_goals
      intro v3 w3 ho3 hg3 hw3
      obtain ⟨o3, c3, rfl⟩ := row_form ho3
      have HO := hide ho3
      have HK := hide ((Keeps.refl ((Value.slice (some ⟨g, 0, none⟩) n vc).ownBlock.toList) w).grown hg3 (fun i e => .inl (by simpa [Value.ownBlock, eq_comm] using e)))
      have HW3 := hide hw3
      clear ho3 hg3 hw3
      go_wp2_with fail
      go_ret
      exact ⟨_, rfl, HO.out, HK.out, HW3.out⟩
set_option maxRecDepth 8000 in
set_option maxHeartbeats 16000000 in
theorem insert193_shift (w : World) (B g n cap i : Nat) (cur : Array Value) (l : List En) (x : En) (vb : Nat) (hl : l.length = n) (hBg : B ≤ g) (hg : w.heap[g]? = some (.cells cur 75 (0, 0))) (hcs : cur.size = cap * 5) (htake : cur.toList.take (n * 5) = ensCells l) (hcap : cap ≤ maxLen) (hi' : i < n) (hroom : n + 1 ≤ cap) (hn : n ≤ 1000) (hvb : w.heap[vb]? = some (.cells (ensCells [x]).toArray 75 (0, 0))) (hne : vb ≠ g) :
    Calls Tryz.prog 193 #[.slice (some ⟨g, 0, none⟩) n cap, .int .i64 i, .slice (some ⟨vb, 0, none⟩) 1 1] w fun e w' => e = .returned (.slice (some ⟨g, 0, none⟩) (n + 1) cap) ∧ w'.ownsRow B 75 5 (.slice (some ⟨g, 0, none⟩) (n + 1) cap) (n + 1) (ensCells (l.take i ++ x :: l.drop i)) ∧ Keeps [g] w w' := by
  obtain ⟨i0, hi, hz0, hz1, hz2⟩ := info_parts info75
  have hsO : ∀ w, (Go.sizeOf 75).run Tryz.prog w = .ok 5 w := fun w => by simp [Go.sizeOf, typeInfo, hi, hz1]
  have hsrc : ∀ j u, (ensCells [x])[j]? = some u → w.cell? ((⟨vb, 0, none⟩ : Addr).add j) = some u := fun j u hj => by
    rw [Addr.add_lit, Nat.zero_add, cell_of_row w vb j _ _ _ hvb]
    simpa using hj
  have hlenX : (ensCells [x]).length = 5 := rfl
  have hone := ens_one [x]
  have hlenD : (ensCells (l.drop i)).length = (n - i) * 5 := by rw [ensCells_len, List.length_drop, hl]
  have honeD := ens_one (l.drop i)
  have hsrcD : ∀ j u, (ensCells (l.drop i))[j]? = some u → w.cell? ((⟨g, i * 5, none⟩ : Addr).add j) = some u := fun j u hj => by
    rw [Addr.add_lit]
    rw [← ensCells_drop, List.getElem?_drop, ← htake, List.getElem?_take] at hj
    split at hj
    · rw [cell_of_row w g _ cur _ _ hg]; simpa using hj
    · cases hj
  have hA : cur.toList.take (i * 5) = ensCells (l.take i) := by rw [← ensCells_take l i, ← htake, List.take_take, Nat.min_eq_left (by omega)]
  have hfit : i * 5 + 5 + (ensCells (l.drop i)).length ≤ cur.size := by rw [hlenD, hcs]; omega
  have hfin := row_two (n := (n + 1) * 5) hlenX hfit hA (by rw [hlenD]; omega)
  have hfinl : ensCells (l.take i) ++ ensCells [x] ++ ensCells (l.drop i) = ensCells (l.take i ++ x :: l.drop i) := by rw [← ensCells_app, ← ensCells_app, List.append_assoc]; rfl
  rw [hfinl] at hfin
  have hov : ∀ lb cb, (callFunc 268 #[.slice (some ⟨vb, 0, none⟩) 1 1, .slice (some ⟨g, (i + 1) * 5, none⟩) lb cb]).run Tryz.prog w = .ok (.value (.bool false)) w := fun lb cb => by
    rw [run_callFunc_extern Tryz.func268 (by kernel_rfl) (by kernel_rfl) (by kernel_rfl) (e := Extern.SlicesOverlaps.overlaps #[61, 61] #[4]) (by kernel_rfl),
      Lib.run_overlaps_apart w 61 4 75 Tryz.underlying61 5 hsO ⟨vb, 0, none⟩ ⟨g, (i + 1) * 5, none⟩ 1 1 lb cb hne 75 75 5 cur.size (shape_blk hvb) (shape_blk hg) (by omega) (free_blk hvb 0) (free_blk hvb _)]
    rfl
  have e5 : (i + 1) * 5 = i * 5 + 5 := by omega
  obtain ⟨cur1, hcur1⟩ : ∃ c, laidR cur ((i + 1) * 5) (ensCells (l.drop i)) = c := ⟨_, rfl⟩
  rw [← e5, hcur1] at hfin
  have hz1' : cur1.size = cap * 5 := by rw [← hcur1, laidR_size (by rw [e5]; exact hfit), hcs]
  obtain ⟨cur2, hcur2⟩ : ∃ c, laidR cur1 (i * 5) (ensCells [x]) = c := ⟨_, rfl⟩
  rw [hcur2] at hfin
  have hz2' : cur2.size = cap * 5 := by rw [← hcur2, laidR_size (by rw [hlenX, hz1']; omega), hz1']
  have hcp1 : ∀ ty dc sc, (Builtin.copy_ #[61, 61] ty #[.slice (some ⟨g, (i + 1) * 5, none⟩) (n - i) dc, .slice (some ⟨g, i * 5, none⟩) (n + 1 - i) sc]).run Tryz.prog w.drew = .ok (goInt ((n - i : Nat) : Int)) (w.drew.setRow g cur1) := fun ty dc sc => by
    have := run_copy_rowZ (P := Tryz.prog) w.drew 61 61 ty 75 i0 5 g ((i + 1) * 5) (n - i) dc ⟨g, i * 5, none⟩ (n + 1 - i) sc cur 75 (ensCells (l.drop i)) Tryz.underlying61 hi hz1 hg (n - i) (by simp only [Nat.min_def]; split <;> omega) hlenD hsrcD (by rw [e5]; exact hfit) honeD
    rw [hcur1] at this
    exact this
  obtain ⟨W1, hW1⟩ : ∃ W1, w.drew.setRow g cur1 = W1 := ⟨_, rfl⟩
  rw [hW1] at hcp1
  have hg1 : W1.heap[g]? = some (.cells cur1 75 (0, 0)) := by rw [← hW1]; exact setRow_blk (w := w.drew) hg cur1
  have hvb1 : W1.heap[vb]? = some (.cells (ensCells [x]).toArray 75 (0, 0)) := by rw [← hW1, setRow_else _ hne]; exact hvb
  have hcp2 : ∀ (W : World), W.heap = W1.heap → ∀ ty dc, (Builtin.copy_ #[61, 61] ty #[.slice (some ⟨g, i * 5, none⟩) (n + 1 - i) dc, .slice (some ⟨vb, 0, none⟩) 1 1]).run Tryz.prog W = .ok (goInt ((1 : Nat) : Int)) (W.setRow g cur2) := fun W hWh ty dc => by
    have := run_copy_rowZ (P := Tryz.prog) W 61 61 ty 75 i0 5 g (i * 5) (n + 1 - i) dc ⟨vb, 0, none⟩ 1 1 cur1 75 (ensCells [x]) Tryz.underlying61 hi hz1 (by rw [hWh]; exact hg1) 1 (by simp only [Nat.min_def]; split <;> omega) (by rw [hlenX]) (fun j u hj => by
      rw [Addr.add_lit, Nat.zero_add, cell_of_row W vb j _ _ _ (by rw [hWh]; exact hvb1)]
      simpa using hj) (by rw [hlenX, hz1']; omega) hone
    rw [hcur2] at this
    exact this
  have HFIN := hide hfin
  have HZ2 := hide hz2'
  have HG1 := hide hg1
  have HW1 := hide hW1
  unfold maxLen at hcap
  have hic : ¬ cap = i := by omega
  have hic1 : ¬ cap = i + 1 := by omega
  have hwi : IntKind.i64.wrap ((i : Int) + 1) = (i : Int) + 1 := by rw [IntKind.wrap_i64]; omega
  have hwn : IntKind.i64.wrap ((n : Int) + 1) = (n : Int) + 1 := by rw [IntKind.wrap_i64]; omega
  have hb1 : (0 : Int) ≤ (i : Int) + 1 := by omega
  have htn : ((i : Int) + 1).toNat = i + 1 := by omega
  have hb3 : (i : Int) ≤ (n : Int) + 1 := by omega
  have hin2 : i ≤ n := by omega
  have hin : ¬ ((i : Int) = (n : Int)) := by omega
  have hcap2 : ¬ ((cap : Int) < (n : Int) + 1) := by omega
  have hi1 : (i : Int) ≤ (n : Int) := by omega
  clear hsrc hsrcD hA hfit hfin hfinl hcur1 hcur2 hz1' hz2' hlenX hlenD hone honeD htake hg hvb hg1 hvb1 hW1 e5
  go_enter Tryz.func193, Tryz.ntmps193
  go_wp2_with (simp only [hov])
  go_region_law (refine step_copy_runI rfl _ _ 61 61 rfl _ _ (by simp [Act.eval, Act.put]) (by simp [Act.eval, Act.put]) (hcp1 _ _ _) ?_)
  go_wp2_with (at_builtin; refine wpList_copy_runI _ rfl _ _ 61 61 rfl _ _ rfl rfl (hcp2 _ rfl _ _) ?_)
  go_ret
  refine ⟨rfl, ⟨by rw [ensCells_len]; simp [hl]; omega, .inr ⟨g, cap, cur2, rfl, hBg, setRow_blk HG1.out cur2, hroom, by unfold maxLen; exact hcap, HZ2.out, HFIN.out⟩⟩, ?_⟩
  rw [← HW1.out]
  exact (((Keeps.refl [g] w).drew).trans (setRow_keeps _ g cur1)).trans (setRow_keeps _ g cur2)
set_option maxRecDepth 8000 in
set_option maxHeartbeats 16000000 in
theorem insert193_grow (w : World) (B g n cap i : Nat) (cur : Array Value) (l : List En) (x : En) (vb : Nat) (hl : l.length = n) (hB : B ≤ w.heap.size) (hg : w.heap[g]? = some (.cells cur 75 (0, 0))) (htake : cur.toList.take (n * 5) = ensCells l) (hi' : i < n) (hnc : n ≤ cap) (hroom : cap < n + 1) (hn : n ≤ 1000) (hvb : w.heap[vb]? = some (.cells (ensCells [x]).toArray 75 (0, 0))) :
    Calls Tryz.prog 193 #[.slice (some ⟨g, 0, none⟩) n cap, .int .i64 i, .slice (some ⟨vb, 0, none⟩) 1 1] w fun e w' => ∃ G, e = .returned (.slice (some ⟨w.heap.size, 0, none⟩) (n + 1) G) ∧ w'.ownsRow B 75 5 (.slice (some ⟨w.heap.size, 0, none⟩) (n + 1) G) (n + 1) (ensCells (l.take i ++ x :: l.drop i)) ∧ Keeps [] w w' := by
  obtain ⟨i0, hi, hz0, hz1, hz2⟩ := info_parts info75
  have hgl := lt_of_block hg
  have hvl := lt_of_block hvb
  have hlenX : (ensCells [x]).length = 5 := rfl
  have hone := ens_one [x]
  have hlenD : (ensCells (l.drop i)).length = (n - i) * 5 := by rw [ensCells_len, List.length_drop, hl]
  have honeD := ens_one (l.drop i)
  have hlenT : (ensCells (l.take i)).length = i * 5 := by rw [ensCells_len, List.length_take, hl, Nat.min_eq_left (by omega)]
  have hA : cur.toList.take (i * 5) = ensCells (l.take i) := by rw [← ensCells_take l i, ← htake, List.take_take, Nat.min_eq_left (by omega)]
  have hsrcD : ∀ j u, (ensCells (l.drop i))[j]? = some u → w.cell? ((⟨g, i * 5, none⟩ : Addr).add j) = some u := fun j u hj => by
    rw [Addr.add_lit]
    rw [← ensCells_drop, List.getElem?_drop, ← htake, List.getElem?_take] at hj
    split at hj
    · rw [cell_of_row w g _ cur _ _ hg]; simpa using hj
    · cases hj
  have hold : (Builtin.firstCells i0.size i (.slice (some ⟨g, 0, none⟩) i cap)).run Tryz.prog w.drew = .ok (ensCells (l.take i)).toArray w.drew := by
    rw [hz1]
    exact run_firstCells_some w.drew 5 i ⟨g, 0, none⟩ i cap (ensCells (l.take i)) hlenT (fun j v hj => by
      rw [Addr.add_lit, Nat.zero_add]
      rw [← hA, List.getElem?_take] at hj
      split at hj
      · show w.cell? _ = _
        rw [cell_of_row w g _ cur _ _ hg]; simpa using hj
      · cases hj)
  have hkk : (n : Int) + 1 - (i : Int) = ((n + 1 - i : Nat) : Int) := by omega
  have hik : i + (n + 1 - i) = n + 1 := by omega
  obtain ⟨G, hG⟩ : ∃ G, grownCap w (n + 1) cap 75 = G := ⟨_, rfl⟩
  have hGn : n + 1 ≤ G := by rw [← hG]; exact grownCap_ge w _ _ _
  have hGm : G ≤ maxLen := by rw [← hG]; exact grownCap_le_maxLen w (n + 1) cap 75 (by unfold maxLen; omega)
  obtain ⟨ROW, hROW⟩ : ∃ ROW : Array Value, (ensCells (l.take i)).toArray ++ Builtin.zeroCells ((.agg #[.string ⟨#[]⟩, .string ⟨#[]⟩, .string ⟨#[]⟩, .int .i64 0, .string ⟨#[]⟩]) : Value).cells (n + 1 - i) ++ Builtin.zeroCells ((.agg #[.string ⟨#[]⟩, .string ⟨#[]⟩, .string ⟨#[]⟩, .int .i64 0, .string ⟨#[]⟩]) : Value).cells (G - (n + 1)) = ROW := ⟨_, rfl⟩
  have hRs : ROW.size = G * 5 := by
    have z1 := zeroCells_len ((.agg #[.string ⟨#[]⟩, .string ⟨#[]⟩, .string ⟨#[]⟩, .int .i64 0, .string ⟨#[]⟩])) (n + 1 - i)
    have z2 := zeroCells_len ((.agg #[.string ⟨#[]⟩, .string ⟨#[]⟩, .string ⟨#[]⟩, .int .i64 0, .string ⟨#[]⟩])) (G - (n + 1))
    have zz : ((.agg #[.string ⟨#[]⟩, .string ⟨#[]⟩, .string ⟨#[]⟩, .int .i64 0, .string ⟨#[]⟩]) : Value).cells.size = 5 := rfl
    rw [zz] at z1 z2
    rw [← hROW, Array.size_append, Array.size_append, ← Array.length_toList, ← Array.length_toList (xs := Builtin.zeroCells _ (n + 1 - i)), ← Array.length_toList (xs := Builtin.zeroCells _ (G - (n + 1))), z1, z2]
    simp only [hlenT]
    omega
  have hRt : ROW.toList.take (i * 5) = ensCells (l.take i) := by
    rw [← hROW]
    simp only [Array.toList_append]
    rw [List.append_assoc, List.take_append_of_le_length (by simp only [hlenT]; omega), List.take_of_length_le (by simp only [hlenT]; omega)]
  have hrz : ∀ ty, (Builtin.append_ #[61, 3] ty #[.slice (some ⟨g, 0, none⟩) i cap, .int .i64 ((n : Int) + 1 - (i : Int))]).run Tryz.prog w = .ok (.slice (some ⟨w.heap.size, 0, none⟩) (n + 1) G) (w.drew.alloc (.cells ROW 75)) := fun ty => by
    have h := Lib.run_append_grow_zeros w 61 3 ty 75 i0 _ .i64 .i64 Tryz.underlying61 Tryz.underlying3 hi hz0 (some ⟨g, 0, none⟩) i cap (ensCells (l.take i)) hold (n + 1 - i) (by omega) (by omega) (by omega) (by omega) (by rw [hz2]; omega) (by rw [hz2, hik]; exact growslice_fits hroom (by omega))
    rw [hik, hG, hROW] at h
    rw [hkk]
    exact h
  obtain ⟨W1, hW1⟩ : ∃ W1, w.drew.alloc (.cells ROW 75) = W1 := ⟨_, rfl⟩
  rw [hW1] at hrz
  have hN : W1.heap[w.heap.size]? = some (.cells ROW 75 (0, 0)) := by rw [← hW1]; exact heap_alloc_new w.drew _
  have hold1 : ∀ k, k < w.heap.size → W1.heap[k]? = w.heap[k]? := fun k hk => by rw [← hW1]; exact heap_alloc_old w.drew _ hk
  obtain ⟨cur1, hcur1⟩ : ∃ c, laidR ROW (i * 5) (ensCells [x]) = c := ⟨_, rfl⟩
  have hf1 : i * 5 + (ensCells [x]).length ≤ ROW.size := by rw [hlenX, hRs]; omega
  have hs1 : cur1.size = G * 5 := by rw [← hcur1, laidR_size hf1, hRs]
  have ht1 : cur1.toList.take ((i + 1) * 5) = ensCells (l.take i) ++ ensCells [x] := by rw [← hcur1, laidR_take hf1 (by rw [hlenX]; omega), hRt]
  obtain ⟨cur2, hcur2⟩ : ∃ c, laidR cur1 ((i + 1) * 5) (ensCells (l.drop i)) = c := ⟨_, rfl⟩
  have hf2 : (i + 1) * 5 + (ensCells (l.drop i)).length ≤ cur1.size := by rw [hlenD, hs1]; omega
  have hs2 : cur2.size = G * 5 := by rw [← hcur2, laidR_size hf2, hs1]
  have hfinl : ensCells (l.take i) ++ ensCells [x] ++ ensCells (l.drop i) = ensCells (l.take i ++ x :: l.drop i) := by rw [← ensCells_app, ← ensCells_app, List.append_assoc]; rfl
  have ht2 : cur2.toList.take ((n + 1) * 5) = ensCells (l.take i ++ x :: l.drop i) := by rw [← hcur2, laidR_take hf2 (by rw [hlenD]; omega), ht1, hfinl]
  have hcpA : ∀ (W : World), W.heap = W1.heap → ∀ ty dc, (Builtin.copy_ #[61, 61] ty #[.slice (some ⟨w.heap.size, i * 5, none⟩) (n + 1 - i) dc, .slice (some ⟨vb, 0, none⟩) 1 1]).run Tryz.prog W = .ok (goInt ((1 : Nat) : Int)) (W.setRow w.heap.size cur1) := fun W hWh ty dc => by
    have := run_copy_rowZ (P := Tryz.prog) W 61 61 ty 75 i0 5 w.heap.size (i * 5) (n + 1 - i) dc ⟨vb, 0, none⟩ 1 1 ROW 75 (ensCells [x]) Tryz.underlying61 hi hz1 (by rw [hWh]; exact hN) 1 (by simp only [Nat.min_def]; split <;> omega) (by rw [hlenX]) (fun j u hj => by
      rw [Addr.add_lit, Nat.zero_add, cell_of_row W vb j _ _ _ (by rw [hWh, hold1 _ hvl]; exact hvb)]
      simpa using hj) hf1 hone
    rw [hcur1] at this
    exact this
  have hcpB : ∀ (W : World), W.heap = (W1.setRow w.heap.size cur1).heap → ∀ ty dc sc, (Builtin.copy_ #[61, 61] ty #[.slice (some ⟨w.heap.size, (i + 1) * 5, none⟩) (n - i) dc, .slice (some ⟨g, i * 5, none⟩) (n - i) sc]).run Tryz.prog W = .ok (goInt ((n - i : Nat) : Int)) (W.setRow w.heap.size cur2) := fun W hWh ty dc sc => by
    have := run_copy_rowZ (P := Tryz.prog) W 61 61 ty 75 i0 5 w.heap.size ((i + 1) * 5) (n - i) dc ⟨g, i * 5, none⟩ (n - i) sc cur1 75 (ensCells (l.drop i)) Tryz.underlying61 hi hz1 (by rw [hWh]; exact setRow_blk hN cur1) (n - i) (by simp only [Nat.min_def]; split <;> omega) hlenD (fun j u hj => by
      have := hsrcD j u hj
      rw [Addr.add_lit] at this ⊢
      rw [cell_of_row w g _ cur _ _ hg] at this
      rw [cell_of_row W g _ cur _ _ (by rw [hWh, setRow_else _ (by omega), hold1 _ hgl]; exact hg)]
      exact this) hf2 honeD
    rw [hcur2] at this
    exact this
  have HT2 := hide ht2
  have HS2 := hide hs2
  have HN := hide hN
  have HW1 := hide hW1
  have HGM := hide hGm
  unfold maxLen at hGm
  have hic : ¬ cap = i := by omega
  have hGi : ¬ G = i := by omega
  have hGi1 : ¬ G = i + 1 := by omega
  have hwi : IntKind.i64.wrap ((i : Int) + 1) = (i : Int) + 1 := by rw [IntKind.wrap_i64]; omega
  have hwn : IntKind.i64.wrap ((n : Int) + 1) = (n : Int) + 1 := by rw [IntKind.wrap_i64]; omega
  have hwk : IntKind.i64.wrap ((n : Int) + 1 - (i : Int)) = (n : Int) + 1 - (i : Int) := by rw [IntKind.wrap_i64]; omega
  have hb1 : (0 : Int) ≤ (i : Int) + 1 := by omega
  have htn : ((i : Int) + 1).toNat = i + 1 := by omega
  have hb3 : (i : Int) ≤ (n : Int) + 1 := by omega
  have hin2 : i ≤ n := by omega
  have hin : ¬ ((i : Int) = (n : Int)) := by omega
  have hcap2 : (cap : Int) < (n : Int) + 1 := by omega
  have hi1 : (i : Int) ≤ (n : Int) := by omega
  clear hsrcD hA hlenX hlenD hlenT hone honeD htake hg hvb hN hW1 hold1 hold hkk hik hG hROW hRs hRt hf1 hs1 ht1 hf2 hs2 ht2 hfinl hcur1 hcur2
  go_enter Tryz.func193, Tryz.ntmps193
  go_wp2_with (first
    | (at_builtin; refine Lib.wpList_append_run _ rfl _ _ _ _ rfl _ _ rfl rfl _ _ (hrz _) ?_)
    | (at_builtin; refine wpList_copy_runI _ rfl _ _ 61 61 rfl _ _ rfl rfl (hcpA _ rfl _ _) ?_))
  go_region_law (refine step_copy_runI rfl _ _ 61 61 rfl (.slice (some ⟨w.heap.size, (i + 1) * 5, none⟩) (n - i) (G - (i + 1))) (.slice (some ⟨g, i * 5, none⟩) (n - i) (cap - i)) (by simp [Act.eval, Act.put]) (by simp [Act.eval, Act.put]) (hcpB ((W1.setRow w.heap.size cur1).drew) rfl 3 (G - (i + 1)) (cap - i)) ?_)
  go_wp2_with fail
  go_ret
  have k1 : Keeps [] w W1 := by rw [← HW1.out]; exact ((Keeps.refl [] w).drew).alloc _
  have hg9 : ∀ g', g' ∈ [w.heap.size] → ¬ g' < w.heap.size := fun g' hg' => by simp at hg'; omega
  have k2 := keeps_on k1 (setRow_keeps W1 w.heap.size cur1) (fun g' hg' hlt => (hg9 g' hg' hlt).elim)
  have k4 := keeps_on (k2.drew) (setRow_keeps _ w.heap.size cur2) (fun g' hg' hlt => (hg9 g' hg' hlt).elim)
  exact ⟨G, rfl, ⟨by rw [ensCells_len]; simp [hl]; omega, .inr ⟨w.heap.size, G, cur2, rfl, hB, setRow_blk (setRow_blk HN.out cur1) cur2, hGn, HGM.out, HS2.out, HT2.out⟩⟩, k4⟩
theorem insert193_any (w : World) (B i : Nat) (v : Value) (l : List En) (x : En) (vb : Nat) (h : w.ownsRow B 75 5 v l.length (ensCells l)) (hi' : i ≤ l.length) (hn : l.length ≤ 1000) (hvb : w.heap[vb]? = some (.cells (ensCells [x]).toArray 75 (0, 0))) (hne : v.ownBlock ≠ some vb) (hB : B ≤ w.heap.size) :
    Calls Tryz.prog 193 #[v, .int .i64 i, .slice (some ⟨vb, 0, none⟩) 1 1] w fun e w' => ∃ v', e = .returned v' ∧ w'.ownsRow B 75 5 v' (l.length + 1) (ensCells (l.take i ++ x :: l.drop i)) ∧ Keeps v.ownBlock.toList w w' ∧ (v'.ownBlock = v.ownBlock ∨ v'.ownBlock = some w.heap.size) := by
  by_cases hil : i = l.length
  · subst hil
    refine (insert193_end w B v l.length l x vb h hn hvb hB).mono ?_
    rintro e w' ⟨v', rfl, ho, hk, hv⟩
    refine ⟨v', rfl, ?_, hk, hv⟩
    rw [List.take_of_length_le (Nat.le_refl _), List.drop_eq_nil_of_le (Nat.le_refl _), ensCells_app]
    exact ho
  · rcases h.2 with ⟨rfl, h0⟩ | ⟨g, cap, cur, rfl, hBg, hg, hnc, hcap, hcs, htake⟩
    · omega
    · by_cases hroom : l.length + 1 ≤ cap
      · refine (insert193_shift w B g l.length cap i cur l x vb rfl hBg hg hcs htake hcap (by omega) hroom hn hvb (fun e => hne (by rw [e]; rfl))).mono ?_
        rintro e w' ⟨rfl, ho, hk⟩
        exact ⟨_, rfl, ho, hk, .inl rfl⟩
      · refine (insert193_grow w B g l.length cap i cur l x vb rfl hB hg htake (by omega) hnc (by omega) hn hvb).mono ?_
        rintro e w' ⟨G, rfl, ho, hk⟩
        exact ⟨_, rfl, ho, hk.to (by simp), .inr rfl⟩
set_option maxRecDepth 8000 in
set_option maxHeartbeats 16000000 in
theorem insert198_end (w : World) (B : Nat) (v : Value) (n : Nat) (l : List (List UInt8)) (x : (List UInt8)) (vb : Nat) (h : w.ownsRow B 9 1 v n (idCs l)) (hn : n ≤ 1000) (hvb : w.heap[vb]? = some (.cells (idCs [x]).toArray 9 (0, 0))) (hB : B ≤ w.heap.size) :
    Calls Tryz.prog 198 #[v, .int .i64 n, .slice (some ⟨vb, 0, none⟩) 1 1] w fun e w' => ∃ v', e = .returned v' ∧ w'.ownsRow B 9 1 v' (n + 1) (idCs l ++ idCs [x]) ∧ Keeps v.ownBlock.toList w w' ∧ (v'.ownBlock = v.ownBlock ∨ v'.ownBlock = some w.heap.size) := by
  obtain ⟨i0, hi, hz0, hz1, hz2⟩ := info_parts info9s
  have hsrc : ∀ j u, (idCs [x])[j]? = some u → w.cell? ((⟨vb, 0, none⟩ : Addr).add j) = some u := fun j u hj => by
    rw [Addr.add_lit, Nat.zero_add, cell_of_row w vb j _ _ _ hvb]
    simpa using hj
  have hlen : (idCs [x]).length = 1 * 1 := rfl
  have hone := ids_one [x]
  obtain ⟨vo, vc, rfl⟩ := row_form h
  have HH := hide h
  have HS := hide hsrc
  generalize idCs [x] = X at *
  generalize idCs l = L at *
  clear h hsrc hvb
  rcases HH.out.2 with ⟨e, rfl⟩ | ⟨g, cap, cur, e, hBg, hg, hnc, hcap, _, _⟩
  · injection e with e1 e2 e3
    subst e1 e3
    go_enter Tryz.func198, Tryz.ntmps198
    go_wp2_with (at_builtin; refine wpList_append_own_at9 _ rfl _ _ 62 rfl B 9 i0 _ 1 16 Tryz.underlying62 hi hz0 hz1 hz2 (by kernel_rfl) (by decide) (.slice none 0 0) 0 L rfl HH.out ⟨vb, 0, none⟩ 1 1 X rfl hlen HS.out hone (by unfold maxLen; omega) (by omega) hB ?_)
    intro v3 w3 ho3 hg3 hw3
    obtain ⟨o3, c3, rfl⟩ := row_form ho3
    have HO := hide ho3
    have HK := hide ((Keeps.refl ((Value.slice none 0 0).ownBlock.toList) w).grown hg3 (fun i e => .inl (by simp [Value.ownBlock] at e)))
    have HW3 := hide hw3
    clear ho3 hg3 hw3
    go_wp2_with fail
    go_ret
    exact ⟨_, rfl, HO.out, HK.out, HW3.out⟩
  · injection e with e1 e2 e3
    subst e1 e3
    unfold maxLen at hcap
    have hli : 0 < w.heap.size := by have := lt_of_block hg; omega
    clear hg
    go_enter Tryz.func198, Tryz.ntmps198
    go_wp2_with (at_builtin; refine wpList_append_own_at9 _ rfl _ _ 62 rfl B 9 i0 _ 1 16 Tryz.underlying62 hi hz0 hz1 hz2 (by kernel_rfl) (by decide) (.slice (some ⟨g, 0, none⟩) n vc) n L rfl HH.out ⟨vb, 0, none⟩ 1 1 X rfl hlen HS.out hone (by unfold maxLen; omega) (by omega) hB ?_)
    all_goals
      intro v3 w3 ho3 hg3 hw3
      obtain ⟨o3, c3, rfl⟩ := row_form ho3
      have HO := hide ho3
      have HK := hide ((Keeps.refl ((Value.slice (some ⟨g, 0, none⟩) n vc).ownBlock.toList) w).grown hg3 (fun i e => .inl (by simpa [Value.ownBlock, eq_comm] using e)))
      have HW3 := hide hw3
      clear ho3 hg3 hw3
      go_wp2_with fail
      go_ret
      exact ⟨_, rfl, HO.out, HK.out, HW3.out⟩
set_option maxRecDepth 8000 in
set_option maxHeartbeats 16000000 in
theorem insert198_shift (w : World) (B g n cap i : Nat) (cur : Array Value) (l : List (List UInt8)) (x : (List UInt8)) (vb : Nat) (hl : l.length = n) (hBg : B ≤ g) (hg : w.heap[g]? = some (.cells cur 9 (0, 0))) (hcs : cur.size = cap * 1) (htake : cur.toList.take (n * 1) = idCs l) (hcap : cap ≤ maxLen) (hi' : i < n) (hroom : n + 1 ≤ cap) (hn : n ≤ 1000) (hvb : w.heap[vb]? = some (.cells (idCs [x]).toArray 9 (0, 0))) (hne : vb ≠ g) :
    Calls Tryz.prog 198 #[.slice (some ⟨g, 0, none⟩) n cap, .int .i64 i, .slice (some ⟨vb, 0, none⟩) 1 1] w fun e w' => e = .returned (.slice (some ⟨g, 0, none⟩) (n + 1) cap) ∧ w'.ownsRow B 9 1 (.slice (some ⟨g, 0, none⟩) (n + 1) cap) (n + 1) (idCs (l.take i ++ x :: l.drop i)) ∧ Keeps [g] w w' := by
  obtain ⟨i0, hi, hz0, hz1, hz2⟩ := info_parts info9s
  have hsO : ∀ w, (Go.sizeOf 9).run Tryz.prog w = .ok 1 w := fun w => by simp [Go.sizeOf, typeInfo, hi, hz1]
  have hsrc : ∀ j u, (idCs [x])[j]? = some u → w.cell? ((⟨vb, 0, none⟩ : Addr).add j) = some u := fun j u hj => by
    rw [Addr.add_lit, Nat.zero_add, cell_of_row w vb j _ _ _ hvb]
    simpa using hj
  have hlenX : (idCs [x]).length = 1 := rfl
  have hone := ids_one [x]
  have hlenD : (idCs (l.drop i)).length = (n - i) * 1 := by rw [idCs_len1, List.length_drop, hl]
  have honeD := ids_one (l.drop i)
  have hsrcD : ∀ j u, (idCs (l.drop i))[j]? = some u → w.cell? ((⟨g, i * 1, none⟩ : Addr).add j) = some u := fun j u hj => by
    rw [Addr.add_lit]
    rw [← idCs_drop, List.getElem?_drop, ← htake, List.getElem?_take] at hj
    split at hj
    · rw [cell_of_row w g _ cur _ _ hg]; simpa using hj
    · cases hj
  have hA : cur.toList.take (i * 1) = idCs (l.take i) := by rw [← idCs_take l i, ← htake, List.take_take, Nat.min_eq_left (by omega)]
  have hfit : i * 1 + 1 + (idCs (l.drop i)).length ≤ cur.size := by rw [hlenD, hcs]; omega
  have hfin := row_two (n := (n + 1) * 1) hlenX hfit hA (by rw [hlenD]; omega)
  have hfinl : idCs (l.take i) ++ idCs [x] ++ idCs (l.drop i) = idCs (l.take i ++ x :: l.drop i) := by rw [← idCs_app, ← idCs_app, List.append_assoc]; rfl
  rw [hfinl] at hfin
  have hov : ∀ lb cb, (callFunc 273 #[.slice (some ⟨vb, 0, none⟩) 1 1, .slice (some ⟨g, (i + 1) * 1, none⟩) lb cb]).run Tryz.prog w = .ok (.value (.bool false)) w := fun lb cb => by
    rw [run_callFunc_extern Tryz.func273 (by kernel_rfl) (by kernel_rfl) (by kernel_rfl) (e := Extern.SlicesOverlaps.overlaps #[62, 62] #[4]) (by kernel_rfl),
      Lib.run_overlaps_apart w 62 4 9 Tryz.underlying62 1 hsO ⟨vb, 0, none⟩ ⟨g, (i + 1) * 1, none⟩ 1 1 lb cb hne 9 9 1 cur.size (shape_blk hvb) (shape_blk hg) (by omega) (free_blk hvb 0) (free_blk hvb _)]
    rfl
  have e5 : (i + 1) * 1 = i * 1 + 1 := by omega
  obtain ⟨cur1, hcur1⟩ : ∃ c, laidR cur ((i + 1) * 1) (idCs (l.drop i)) = c := ⟨_, rfl⟩
  rw [← e5, hcur1] at hfin
  have hz1' : cur1.size = cap * 1 := by rw [← hcur1, laidR_size (by rw [e5]; exact hfit), hcs]
  obtain ⟨cur2, hcur2⟩ : ∃ c, laidR cur1 (i * 1) (idCs [x]) = c := ⟨_, rfl⟩
  rw [hcur2] at hfin
  have hz2' : cur2.size = cap * 1 := by rw [← hcur2, laidR_size (by rw [hlenX, hz1']; omega), hz1']
  have hcp1 : ∀ ty dc sc, (Builtin.copy_ #[62, 62] ty #[.slice (some ⟨g, (i + 1) * 1, none⟩) (n - i) dc, .slice (some ⟨g, i * 1, none⟩) (n + 1 - i) sc]).run Tryz.prog w.drew = .ok (goInt ((n - i : Nat) : Int)) (w.drew.setRow g cur1) := fun ty dc sc => by
    have := run_copy_rowZ (P := Tryz.prog) w.drew 62 62 ty 9 i0 1 g ((i + 1) * 1) (n - i) dc ⟨g, i * 1, none⟩ (n + 1 - i) sc cur 9 (idCs (l.drop i)) Tryz.underlying62 hi hz1 hg (n - i) (by simp only [Nat.min_def]; split <;> omega) hlenD hsrcD (by rw [e5]; exact hfit) honeD
    rw [hcur1] at this
    exact this
  obtain ⟨W1, hW1⟩ : ∃ W1, w.drew.setRow g cur1 = W1 := ⟨_, rfl⟩
  rw [hW1] at hcp1
  have hg1 : W1.heap[g]? = some (.cells cur1 9 (0, 0)) := by rw [← hW1]; exact setRow_blk (w := w.drew) hg cur1
  have hvb1 : W1.heap[vb]? = some (.cells (idCs [x]).toArray 9 (0, 0)) := by rw [← hW1, setRow_else _ hne]; exact hvb
  have hcp2 : ∀ (W : World), W.heap = W1.heap → ∀ ty dc, (Builtin.copy_ #[62, 62] ty #[.slice (some ⟨g, i * 1, none⟩) (n + 1 - i) dc, .slice (some ⟨vb, 0, none⟩) 1 1]).run Tryz.prog W = .ok (goInt ((1 : Nat) : Int)) (W.setRow g cur2) := fun W hWh ty dc => by
    have := run_copy_rowZ (P := Tryz.prog) W 62 62 ty 9 i0 1 g (i * 1) (n + 1 - i) dc ⟨vb, 0, none⟩ 1 1 cur1 9 (idCs [x]) Tryz.underlying62 hi hz1 (by rw [hWh]; exact hg1) 1 (by simp only [Nat.min_def]; split <;> omega) (by rw [hlenX]) (fun j u hj => by
      rw [Addr.add_lit, Nat.zero_add, cell_of_row W vb j _ _ _ (by rw [hWh]; exact hvb1)]
      simpa using hj) (by rw [hlenX, hz1']; omega) hone
    rw [hcur2] at this
    exact this
  have HFIN := hide hfin
  have HZ2 := hide hz2'
  have HG1 := hide hg1
  have HW1 := hide hW1
  unfold maxLen at hcap
  have hic : ¬ cap = i := by omega
  have hic1 : ¬ cap = i + 1 := by omega
  have hwi : IntKind.i64.wrap ((i : Int) + 1) = (i : Int) + 1 := by rw [IntKind.wrap_i64]; omega
  have hwn : IntKind.i64.wrap ((n : Int) + 1) = (n : Int) + 1 := by rw [IntKind.wrap_i64]; omega
  have hb1 : (0 : Int) ≤ (i : Int) + 1 := by omega
  have htn : ((i : Int) + 1).toNat = i + 1 := by omega
  have hb3 : (i : Int) ≤ (n : Int) + 1 := by omega
  have hin2 : i ≤ n := by omega
  have hin : ¬ ((i : Int) = (n : Int)) := by omega
  have hcap2 : ¬ ((cap : Int) < (n : Int) + 1) := by omega
  have hi1 : (i : Int) ≤ (n : Int) := by omega
  clear hsrc hsrcD hA hfit hfin hfinl hcur1 hcur2 hz1' hz2' hlenX hlenD hone honeD htake hg hvb hg1 hvb1 hW1 e5
  simp only [Nat.mul_one] at hov hcp1 hcp2
  go_enter Tryz.func198, Tryz.ntmps198
  go_wp2_with (simp only [hov])
  go_region_law (refine step_copy_runI rfl _ _ 62 62 rfl _ _ (by simp [Act.eval, Act.put]) (by simp [Act.eval, Act.put]) (hcp1 _ _ _) ?_)
  go_wp2_with (at_builtin; refine wpList_copy_runI _ rfl _ _ 62 62 rfl _ _ rfl rfl (hcp2 _ rfl _ _) ?_)
  go_ret
  refine ⟨rfl, ⟨by rw [idCs_len1]; simp [hl]; omega, .inr ⟨g, cap, cur2, rfl, hBg, setRow_blk HG1.out cur2, hroom, by unfold maxLen; exact hcap, HZ2.out, HFIN.out⟩⟩, ?_⟩
  rw [← HW1.out]
  exact (((Keeps.refl [g] w).drew).trans (setRow_keeps _ g cur1)).trans (setRow_keeps _ g cur2)
set_option maxRecDepth 8000 in
set_option maxHeartbeats 16000000 in
theorem insert198_grow (w : World) (B g n cap i : Nat) (cur : Array Value) (l : List (List UInt8)) (x : (List UInt8)) (vb : Nat) (hl : l.length = n) (hB : B ≤ w.heap.size) (hg : w.heap[g]? = some (.cells cur 9 (0, 0))) (htake : cur.toList.take (n * 1) = idCs l) (hi' : i < n) (hnc : n ≤ cap) (hroom : cap < n + 1) (hn : n ≤ 1000) (hvb : w.heap[vb]? = some (.cells (idCs [x]).toArray 9 (0, 0))) :
    Calls Tryz.prog 198 #[.slice (some ⟨g, 0, none⟩) n cap, .int .i64 i, .slice (some ⟨vb, 0, none⟩) 1 1] w fun e w' => ∃ G, e = .returned (.slice (some ⟨w.heap.size, 0, none⟩) (n + 1) G) ∧ w'.ownsRow B 9 1 (.slice (some ⟨w.heap.size, 0, none⟩) (n + 1) G) (n + 1) (idCs (l.take i ++ x :: l.drop i)) ∧ Keeps [] w w' := by
  obtain ⟨i0, hi, hz0, hz1, hz2⟩ := info_parts info9s
  have hgl := lt_of_block hg
  have hvl := lt_of_block hvb
  have hlenX : (idCs [x]).length = 1 := rfl
  have hone := ids_one [x]
  have hlenD : (idCs (l.drop i)).length = (n - i) * 1 := by rw [idCs_len1, List.length_drop, hl]
  have honeD := ids_one (l.drop i)
  have hlenT : (idCs (l.take i)).length = i * 1 := by rw [idCs_len1, List.length_take, hl, Nat.min_eq_left (by omega)]
  have hA : cur.toList.take (i * 1) = idCs (l.take i) := by rw [← idCs_take l i, ← htake, List.take_take, Nat.min_eq_left (by omega)]
  have hsrcD : ∀ j u, (idCs (l.drop i))[j]? = some u → w.cell? ((⟨g, i * 1, none⟩ : Addr).add j) = some u := fun j u hj => by
    rw [Addr.add_lit]
    rw [← idCs_drop, List.getElem?_drop, ← htake, List.getElem?_take] at hj
    split at hj
    · rw [cell_of_row w g _ cur _ _ hg]; simpa using hj
    · cases hj
  have hold : (Builtin.firstCells i0.size i (.slice (some ⟨g, 0, none⟩) i cap)).run Tryz.prog w.drew = .ok (idCs (l.take i)).toArray w.drew := by
    rw [hz1]
    exact run_firstCells_some w.drew 1 i ⟨g, 0, none⟩ i cap (idCs (l.take i)) hlenT (fun j v hj => by
      rw [Addr.add_lit, Nat.zero_add]
      rw [← hA, List.getElem?_take] at hj
      split at hj
      · show w.cell? _ = _
        rw [cell_of_row w g _ cur _ _ hg]; simpa using hj
      · cases hj)
  have hkk : (n : Int) + 1 - (i : Int) = ((n + 1 - i : Nat) : Int) := by omega
  have hik : i + (n + 1 - i) = n + 1 := by omega
  obtain ⟨G, hG⟩ : ∃ G, grownCap w (n + 1) cap 9 = G := ⟨_, rfl⟩
  have hGn : n + 1 ≤ G := by rw [← hG]; exact grownCap_ge w _ _ _
  have hGm : G ≤ maxLen := by rw [← hG]; exact grownCap_le_maxLen w (n + 1) cap 9 (by unfold maxLen; omega)
  obtain ⟨ROW, hROW⟩ : ∃ ROW : Array Value, (idCs (l.take i)).toArray ++ Builtin.zeroCells ((.string ⟨#[]⟩) : Value).cells (n + 1 - i) ++ Builtin.zeroCells ((.string ⟨#[]⟩) : Value).cells (G - (n + 1)) = ROW := ⟨_, rfl⟩
  have hRs : ROW.size = G * 1 := by
    have z1 := zeroCells_len ((.string ⟨#[]⟩)) (n + 1 - i)
    have z2 := zeroCells_len ((.string ⟨#[]⟩)) (G - (n + 1))
    have zz : ((.string ⟨#[]⟩) : Value).cells.size = 1 := rfl
    rw [zz] at z1 z2
    rw [← hROW, Array.size_append, Array.size_append, ← Array.length_toList, ← Array.length_toList (xs := Builtin.zeroCells _ (n + 1 - i)), ← Array.length_toList (xs := Builtin.zeroCells _ (G - (n + 1))), z1, z2]
    simp only [hlenT]
    omega
  have hRt : ROW.toList.take (i * 1) = idCs (l.take i) := by
    rw [← hROW]
    simp only [Array.toList_append]
    rw [List.append_assoc, List.take_append_of_le_length (by simp only [hlenT]; omega), List.take_of_length_le (by simp only [hlenT]; omega)]
  have hrz : ∀ ty, (Builtin.append_ #[62, 3] ty #[.slice (some ⟨g, 0, none⟩) i cap, .int .i64 ((n : Int) + 1 - (i : Int))]).run Tryz.prog w = .ok (.slice (some ⟨w.heap.size, 0, none⟩) (n + 1) G) (w.drew.alloc (.cells ROW 9)) := fun ty => by
    have h := Lib.run_append_grow_zeros w 62 3 ty 9 i0 _ .i64 .i64 Tryz.underlying62 Tryz.underlying3 hi hz0 (some ⟨g, 0, none⟩) i cap (idCs (l.take i)) hold (n + 1 - i) (by omega) (by omega) (by omega) (by omega) (by rw [hz2]; omega) (by rw [hz2, hik]; exact growslice_fits hroom (by omega))
    rw [hik, hG, hROW] at h
    rw [hkk]
    exact h
  obtain ⟨W1, hW1⟩ : ∃ W1, w.drew.alloc (.cells ROW 9) = W1 := ⟨_, rfl⟩
  rw [hW1] at hrz
  have hN : W1.heap[w.heap.size]? = some (.cells ROW 9 (0, 0)) := by rw [← hW1]; exact heap_alloc_new w.drew _
  have hold1 : ∀ k, k < w.heap.size → W1.heap[k]? = w.heap[k]? := fun k hk => by rw [← hW1]; exact heap_alloc_old w.drew _ hk
  obtain ⟨cur1, hcur1⟩ : ∃ c, laidR ROW (i * 1) (idCs [x]) = c := ⟨_, rfl⟩
  have hf1 : i * 1 + (idCs [x]).length ≤ ROW.size := by rw [hlenX, hRs]; omega
  have hs1 : cur1.size = G * 1 := by rw [← hcur1, laidR_size hf1, hRs]
  have ht1 : cur1.toList.take ((i + 1) * 1) = idCs (l.take i) ++ idCs [x] := by rw [← hcur1, laidR_take hf1 (by rw [hlenX]; omega), hRt]
  obtain ⟨cur2, hcur2⟩ : ∃ c, laidR cur1 ((i + 1) * 1) (idCs (l.drop i)) = c := ⟨_, rfl⟩
  have hf2 : (i + 1) * 1 + (idCs (l.drop i)).length ≤ cur1.size := by rw [hlenD, hs1]; omega
  have hs2 : cur2.size = G * 1 := by rw [← hcur2, laidR_size hf2, hs1]
  have hfinl : idCs (l.take i) ++ idCs [x] ++ idCs (l.drop i) = idCs (l.take i ++ x :: l.drop i) := by rw [← idCs_app, ← idCs_app, List.append_assoc]; rfl
  have ht2 : cur2.toList.take ((n + 1) * 1) = idCs (l.take i ++ x :: l.drop i) := by rw [← hcur2, laidR_take hf2 (by rw [hlenD]; omega), ht1, hfinl]
  have hcpA : ∀ (W : World), W.heap = W1.heap → ∀ ty dc, (Builtin.copy_ #[62, 62] ty #[.slice (some ⟨w.heap.size, i * 1, none⟩) (n + 1 - i) dc, .slice (some ⟨vb, 0, none⟩) 1 1]).run Tryz.prog W = .ok (goInt ((1 : Nat) : Int)) (W.setRow w.heap.size cur1) := fun W hWh ty dc => by
    have := run_copy_rowZ (P := Tryz.prog) W 62 62 ty 9 i0 1 w.heap.size (i * 1) (n + 1 - i) dc ⟨vb, 0, none⟩ 1 1 ROW 9 (idCs [x]) Tryz.underlying62 hi hz1 (by rw [hWh]; exact hN) 1 (by simp only [Nat.min_def]; split <;> omega) (by rw [hlenX]) (fun j u hj => by
      rw [Addr.add_lit, Nat.zero_add, cell_of_row W vb j _ _ _ (by rw [hWh, hold1 _ hvl]; exact hvb)]
      simpa using hj) hf1 hone
    rw [hcur1] at this
    exact this
  have hcpB : ∀ (W : World), W.heap = (W1.setRow w.heap.size cur1).heap → ∀ ty dc sc, (Builtin.copy_ #[62, 62] ty #[.slice (some ⟨w.heap.size, (i + 1) * 1, none⟩) (n - i) dc, .slice (some ⟨g, i * 1, none⟩) (n - i) sc]).run Tryz.prog W = .ok (goInt ((n - i : Nat) : Int)) (W.setRow w.heap.size cur2) := fun W hWh ty dc sc => by
    have := run_copy_rowZ (P := Tryz.prog) W 62 62 ty 9 i0 1 w.heap.size ((i + 1) * 1) (n - i) dc ⟨g, i * 1, none⟩ (n - i) sc cur1 9 (idCs (l.drop i)) Tryz.underlying62 hi hz1 (by rw [hWh]; exact setRow_blk hN cur1) (n - i) (by simp only [Nat.min_def]; split <;> omega) hlenD (fun j u hj => by
      have := hsrcD j u hj
      rw [Addr.add_lit] at this ⊢
      rw [cell_of_row w g _ cur _ _ hg] at this
      rw [cell_of_row W g _ cur _ _ (by rw [hWh, setRow_else _ (by omega), hold1 _ hgl]; exact hg)]
      exact this) hf2 honeD
    rw [hcur2] at this
    exact this
  have HT2 := hide ht2
  have HS2 := hide hs2
  have HN := hide hN
  have HW1 := hide hW1
  have HGM := hide hGm
  unfold maxLen at hGm
  have hic : ¬ cap = i := by omega
  have hGi : ¬ G = i := by omega
  have hGi1 : ¬ G = i + 1 := by omega
  have hwi : IntKind.i64.wrap ((i : Int) + 1) = (i : Int) + 1 := by rw [IntKind.wrap_i64]; omega
  have hwn : IntKind.i64.wrap ((n : Int) + 1) = (n : Int) + 1 := by rw [IntKind.wrap_i64]; omega
  have hwk : IntKind.i64.wrap ((n : Int) + 1 - (i : Int)) = (n : Int) + 1 - (i : Int) := by rw [IntKind.wrap_i64]; omega
  have hb1 : (0 : Int) ≤ (i : Int) + 1 := by omega
  have htn : ((i : Int) + 1).toNat = i + 1 := by omega
  have hb3 : (i : Int) ≤ (n : Int) + 1 := by omega
  have hin2 : i ≤ n := by omega
  have hin : ¬ ((i : Int) = (n : Int)) := by omega
  have hcap2 : (cap : Int) < (n : Int) + 1 := by omega
  have hi1 : (i : Int) ≤ (n : Int) := by omega
  clear hsrcD hA hlenX hlenD hlenT hone honeD htake hg hvb hN hW1 hold1 hold hkk hik hG hROW hRs hRt hf1 hs1 ht1 hf2 hs2 ht2 hfinl hcur1 hcur2
  simp only [Nat.mul_one] at hcpA hcpB
  go_enter Tryz.func198, Tryz.ntmps198
  go_wp2_with (first
    | (at_builtin; refine Lib.wpList_append_run _ rfl _ _ _ _ rfl _ _ rfl rfl _ _ (hrz _) ?_)
    | (at_builtin; refine wpList_copy_runI _ rfl _ _ 62 62 rfl _ _ rfl rfl (hcpA _ rfl _ _) ?_))
  go_region_law (refine step_copy_runI rfl _ _ 62 62 rfl (.slice (some ⟨w.heap.size, i + 1, none⟩) (n - i) (G - (i + 1))) (.slice (some ⟨g, i, none⟩) (n - i) (cap - i)) (by simp [Act.eval, Act.put]) (by simp [Act.eval, Act.put]) (hcpB ((W1.setRow w.heap.size cur1).drew) rfl 3 (G - (i + 1)) (cap - i)) ?_)
  go_wp2_with fail
  go_ret
  have k1 : Keeps [] w W1 := by rw [← HW1.out]; exact ((Keeps.refl [] w).drew).alloc _
  have hg9 : ∀ g', g' ∈ [w.heap.size] → ¬ g' < w.heap.size := fun g' hg' => by simp at hg'; omega
  have k2 := keeps_on k1 (setRow_keeps W1 w.heap.size cur1) (fun g' hg' hlt => (hg9 g' hg' hlt).elim)
  have k4 := keeps_on (k2.drew) (setRow_keeps _ w.heap.size cur2) (fun g' hg' hlt => (hg9 g' hg' hlt).elim)
  exact ⟨G, rfl, ⟨by rw [idCs_len1]; simp [hl]; omega, .inr ⟨w.heap.size, G, cur2, rfl, hB, setRow_blk (setRow_blk HN.out cur1) cur2, hGn, HGM.out, HS2.out, HT2.out⟩⟩, k4⟩
theorem insert198_any (w : World) (B i : Nat) (v : Value) (l : List (List UInt8)) (x : (List UInt8)) (vb : Nat) (h : w.ownsRow B 9 1 v l.length (idCs l)) (hi' : i ≤ l.length) (hn : l.length ≤ 1000) (hvb : w.heap[vb]? = some (.cells (idCs [x]).toArray 9 (0, 0))) (hne : v.ownBlock ≠ some vb) (hB : B ≤ w.heap.size) :
    Calls Tryz.prog 198 #[v, .int .i64 i, .slice (some ⟨vb, 0, none⟩) 1 1] w fun e w' => ∃ v', e = .returned v' ∧ w'.ownsRow B 9 1 v' (l.length + 1) (idCs (l.take i ++ x :: l.drop i)) ∧ Keeps v.ownBlock.toList w w' ∧ (v'.ownBlock = v.ownBlock ∨ v'.ownBlock = some w.heap.size) := by
  by_cases hil : i = l.length
  · subst hil
    refine (insert198_end w B v l.length l x vb h hn hvb hB).mono ?_
    rintro e w' ⟨v', rfl, ho, hk, hv⟩
    refine ⟨v', rfl, ?_, hk, hv⟩
    rw [List.take_of_length_le (Nat.le_refl _), List.drop_eq_nil_of_le (Nat.le_refl _), idCs_app]
    exact ho
  · rcases h.2 with ⟨rfl, h0⟩ | ⟨g, cap, cur, rfl, hBg, hg, hnc, hcap, hcs, htake⟩
    · omega
    · by_cases hroom : l.length + 1 ≤ cap
      · refine (insert198_shift w B g l.length cap i cur l x vb rfl hBg hg hcs htake hcap (by omega) hroom hn hvb (fun e => hne (by rw [e]; rfl))).mono ?_
        rintro e w' ⟨rfl, ho, hk⟩
        exact ⟨_, rfl, ho, hk, .inl rfl⟩
      · refine (insert198_grow w B g l.length cap i cur l x vb rfl hB hg htake (by omega) hnc (by omega) hn hvb).mono ?_
        rintro e w' ⟨G, rfl, ho, hk⟩
        exact ⟨_, rfl, ho, hk.to (by simp), .inr rfl⟩
end Go.Proofs.YtlcljanibjdejaaGreat
namespace Go.Proofs.YtlcljanibjdejaaGreat
open Go.RowKit Go.Maps
/-- How many entries stand ahead of one. -/
def aheadN (l : List En) (x : En) : Nat := (l.takeWhile (aheadE · x)).length
theorem aheadN_le (l : List En) (x : En) : aheadN l x ≤ l.length := by
  unfold aheadN
  exact (List.takeWhile_sublist _).length_le
theorem aheadN_iff {l : List En} (h : SortedE l) (x : En) (k : Nat) (hk : k < l.length) : ordE l[k] x < 0 ↔ k < aheadN l x := by
  rw [ordE_neg]
  have hs := List.takeWhile_append_dropWhile (p := (aheadE · x)) (l := l)
  constructor
  · intro ha
    rcases Nat.lt_or_ge k (aheadN l x) with h1 | h1
    · exact h1
    · have hm : l[k] ∈ l.dropWhile (aheadE · x) := by
        have e : l[k] = (l.takeWhile (aheadE · x) ++ l.dropWhile (aheadE · x))[k]'(by rw [hs]; exact hk) := by simp only [hs]
        rw [e, List.getElem_append_right h1]
        exact List.getElem_mem _
      rw [dropWhile_sorted x l h _ hm] at ha
      cases ha
  · intro h1
    have hm : l[k] ∈ l.takeWhile (aheadE · x) := by
      have e : l[k] = (l.takeWhile (aheadE · x) ++ l.dropWhile (aheadE · x))[k]'(by rw [hs]; exact hk) := by simp only [hs]
      rw [e, List.getElem_append_left h1]
      exact List.getElem_mem _
    exact takeWhile_mem (f := (aheadE · x)) hm
theorem aheadN_take (l : List En) (x : En) : l.take (aheadN l x) = l.takeWhile (aheadE · x) := by
  have hs := List.takeWhile_append_dropWhile (p := (aheadE · x)) (l := l)
  exact (congrArg (List.take (aheadN l x)) hs.symm).trans (List.take_left ..)
theorem aheadN_drop (l : List En) (x : En) : l.drop (aheadN l x) = l.dropWhile (aheadE · x) := by
  have hs := List.takeWhile_append_dropWhile (p := (aheadE · x)) (l := l)
  exact (congrArg (List.drop (aheadN l x)) hs.symm).trans (List.drop_left ..)
set_option maxRecDepth 8000 in
set_option maxHeartbeats 16000000 in
theorem search191_any (w : World) (v : Value) (l : List En) (x : En) (hv : Lies w v l.length 5 (ensCells l)) (hs : SortedE l) (hl : l.length ≤ 1000000) :
    Calls Tryz.prog 191 #[v, .agg (enCells x).toArray, .func (.func 192) #[] #[]] w fun e w' => ∃ b, e = .returned (.tuple #[.int .i64 (aheadN l x), .bool b]) ∧ Keeps [] w w' := by
  have hE : Enters 192 := enters_of Tryz.func192 (by kernel_rfl) (by kernel_rfl)
  unfold Enters at hE
  obtain ⟨o, c, rfl, h1, h2⟩ := hv.form
  unfold maxLen at h2
  obtain ⟨m, hm⟩ : ∃ m, aheadN l x = m := ⟨_, rfl⟩
  have hmn : m ≤ l.length := by rw [← hm]; exact aheadN_le l x
  have hiff := hide (fun k (hk : k < l.length) => hm ▸ aheadN_iff hs x k hk)
  rw [hm]
  obtain ⟨W, hW⟩ : ∃ W, w.alloc (.cells (enCells x).toArray 75) = W := ⟨_, rfl⟩
  have hkW : Keeps [] w W := by rw [← hW]; exact (Keeps.refl [] w).alloc _
  have hb := (nblk_new rfl hW).1
  have HV := hide hv
  have HB := hide hb
  have HKW := hide hkW
  have HW := hide hW
  have hord := hide (fun y w => order_any y x w)
  clear hkW hb hW hv hs hm
  go_enter Tryz.func191, Tryz.ntmps191
  go_upto_region 1 with fail
  rw [HW.out]
  go_wp2_with fail
  go_loopw [9, 10] (fun a b wr => ∃ lo hi : Nat, a = .int .i64 lo ∧ b = .int .i64 hi ∧ lo ≤ m ∧ m ≤ hi ∧ hi ≤ l.length ∧ Keeps [] W wr) (fun a b _ => (intOf b - intOf a).toNat)
  case atStart => exact ⟨0, l.length, rfl, rfl, Nat.zero_le _, hmn, Nat.le_refl _, Keeps.refl _ _⟩
  case round =>
    obtain ⟨lo, hi, rfl, rfl, hlo, hhi, hin, hkr⟩ := hrel
    by_cases hlt : lo < hi
    · obtain ⟨M, hM1, hM2, hMI⟩ : ∃ M : Nat, lo ≤ M ∧ M < hi ∧ ((lo : Int) + (hi : Int)) / 2 = (M : Int) := ⟨(lo + hi) / 2, by omega, by omega, by omega⟩
      have hmid : M < l.length := by omega
      obtain ⟨g, o0, rfl, hc⟩ := (HV.out.keeps (HKW.out.trans hkr)).addr (by omega)
      have hm0 : (0 : Int) ≤ (M : Int) := by omega
      have hm1 : (M : Int) < (l.length : Int) := by omega
      have hcell := lies_en hc _ hmid
      have hif := hiff.out _ hmid
      have HORD := hide (hord.out l[M])
      obtain ⟨OD, hOD⟩ : ∃ OD, ordE l[M] x = OD := ⟨_, rfl⟩
      rw [hOD] at hif HORD
      have hS0 : SP wr w.heap.size x g (o0 + M * 5) l[M] wr := ⟨Keeps.refl _ _, ⟨ncell_all hkr HB.out 0, ncell_all hkr HB.out 1, ncell_all hkr HB.out 2, ncell_all hkr HB.out 3, ncell_all hkr HB.out 4⟩, hcell⟩
      have HKR := hide hkr
      have HMI := hide hMI
      clear hc hcell hOD hkr hMI
      unfold enCells at HORD
      generalize l[M] = y at *
      by_cases hneg : OD < 0
      · have hd : decide (OD < 0) = true := decide_eq_true hneg
        have hlm := hif.1 hneg
        clear hif hneg
        go_upto_region 5 with fail
        rw [HMI.out]
        have hS1 := hS0
        obtain ⟨_, ⟨b0', b1, b2, b3, b4⟩, c0, c1, c2, c3, c4⟩ := hS1
        go_region_held3 (SP wr w.heap.size x g (o0 + M * 5) y) ((first | assumption | (refine SP.keeps hS0 ?_; first | exact (Keeps.refl [] wr) | exact (Keeps.refl [] wr).drew | exact (‹SP wr w.heap.size x g (o0 + M * 5) y _›).1.trans hkx | exact (‹SP wr w.heap.size x g (o0 + M * 5) y _›).1.alloc _ | exact (‹SP wr w.heap.size x g (o0 + M * 5) y _›).1.drewN _)))
          (first
            | (go_at_call 192; refine (HORD.out _).mono ?_; rintro e w7 ⟨rfl, hkx⟩))
        all_goals go_wp2_with fail
        all_goals go_roundw
        case rel => exact ⟨M + 1, hi, by go_num, rfl, by omega, hhi, hin, HKR.out.trans (‹SP wr w.heap.size x g (o0 + M * 5) y _›).1⟩
        case measure => simp [intOf]; omega
      · have hd : decide (OD < 0) = false := decide_eq_false hneg
        have hlm : ¬ M < m := fun h => hneg (hif.2 h)
        clear hif hneg
        go_upto_region 5 with fail
        rw [HMI.out]
        have hS1 := hS0
        obtain ⟨_, ⟨b0', b1, b2, b3, b4⟩, c0, c1, c2, c3, c4⟩ := hS1
        go_region_held3 (SP wr w.heap.size x g (o0 + M * 5) y) ((first | assumption | (refine SP.keeps hS0 ?_; first | exact (Keeps.refl [] wr) | exact (Keeps.refl [] wr).drew | exact (‹SP wr w.heap.size x g (o0 + M * 5) y _›).1.trans hkx | exact (‹SP wr w.heap.size x g (o0 + M * 5) y _›).1.alloc _ | exact (‹SP wr w.heap.size x g (o0 + M * 5) y _›).1.drewN _)))
          (first
            | (go_at_call 192; refine (HORD.out _).mono ?_; rintro e w7 ⟨rfl, hkx⟩))
        all_goals go_wp2_with fail
        all_goals go_roundw
        case rel => exact ⟨lo, M, rfl, rfl, hlo, by omega, by omega, HKR.out.trans (‹SP wr w.heap.size x g (o0 + M * 5) y _›).1⟩
        case measure => simp [intOf]; omega
    · have hlm : lo = m := by omega
      subst hlm
      have HKR := hide hkr
      by_cases hlt2 : lo < l.length
      · obtain ⟨g, o0, rfl, hc⟩ := (HV.out.keeps (HKW.out.trans hkr)).addr (by omega)
        have hm0 : (0 : Int) ≤ (lo : Int) := by omega
        have hm1 : (lo : Int) < (l.length : Int) := by omega
        have hd : decide ((lo : Int) < (l.length : Int)) = true := decide_eq_true hm1
        have hcell := lies_en hc _ hlt2
        have HORD := hide (hord.out l[lo])
        obtain ⟨OD, hOD⟩ : ∃ OD, ordE l[lo] x = OD := ⟨_, rfl⟩
        rw [hOD] at HORD
        have hS0 : SP wr w.heap.size x g (o0 + lo * 5) l[lo] wr := ⟨Keeps.refl _ _, ⟨ncell_all hkr HB.out 0, ncell_all hkr HB.out 1, ncell_all hkr HB.out 2, ncell_all hkr HB.out 3, ncell_all hkr HB.out 4⟩, hcell⟩
        clear hc hcell hOD hkr
        unfold enCells at HORD
        generalize l[lo] = y at *
        go_upto_region 8 with fail
        have hS1 := hS0
        obtain ⟨_, ⟨b0', b1, b2, b3, b4⟩, c0, c1, c2, c3, c4⟩ := hS1
        go_region_held3 (SP wr w.heap.size x g (o0 + lo * 5) y) ((first | assumption | (refine SP.keeps hS0 ?_; first | exact (Keeps.refl [] wr) | exact (Keeps.refl [] wr).drew | exact (‹SP wr w.heap.size x g (o0 + lo * 5) y _›).1.trans hkx | exact (‹SP wr w.heap.size x g (o0 + lo * 5) y _›).1.alloc _ | exact (‹SP wr w.heap.size x g (o0 + lo * 5) y _›).1.drewN _)))
          (first
            | (go_at_call 192; refine (HORD.out _).mono ?_; rintro e w7 ⟨rfl, hkx⟩))
        all_goals go_wp2_with fail
        all_goals go_ret2
        all_goals exact ⟨_, rfl, HKW.out.trans (HKR.out.trans (‹SP wr w.heap.size x g (o0 + lo * 5) y _›).1)⟩
      · have hd : decide ((lo : Int) < (l.length : Int)) = false := decide_eq_false (by omega)
        clear hkr
        go_upto_region 8 with fail
        go_quiet (fail)
        go_wp2_with fail
        go_ret2
        exact ⟨_, rfl, HKW.out.trans (HKR.out.drewN _)⟩
end Go.Proofs.YtlcljanibjdejaaGreat
namespace Go.Proofs.YtlcljanibjdejaaGreat
open Go.RowKit Go.Maps
theorem nan272_any (x : List UInt8) (w : World) : Calls Tryz.prog 272 #[.string ⟨x.toArray⟩] w fun e w' => e = .returned (.bool false) ∧ w' = w := by
  have h := strNe x x
  rw [decide_eq_false (fun h => h rfl)] at h
  go_enter Tryz.func272, Tryz.ntmps272
  go_wp2_with fail
  go_ret
  exact ⟨by simp, rfl⟩
theorem less271_any (x y : List UInt8) (w : World) : Calls Tryz.prog 271 #[.string ⟨x.toArray⟩, .string ⟨y.toArray⟩] w fun e w' => e = .returned (.bool (lessL x y)) ∧ w' = w := by
  have n := hide (fun x w => nanStr_any x w)
  have b := bytesLess_L x y
  obtain ⟨R, hR⟩ : ∃ R, lessL x y = R := ⟨_, rfl⟩
  rw [hR] at b ⊢
  clear hR
  go_enter Tryz.func271, Tryz.ntmps271
  go_wp2_with fail
  refine (n.out _ _).mono ?_
  rintro e w1 ⟨rfl, h9⟩
  subst h9
  go_wp2_with fail
  go_ret
  exact ⟨rfl, rfl⟩
/-- How many ids stand ahead of one. -/
def aheadI (l : List (List UInt8)) (x : List UInt8) : Nat := (l.takeWhile (lessL · x)).length
theorem aheadI_le (l : List (List UInt8)) (x : List UInt8) : aheadI l x ≤ l.length := (List.takeWhile_sublist _).length_le
theorem aheadI_iff {l : List (List UInt8)} (h : SortedI l) (x : List UInt8) (k : Nat) (hk : k < l.length) : lessL l[k] x = true ↔ k < aheadI l x := by
  have hs := List.takeWhile_append_dropWhile (p := (lessL · x)) (l := l)
  constructor
  · intro ha
    rcases Nat.lt_or_ge k (aheadI l x) with h1 | h1
    · exact h1
    · have hm : l[k] ∈ l.dropWhile (lessL · x) := by
        have e : l[k] = (l.takeWhile (lessL · x) ++ l.dropWhile (lessL · x))[k]'(by rw [hs]; exact hk) := by simp only [hs]
        rw [e, List.getElem_append_right h1]
        exact List.getElem_mem _
      rw [dropWhile_sortedI x l h _ hm] at ha
      cases ha
  · intro h1
    have hm : l[k] ∈ l.takeWhile (lessL · x) := by
      have e : l[k] = (l.takeWhile (lessL · x) ++ l.dropWhile (lessL · x))[k]'(by rw [hs]; exact hk) := by simp only [hs]
      rw [e, List.getElem_append_left h1]
      exact List.getElem_mem _
    exact takeWhile_memI (f := (lessL · x)) hm
theorem aheadI_take (l : List (List UInt8)) (x : List UInt8) : l.take (aheadI l x) = l.takeWhile (lessL · x) := by
  have hs := List.takeWhile_append_dropWhile (p := (lessL · x)) (l := l)
  exact (congrArg (List.take (aheadI l x)) hs.symm).trans (List.take_left ..)
theorem aheadI_drop (l : List (List UInt8)) (x : List UInt8) : l.drop (aheadI l x) = l.dropWhile (lessL · x) := by
  have hs := List.takeWhile_append_dropWhile (p := (lessL · x)) (l := l)
  exact (congrArg (List.drop (aheadI l x)) hs.symm).trans (List.drop_left ..)
/-- Whether one is there is told at the place where it would stand. -/
theorem aheadI_mem {l : List (List UInt8)} (h : SortedI l) (x : List UInt8) : x ∈ l ↔ ∃ hk : aheadI l x < l.length, l[aheadI l x] = x := by
  constructor
  · intro hx
    obtain ⟨k, hk, e⟩ := List.getElem_of_mem hx
    have hnk : ¬ k < aheadI l x := fun hl => by
      have := (aheadI_iff h x k hk).2 hl
      rw [e, lessL_irrefl] at this
      cases this
    have hm : aheadI l x < l.length := by omega
    refine ⟨hm, ?_⟩
    have hn : ¬ lessL l[aheadI l x] x = true := fun ha => by
      have := (aheadI_iff h x _ hm).1 ha
      omega
    rcases Nat.lt_or_ge (aheadI l x) k with hlt | hge
    · have := List.pairwise_iff_getElem.1 h _ _ hm hk hlt
      rw [e] at this
      exact absurd this hn
    · have : aheadI l x = k := by omega
      simp only [this]
      exact e
  · rintro ⟨hk, e⟩
    rw [← e]
    exact List.getElem_mem _
set_option maxRecDepth 8000 in
set_option maxHeartbeats 16000000 in
theorem search197_any (w : World) (v : Value) (l : List (List UInt8)) (x : List UInt8) (hv : Lies w v l.length 1 (idCs l)) (hs : SortedI l) (hl : l.length ≤ 1000000) :
    Calls Tryz.prog 197 #[v, .string ⟨x.toArray⟩] w fun e w' => e = .returned (.tuple #[.int .i64 (aheadI l x), .bool (decide (x ∈ l))]) ∧ w' = w := by
  obtain ⟨o, c, rfl, h1, h2⟩ := hv.form
  unfold maxLen at h2
  have hmem := (aheadI_mem hs x).trans List.getElem?_eq_some_iff.symm
  obtain ⟨R, hR⟩ : ∃ R, decide (x ∈ l) = R := ⟨_, rfl⟩
  rw [hR]
  obtain ⟨m, hm⟩ : ∃ m, aheadI l x = m := ⟨_, rfl⟩
  have hmn : m ≤ l.length := by rw [← hm]; exact aheadI_le l x
  have hiff := hide (fun k (hk : k < l.length) => hm ▸ aheadI_iff hs x k hk)
  rw [hm] at hmem ⊢
  have HMEM := hide hmem
  have HR := hide hR
  have HV := hide hv
  have hls := hide (fun y w => less271_any y x w)
  have hna := hide (fun y w => nan272_any y w)
  clear hv hs hm hmem hR
  go_enter Tryz.func197, Tryz.ntmps197
  go_wp2_with fail
  go_loopw [7, 8] (fun a b wr => ∃ lo hi : Nat, a = .int .i64 lo ∧ b = .int .i64 hi ∧ lo ≤ m ∧ m ≤ hi ∧ hi ≤ l.length ∧ wr = w) (fun a b _ => (intOf b - intOf a).toNat)
  case atStart => exact ⟨0, l.length, rfl, rfl, Nat.zero_le _, hmn, Nat.le_refl _, rfl⟩
  case round =>
    obtain ⟨lo, hi, rfl, rfl, hlo, hhi, hin, rfl⟩ := hrel
    by_cases hlt : lo < hi
    · obtain ⟨M, hM1, hM2, hMI⟩ : ∃ M : Nat, lo ≤ M ∧ M < hi ∧ ((lo : Int) + (hi : Int)) / 2 = (M : Int) := ⟨(lo + hi) / 2, by omega, by omega, by omega⟩
      have hmid : M < l.length := by omega
      obtain ⟨g, o0, rfl, hc⟩ := HV.out.addr (by omega)
      have hm0 : (0 : Int) ≤ (M : Int) := by omega
      have hm1 : (M : Int) < (l.length : Int) := by omega
      have a0 := hc _ _ (idCs_at l M hmid)
      have hif := hiff.out _ hmid
      have HMI := hide hMI
      clear hc hMI
      generalize l[M] = y at *
      obtain ⟨OD, hOD⟩ : ∃ OD, lessL y x = OD := ⟨_, rfl⟩
      have HLS := hide (hls.out y)
      rw [hOD] at hif HLS
      clear hOD
      cases OD
      · have hlm : ¬ M < m := fun h => by have := hif.2 h; cases this
        clear hif
        go_upto_region 5 with fail
        rw [HMI.out]
        go_wp2_with fail
        refine (HLS.out _).mono ?_
        rintro e w3 ⟨rfl, h9⟩
        subst h9
        go_wp2_with fail
        go_roundw
        case rel => exact ⟨lo, M, rfl, rfl, hlo, by omega, by omega, trivial⟩
        case measure => simp [intOf]; omega
      · have hlm := hif.1 rfl
        clear hif
        go_upto_region 5 with fail
        rw [HMI.out]
        go_wp2_with fail
        refine (HLS.out _).mono ?_
        rintro e w3 ⟨rfl, h9⟩
        subst h9
        go_wp2_with fail
        go_roundw
        case rel => exact ⟨M + 1, hi, by go_num, rfl, by omega, hhi, hin, trivial⟩
        case measure => simp [intOf]; omega
    · have hlm : lo = m := by omega
      subst hlm
      by_cases hlt2 : lo < l.length
      · obtain ⟨g, o0, rfl, hc⟩ := HV.out.addr (by omega)
        have hm0 : (0 : Int) ≤ (lo : Int) := by omega
        have hm1 : (lo : Int) < (l.length : Int) := by omega
        have hd : decide ((lo : Int) < (l.length : Int)) = true := decide_eq_true hm1
        have a0 := hc _ _ (idCs_at l lo hlt2)
        have hRR : R = decide (l[lo] = x) := by
          rw [← HR.out]
          exact decide_eq_decide.2 (HMEM.out.trans (List.getElem?_eq_some_iff.trans ⟨fun ⟨_, e⟩ => e, fun e => ⟨hlt2, e⟩⟩))
        clear hc
        have heq : (l[lo] == x) = R := by rw [hRR]; exact Bool.beq_eq_decide_eq _ _
        clear hRR
        generalize l[lo] = y at *
        cases R
        · go_upto_region 8 with fail
          go_wp2_with fail
          refine (hna.out _ _).mono ?_
          rintro e w3 ⟨rfl, h9⟩
          subst h9
          go_wp2_with fail
          go_ret2
          exact ⟨rfl, rfl⟩
        · go_upto_region 8 with fail
          go_wp2_with fail
          go_ret2
          exact ⟨rfl, rfl⟩
      · have hd : decide ((lo : Int) < (l.length : Int)) = false := decide_eq_false (by omega)
        have hRR : R = false := by
          rw [← HR.out]
          exact decide_eq_false (fun h => by obtain ⟨hk, _⟩ := List.getElem?_eq_some_iff.1 (HMEM.out.1 h); omega)
        subst hRR
        go_upto_region 8 with fail
        go_wp2_with fail
        go_ret2
        exact ⟨rfl, rfl⟩
end Go.Proofs.YtlcljanibjdejaaGreat
