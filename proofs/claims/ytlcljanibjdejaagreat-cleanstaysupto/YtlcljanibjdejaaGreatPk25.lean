/- An element in the light of a base: element. An element is put, or left away: put's closure. Nodes are put, each as it must be: put, cleaned. -/
import Derived.Test.YtlcljanibjdejaaGreatPk24
import Derived.RegionDies
namespace Go.Proofs.YtlcljanibjdejaaGreat
open Go.RowKit Go.Maps

theorem enters296 : Enters 296 := enters_of Tryz.func296 (by kernel_rfl) (by kernel_rfl)

/-- An attribute is kept if it can stand. -/
theorem keep1_caught (base n : List UInt8) (a : Pair) (B q cb nb ab : Nat) (av : Value) (kl : List Pair) (w : World) (hM : HasMax w) (hb : base.length ≤ 3000) (ha : a.2.length ≤ maxLen) (hl : kl.length ≤ 1000000) (hB : B ≤ w.heap.size)
    (hK : Kp w B q n av kl) (hcb : w.heap[cb]? = some (.cells #[.string ⟨base.toArray⟩] 126 (0, 0))) (hnb : w.cell? ⟨nb, 0, none⟩ = some (.string ⟨n.toArray⟩)) (hab : w.heap[ab]? = some (.cells #[.string ⟨a.1.toArray⟩, .string ⟨a.2.toArray⟩] 52 (0, 0))) :
    Calls Tryz.prog 64 #[.func (.func 296) #[] #[.pointer (some ⟨q, 0, none⟩), .pointer (some ⟨cb, 0, none⟩), .pointer (some ⟨nb, 0, none⟩), .pointer (some ⟨ab, 0, none⟩)]] w fun e w' =>
      (∃ x, e = .returned (.int .i64 x)) ∧ (∃ av', Kp w' B q n av' (kl ++ (if attrE n (toldA base a) = 0 then [toldA base a] else []))) ∧ Keeps (q :: av.ownBlock.toList) w w' := by
  have hql := lt_of_block hK.blk
  have hav : ∀ g, av.ownBlock = some g → g < w.heap.size := fun g hg => (hK.row.lt g hg).2
  have hc := caught_any 296 #[.pointer (some ⟨q, 0, none⟩), .pointer (some ⟨cb, 0, none⟩), .pointer (some ⟨nb, 0, none⟩), .pointer (some ⟨ab, 0, none⟩)]
    (fun w2 => attrE n (toldA base a) = 0 ∧ ∃ av', Kp w2 B q n av' (kl ++ [toldA base a]) ∧ ∀ g, av'.ownBlock = some g → g ≠ w.heap.size) (fun _ w2 => attrE n (toldA base a) ≠ 0 ∧ Kp w2 B q n av kl) (q :: av.ownBlock.toList) w enters296
    (fun i hi => by
      rcases List.mem_cons.1 hi with rfl | hi
      · exact hql
      · exact hav i (by simpa using hi))
    (fun w2 w3 _ h hk => ⟨h.1, by
      obtain ⟨av', h1, h2⟩ := h.2
      exact ⟨av', h1.keeps hk (by simp; omega) (fun g hg hm => h2 g hg (by simpa using hm)), h2⟩⟩)
    (fun x w2 w3 _ h hk => ⟨h.1, h.2.keeps hk (by simp; omega) (fun g hg hm => by have := hav g hg; simp at hm; omega)⟩)
    (fun w1 hk hsz => by
      have n0 : ∀ g, g ∉ ([] : List Nat) := fun _ => List.not_mem_nil
      have hK1 := hK.keeps hk (n0 _) (fun _ _ => n0 _)
      have hc1 := (hk.block _ (lt_of_block hcb) (n0 _)).trans hcb
      have ha1 := (hk.block _ (lt_of_block hab) (n0 _)).trans hab
      have hn1 := cell_keeps hk hnb
      have hM1 := hM.keeps hk (n0 _)
      by_cases hE : attrE n (toldA base a) = 0
      · refine (keep1_yes base n a B q cb nb ab av kl w1 hM1 hb ha hl (Nat.le_trans hB hk.size) hK1 hc1 hE hn1 ha1).mono ?_
        rintro e w2 ⟨⟨rfl, av', h1, h2⟩, h3⟩
        refine ⟨.inl ⟨rfl, hE, av', h1, fun g hg => ?_⟩, h3⟩
        rcases h2 with h2 | ⟨g', h2, h4⟩
        · have := hav g (h2 ▸ hg); omega
        · rw [h2] at hg; simp at hg; omega
      · refine (keep1_no base n a B q cb nb ab av kl w1 hM1 hb ha hK1 hc1 hE hn1 ha1).mono ?_
        rintro e w2 ⟨⟨rfl, h1⟩, h3⟩
        exact ⟨.inr ⟨_, rfl, hE, h1⟩, h3⟩)
  refine hc.mono ?_
  rintro e w' ⟨⟨rfl, hE, av', h1, _⟩ | ⟨x, rfl, hE, h1⟩, hk⟩
  · exact ⟨⟨_, rfl⟩, ⟨av', by rw [if_pos hE]; exact h1⟩, hk⟩
  · exact ⟨⟨_, rfl⟩, ⟨av, by rw [if_neg hE, List.append_nil]; exact h1⟩, hk⟩

theorem four_set {w : World} {b : Nat} {x y z t : Value} {ty : TypeId} (h : w.heap[b]? = some (.cells #[x, y, z, t] ty (0, 0))) (u0 u1 u2 u3 : Value) : ((((w.setCell ⟨b, 0, none⟩ u0).setCell ⟨b, 1, none⟩ u1).setCell ⟨b, 2, none⟩ u2).setCell ⟨b, 3, none⟩ u3).heap[b]? = some (.cells #[u0, u1, u2, u3] ty (0, 0)) := by
  simp [World.setCell, Array.getElem?_modify, h]

theorem kept_drop (base n : List UInt8) (l : List Pair) (k : Nat) (hk : k < l.length) : keptA base n (l.drop k) = (if attrE n (toldA base l[k]) = 0 then [toldA base l[k]] else []) ++ keptA base n (l.drop (k + 1)) := by
  rw [List.drop_eq_getElem_cons hk]
  unfold keptA
  rw [List.map_cons, List.filter_cons]
  by_cases h : attrE n (toldA base l[k]) = 0
  · simp [h]
  · simp [h]
theorem kept_le (base n : List UInt8) (l : List Pair) : (keptA base n l).length ≤ l.length := by
  unfold keptA
  exact Nat.le_trans (List.length_filter_le _ _) (by simp)
theorem kept_len {base n : List UInt8} {l : List Pair} (h : ∀ p ∈ l, p.2.length ≤ maxLen) : ∀ p ∈ keptA base n l, p.2.length ≤ maxLen := by
  intro p hp
  obtain ⟨b, hb, rfl⟩ := List.mem_map.1 (List.mem_filter.1 hp).1
  exact told_len (h b hb)

set_option maxRecDepth 8000 in
set_option maxHeartbeats 8000000 in
theorem element_any (base n tx : List UInt8) (l : List Pair) (ks : List Nd) (ao ko : Option Addr) (an ac kn kc : Nat) (P : Nat → Prop) (w : World) (hM : HasMax w) (hb : base.length ≤ 3000) (hll : l.length ≤ 1000000) (hv : LiesP w P (.slice ao an ac) l.length 2 (pairCells l)) (hlen : ∀ p ∈ l, p.2.length ≤ maxLen)
    (hcl : ∀ w1, Keeps [] w w1 → Calls Tryz.prog 91 #[.agg #[.string ⟨base.toArray⟩], .slice ko kn kc] w1 fun e w' => ∃ o m c, e = .returned (.slice o m c) ∧ Ns w' (fun g => w1.heap.size ≤ g) (.slice o m c) (cleanL base ks) ∧ Keeps [] w1 w') :
    Calls Tryz.prog 249 #[.agg #[.string ⟨base.toArray⟩], .agg #[.string ⟨n.toArray⟩, .slice ao an ac, .string ⟨tx.toArray⟩, .slice ko kn kc]] w fun e w' =>
      (standE n (keptA base n l) = 0 ∧ (∃ o m c o' m' c', e = .returned (.agg #[.string ⟨n.toArray⟩, .slice o m c, .string ⟨#[]⟩, .slice o' m' c']) ∧ LiesP w' (fun g => w.heap.size ≤ g) (.slice o m c) (keptA base n l).length 2 (pairCells (keptA base n l)) ∧ Ns w' (fun g => w.heap.size ≤ g) (.slice o' m' c') (cleanL base ks)) ∨
        standE n (keptA base n l) ≠ 0 ∧ e = .panicked (stopped (standE n (keptA base n l)))) ∧ Keeps [] w w' := by
  have hkl := kept_le base n l
  have hkn := kept_len (base := base) (n := n) hlen
  obtain ⟨KL, hKL⟩ : ∃ KL, keptA base n l = KL := ⟨_, rfl⟩
  rw [hKL] at hkl hkn ⊢
  have HKL := hide hKL
  clear hKL
  obtain ⟨o, c, hvv, h1, h2⟩ := hv.lies.form
  simp only [Value.slice.injEq] at hvv
  obtain ⟨rfl, rfl, rfl⟩ := hvv
  have HV := hide hv.lies
  have HL := hide hlen
  have HC := hide hcl
  have HN := hide hkn
  clear hv hlen hcl hkn
  unfold maxLen at h2
  obtain ⟨W, hW⟩ : ∃ W, (((w.alloc (.cells #[.string ⟨base.toArray⟩] 126)).alloc (.cells #[.string ⟨n.toArray⟩, .slice ao l.length ac, .string ⟨tx.toArray⟩, .slice ko kn kc] 45)).alloc (.cells #[.string ⟨#[]⟩, .slice none 0 0, .string ⟨#[]⟩, .slice none 0 0] 45)).alloc (.cells #[.string ⟨n.toArray⟩, .slice none 0 0, .string ⟨#[]⟩, .slice none 0 0] 45) = W := ⟨_, rfl⟩
  have hkW : Keeps [] w W := by rw [← hW]; exact ((((Keeps.refl [] w).alloc _).alloc _).alloc _).alloc _
  have s1 : ∀ o, (w.alloc o).heap.size = w.heap.size + 1 := fun o => by simp
  have s2 : ∀ o o', ((w.alloc o).alloc o').heap.size = w.heap.size + 1 + 1 := fun o o' => by simp
  have s3 : ∀ o o' o'', (((w.alloc o).alloc o').alloc o'').heap.size = w.heap.size + 1 + 1 + 1 := fun o o' o'' => by simp
  have s4 : W.heap.size = w.heap.size + 1 + 1 + 1 + 1 := by rw [← hW]; simp
  have hb0 : W.heap[w.heap.size]? = some (.cells #[.string ⟨base.toArray⟩] 126 (0, 0)) := by
    rw [← hW, Below.heap_alloc _ _ _ (by rw [s3]; omega), Below.heap_alloc _ _ _ (by rw [s2]; omega), Below.heap_alloc _ _ _ (by rw [s1]; omega)]
    exact heap_alloc_new w _
  have hb1 : W.heap[w.heap.size + 1]? = some (.cells #[.string ⟨n.toArray⟩, .slice ao l.length ac, .string ⟨tx.toArray⟩, .slice ko kn kc] 45 (0, 0)) := by
    rw [← hW, Below.heap_alloc _ _ _ (by rw [s3]; omega), Below.heap_alloc _ _ _ (by rw [s2]; omega), ← s1]
    exact heap_alloc_new _ _
  have hb2 : W.heap[w.heap.size + 1 + 1]? = some (.cells #[.string ⟨#[]⟩, .slice none 0 0, .string ⟨#[]⟩, .slice none 0 0] 45 (0, 0)) := by
    rw [← hW, Below.heap_alloc _ _ _ (by rw [s3]; omega), ← s2]
    exact heap_alloc_new _ _
  have hb3 : W.heap[w.heap.size + 1 + 1 + 1]? = some (.cells #[.string ⟨n.toArray⟩, .slice none 0 0, .string ⟨#[]⟩, .slice none 0 0] 45 (0, 0)) := by
    rw [← hW, ← s3]
    exact heap_alloc_new _ _
  clear s1 s2 s3
  have c11 : W.cell? ⟨w.heap.size + 1, 1, none⟩ = some (.slice ao l.length ac) := cell_blk hb1 1
  have c10 : W.cell? ⟨w.heap.size + 1, 0, none⟩ = some (.string ⟨n.toArray⟩) := cell_blk hb1 0
  have hKp : Kp W W.heap.size (w.heap.size + 1 + 1 + 1) n (.slice none 0 0) [] := ⟨hb3, World.ownsRow_nil _ _ _ _⟩
  have hres : ∀ (tmps : Array Value) (w3 : World) (cs : Array Value), cs.size = 4 → tmps.getD 4 undef = .pointer (some ⟨w.heap.size + 1 + 1, 0, none⟩) → w3.heap[w.heap.size + 1 + 1]? = some (.cells cs 45 (0, 0)) → (results Tryz.f249 tmps).run Tryz.prog w3 = .ok (.agg cs) w3 := fun tmps w3 cs hcs hp hg => results_cell_row (P := Tryz.prog) rfl tmps w3 _ 45 cs (0, 0) _ hp hg Tryz.underlying45 rfl (by rw [hcs]; kernel_rfl)
  have HR := hide hres
  have HB0 := hide hb0
  have HB1 := hide hb1
  have HB2 := hide hb2
  have HS4 := hide s4
  have HM1 := hide (hM.keeps hkW List.not_mem_nil)
  have hK0 := hide hKp
  clear hres hb0 hb1 hb2 hb3 s4 hKp
  have hmf : ∀ (fn : Fn) (first cap : Array Value) (w : World), (Instr.makeFunc fn first cap).run Tryz.prog w = .ok (.func fn first cap) w := fun _ _ _ _ => rfl
  have HW := hide hW
  clear hW
  go_enter Tryz.func249, Tryz.ntmps249
  go_upto_region 2 with fail
  rw [HW.out]
  go_wp2_with fail
  go_loopw [14] (fun i wr => ∃ k : Nat, k ≤ l.length ∧ i = .int .i64 k ∧ Hid (Keeps [w.heap.size + 1 + 1 + 1] W wr) ∧ Hid (∃ av kl, Kp wr W.heap.size (w.heap.size + 1 + 1 + 1) n av kl ∧ kl ++ keptA base n (l.drop k) = KL)) (fun i _ => l.length - (intOf i).toNat)
  case atStart => exact ⟨0, Nat.zero_le _, rfl, Keeps.refl _ _, _, [], hK0.out, HKL.out⟩
  case round =>
    obtain ⟨k, hk, rfl, hkr, hKp⟩ := hrel
    clear hK0 HKL c10 c11
    have n3 : ∀ g, g < w.heap.size + 1 + 1 + 1 → g ∉ [w.heap.size + 1 + 1 + 1] := fun g hg hm => by simp at hm; omega
    have hkw : Keeps [] w wr := keeps_on hkW hkr.out (fun g hg hlt => by simp at hg; omega)
    have e0 := (hkr.out.block _ (lt_of_block HB0.out) (n3 _ (by omega))).trans HB0.out
    have e1 := (hkr.out.block _ (lt_of_block HB1.out) (n3 _ (by omega))).trans HB1.out
    have e2 := (hkr.out.block _ (lt_of_block HB2.out) (n3 _ (by omega))).trans HB2.out
    have hMr := HM1.out.keeps hkr.out (fun h => by simp at h)
    have hWr := hkr.out.size
    obtain ⟨av, kl, hKp, hKL⟩ := hKp.out
    have HE0 := hide e0
    have HE1 := hide e1
    have HE2 := hide e2
    have HMr := hide hMr
    have HKP := hide hKp
    have HK3 := hide hKL
    have HWr := hide hWr
    have HKW := hide hkw
    clear e0 e1 e2 hMr hKp hKL hWr hkw
    by_cases hlt : k < l.length
    · obtain ⟨g, x, rfl, hc⟩ := (HV.out.keeps HKW.out).addr (by omega)
      have a0 := hc _ _ (pair_at0 l k hlt)
      have a1 := hc _ _ (pair_at1 l k hlt)
      rw [← Nat.add_assoc] at a1
      have hvl := HL.out _ (List.getElem_mem hlt)
      have hC1 := HK3.out
      rw [kept_drop base n l k hlt] at hC1
      have hkk : kl.length ≤ KL.length := by rw [← HK3.out, List.length_append]; omega
      have HC1 := hide hC1
      clear hc hC1 HK3
      generalize l[k] = p at *
      obtain ⟨pn, pv⟩ := p
      simp only at a0 a1 hvl
      have hkB : Keeps [] wr (wr.alloc (.cells #[.string ⟨pn.toArray⟩, .string ⟨pv.toArray⟩] 52)) := (Keeps.refl [] wr).alloc _
      have hbB := heap_alloc_new wr (.cells #[.string ⟨pn.toArray⟩, .string ⟨pv.toArray⟩] 52)
      have nn : ∀ g, g ∉ ([] : List Nat) := fun _ => List.not_mem_nil
      have hcall := hide (keep1_caught base n (pn, pv) W.heap.size (w.heap.size + 1 + 1 + 1) w.heap.size (w.heap.size + 1) wr.heap.size av kl _ (HMr.out.keeps hkB (nn _)) hb hvl (by omega) (Nat.le_trans HWr.out hkB.size) (HKP.out.keeps hkB (nn _) (fun _ _ => nn _)) ((hkB.block _ (lt_of_block HE0.out) (nn _)).trans HE0.out) (cell_keeps hkB (cell_blk HE1.out 0)) hbB)
      have HKB := hide hkB
      clear hkB hbB nn
      go_wp2_with fail
      refine hcall.out.mono ?_
      rintro e w1 ⟨⟨x9, rfl⟩, ⟨av', hK'⟩, hk1⟩
      clear a0 a1
      go_wp2_with fail
      go_roundw
      case rel =>
        refine ⟨k + 1, by omega, by go_num, ?_, av', _, hK', ?_⟩
        · refine keeps_on (hkr.out.trans (HKB.out.to (by simp))) hk1 (fun g hg hlt => ?_)
          rcases List.mem_cons.1 hg with rfl | hg
          · simp
          · have := (HKP.out.row.lt g (by simpa using hg)).1
            omega
        · rw [List.append_assoc]; exact HC1.out
      case measure => simp [intOf]; omega
    · have hkl2 : kl = KL := by
        rw [← HK3.out, List.drop_eq_nil_of_le (by omega)]
        simp [keptA]
      subst hkl2
      obtain ⟨o, c, hav⟩ := row_form HKP.out.row
      subst hav
      have d0 : wr.cell? ⟨w.heap.size + 1 + 1 + 1, 0, none⟩ = some (.string ⟨n.toArray⟩) := cell_blk HKP.out.blk 0
      have d1 : wr.cell? ⟨w.heap.size + 1 + 1 + 1, 1, none⟩ = some (.slice o kl.length c) := cell_blk HKP.out.blk 1
      have d2 : wr.cell? ⟨w.heap.size + 1 + 1 + 1, 2, none⟩ = some (.string ⟨#[]⟩) := cell_blk HKP.out.blk 2
      have d3 : wr.cell? ⟨w.heap.size + 1 + 1 + 1, 3, none⟩ = some (.slice none 0 0) := cell_blk HKP.out.blk 3
      have hms := hide (mustStand_any n [] kl o kl.length c (.slice none 0 0) wr HMr.out (Lies.of_row HKP.out.row) HN.out ⟨_, _, _, rfl⟩)
      go_wp2_with fail
      refine hms.out.mono ?_
      rintro e w1 ⟨⟨hE, rfl⟩ | ⟨hE, rfl⟩, hk1⟩
      · have nn : ∀ g, g ∉ ([] : List Nat) := fun _ => List.not_mem_nil
        have hcl := hide (HC.out w1 (HKW.out.trans hk1))
        have e0 := (hk1.block _ (lt_of_block HE0.out) (nn _)).trans HE0.out
        have e1 := (hk1.block _ (lt_of_block HE1.out) (nn _)).trans HE1.out
        have e2 := (hk1.block _ (lt_of_block HE2.out) (nn _)).trans HE2.out
        have hK1 := HKP.out.keeps hk1 (nn _) (fun _ _ => nn _)
        have x0 : w1.cell? ⟨w.heap.size, 0, none⟩ = some (.string ⟨base.toArray⟩) := cell_blk e0 0
        have x1 : w1.cell? ⟨w.heap.size + 1, 3, none⟩ = some (.slice ko kn kc) := cell_blk e1 3
        have HE2' := hide e2
        have HK1 := hide hK1
        clear d0 d1 d2 d3 e0 e1 e2 hK1
        go_wp2_with fail
        refine hcl.out.mono ?_
        rintro e w2 ⟨o2, m2, c2, rfl, hN2, hk2⟩
        have hK2 := HK1.out.keeps hk2 (nn _) (fun _ _ => nn _)
        have e2 := (hk2.block _ (lt_of_block HE2'.out) (nn _)).trans HE2'.out
        have y3 : w2.cell? ⟨w.heap.size + 1 + 1 + 1, 3, none⟩ = some (.slice none 0 0) := cell_blk hK2.blk 3
        have f3 : w2.frozen? ⟨w.heap.size + 1 + 1 + 1, 3, none⟩ = false := free_blk hK2.blk 3
        obtain ⟨W3, hW3⟩ : ∃ W3, w2.setCell ⟨w.heap.size + 1 + 1 + 1, 3, none⟩ (.slice o2 m2 c2) = W3 := ⟨_, rfl⟩
        have hks : Keeps [w.heap.size + 1 + 1 + 1] w2 W3 := by rw [← hW3]; exact (Keeps.refl _ w2).setCell (.inl (by simp)) _
        have b3 : W3.heap[w.heap.size + 1 + 1 + 1]? = some (.cells #[.string ⟨n.toArray⟩, .slice o kl.length c, .string ⟨#[]⟩, .slice o2 m2 c2] 45 (0, 0)) := by
          rw [← hW3]
          simp [World.setCell, Array.getElem?_modify, hK2.blk]
        have b2 := (hks.block _ (lt_of_block e2) (n3 _ (by omega))).trans e2
        have z0 : W3.cell? ⟨w.heap.size + 1 + 1 + 1, 0, none⟩ = some (.string ⟨n.toArray⟩) := cell_blk b3 0
        have z1 : W3.cell? ⟨w.heap.size + 1 + 1 + 1, 1, none⟩ = some (.slice o kl.length c) := cell_blk b3 1
        have z2 : W3.cell? ⟨w.heap.size + 1 + 1 + 1, 2, none⟩ = some (.string ⟨#[]⟩) := cell_blk b3 2
        have z3 : W3.cell? ⟨w.heap.size + 1 + 1 + 1, 3, none⟩ = some (.slice o2 m2 c2) := cell_blk b3 3
        have r0 : W3.cell? ⟨w.heap.size + 1 + 1, 0, none⟩ = some (.string ⟨#[]⟩) := cell_blk b2 0
        have r1 : W3.cell? ⟨w.heap.size + 1 + 1, 1, none⟩ = some (.slice none 0 0) := cell_blk b2 1
        have r2 : W3.cell? ⟨w.heap.size + 1 + 1, 2, none⟩ = some (.string ⟨#[]⟩) := cell_blk b2 2
        have r3 : W3.cell? ⟨w.heap.size + 1 + 1, 3, none⟩ = some (.slice none 0 0) := cell_blk b2 3
        have g0 : W3.frozen? ⟨w.heap.size + 1 + 1, 0, none⟩ = false := free_blk b2 0
        have g1 : W3.frozen? ⟨w.heap.size + 1 + 1, 1, none⟩ = false := free_blk b2 1
        have g2 : W3.frozen? ⟨w.heap.size + 1 + 1, 2, none⟩ = false := free_blk b2 2
        have g3 : W3.frozen? ⟨w.heap.size + 1 + 1, 3, none⟩ = false := free_blk b2 3
        have HB3 := hide b3
        have HB2' := hide b2
        have HK2 := hide hK2
        clear b3 b2 hK2 e2 x0 x1
        go_wp2_with fail
        have hs4 := HS4.out
        have hsz := Nat.le_trans HWr.out hk1.size
        have hk3 : Keeps [w.heap.size + 1 + 1 + 1, w.heap.size + 1 + 1] w2 ((((W3.setCell ⟨w.heap.size + 1 + 1, 0, none⟩ (.string ⟨n.toArray⟩)).setCell ⟨w.heap.size + 1 + 1, 1, none⟩ (.slice o kl.length c)).setCell ⟨w.heap.size + 1 + 1, 2, none⟩ (.string ⟨#[]⟩)).setCell ⟨w.heap.size + 1 + 1, 3, none⟩ (.slice o2 m2 c2)) :=
          ((((hks.to (by simp)).setCell (p := ⟨w.heap.size + 1 + 1, 0, none⟩) (.inl (by simp)) _).setCell (p := ⟨w.heap.size + 1 + 1, 1, none⟩) (.inl (by simp)) _).setCell (p := ⟨w.heap.size + 1 + 1, 2, none⟩) (.inl (by simp)) _).setCell (p := ⟨w.heap.size + 1 + 1, 3, none⟩) (.inl (by simp)) _
        have hN3 := (hN2.keeps hk3 (fun g hg hm => by simp at hm; omega)).mono (Q := fun g => w.heap.size ≤ g) (fun g _ hg => by omega)
        have hL3 := ((LiesP.of_row HK2.out.row (P := fun g => W.heap.size ≤ g) (fun g hg => (HK2.out.row.lt g hg).1)).keeps hk3 (fun g hg hm => by simp at hm; omega)).mono (Q := fun g => w.heap.size ≤ g) (fun g _ hg => by omega)
        exact ⟨rfl, _, HR.out _ _ #[.string ⟨n.toArray⟩, .slice o kl.length c, .string ⟨#[]⟩, .slice o2 m2 c2] rfl rfl (four_set HB2'.out _ _ _ _), .inl ⟨hE, _, _, _, _, _, _, rfl, hL3, hN3⟩, keeps_on ((HKW.out.trans hk1).trans hk2) hk3 (fun g hg hlt => by simp at hg; omega)⟩
      · exact ⟨rfl, .inr ⟨hE, rfl⟩, HKW.out.trans hk1⟩
end Go.Proofs.YtlcljanibjdejaaGreat

namespace Go.Proofs.YtlcljanibjdejaaGreat
open Go.RowKit Go.Maps

theorem enters249 : Enters 249 := enters_of Tryz.func249 (by kernel_rfl) (by kernel_rfl)
theorem enters246 : Enters 246 := enters_of Tryz.func246 (by kernel_rfl) (by kernel_rfl)
theorem enters248 : Enters 248 := enters_of Tryz.func248 (by kernel_rfl) (by kernel_rfl)

set_option maxRecDepth 4000 in
set_option maxHeartbeats 8000000 in
theorem put1_yes (base n tx : List UInt8) (kl : List Pair) (ks : List Nd) (B r ob cb nb : Nat) (s : Lst) (T : List Nat) (av kv : Value) (w : World) (h : LsT w B r s T) (hw : s.weight ≤ 3000000) (hob : w.heap[ob]? = some (.cells #[.pointer (some ⟨r, 0, none⟩)] 201 (0, 0))) (hcb : w.heap[cb]? = some (.cells #[.string ⟨base.toArray⟩] 126 (0, 0))) (hnb : w.heap[nb]? = some (.cells #[.string ⟨n.toArray⟩, av, .string ⟨tx.toArray⟩, kv] 45 (0, 0)))
    (hel : ∀ w1, Keeps [] w w1 → Calls Tryz.prog 249 #[.agg #[.string ⟨base.toArray⟩], .agg #[.string ⟨n.toArray⟩, av, .string ⟨tx.toArray⟩, kv]] w1 fun e w' => (∃ o m c o' m' c', e = .returned (.agg #[.string ⟨n.toArray⟩, .slice o m c, .string ⟨#[]⟩, .slice o' m' c']) ∧ LiesP w' (fun g => w1.heap.size ≤ g) (.slice o m c) kl.length 2 (pairCells kl) ∧ Ns w' (fun g => w1.heap.size ≤ g) (.slice o' m' c') ks) ∧ Keeps [] w1 w') :
    Calls Tryz.prog 248 #[.pointer (some ⟨ob, 0, none⟩), .pointer (some ⟨cb, 0, none⟩), .pointer (some ⟨nb, 0, none⟩)] w fun e w' => e = .returned (.tuple #[]) ∧ ∃ T', LsT w' B r (s.put (.mk n kl [] ks)) T' ∧ Stp w T w' T' := by
  have o0 : w.cell? ⟨ob, 0, none⟩ = some (.pointer (some ⟨r, 0, none⟩)) := cell_blk hob 0
  have c0 : w.cell? ⟨cb, 0, none⟩ = some (.string ⟨base.toArray⟩) := cell_blk hcb 0
  have n0 : w.cell? ⟨nb, 0, none⟩ = some (.string ⟨n.toArray⟩) := cell_blk hnb 0
  have n1 : w.cell? ⟨nb, 1, none⟩ = some av := cell_blk hnb 1
  have n2 : w.cell? ⟨nb, 2, none⟩ = some (.string ⟨tx.toArray⟩) := cell_blk hnb 2
  have n3 : w.cell? ⟨nb, 3, none⟩ = some kv := cell_blk hnb 3
  have hel1 := hide (hel w.drew ((Keeps.refl [] w).drew))
  have HOB := hide hob
  obtain ⟨R, hR⟩ : ∃ R, s.put (.mk n kl [] ks) = R := ⟨_, rfl⟩
  rw [hR]
  have HR := hide hR
  have Hh := hide h
  clear hel hR h hob
  go_enter Tryz.func248, Tryz.ntmps248
  go_upto_region 0 with fail
  go_region_law (first
    | (refine step_call rfl 249 _ _ rfl enters249 #[.agg #[.string ⟨base.toArray⟩], .agg #[.string ⟨n.toArray⟩, av, .string ⟨tx.toArray⟩, kv]] (by first | (simp [Act.eval]; done) | (simp [Act.eval, Act.put]; done) | kernel_rfl) hel1.out ?_; rintro e w2 ⟨⟨o, m, c, o', m', c', rfl, hL2, hN2⟩, hk2⟩; refine ⟨_, rfl, ?_⟩; have hk2' : Keeps [] w w2 := keeps_drew hk2; have hh2 := (Hh.out).keepsNil hk2'; have e0 : w2.cell? ⟨ob, 0, none⟩ = some (.pointer (some ⟨r, 0, none⟩)) := cell_keeps hk2' (cell_blk HOB.out 0); have e0a : ∀ o, (w2.alloc o).cell? ⟨ob, 0, none⟩ = some (.pointer (some ⟨r, 0, none⟩)) := fun o9 => cell_keeps (hk2'.alloc o9) (cell_blk HOB.out 0))
    | (refine step_call rfl 246 _ _ rfl enters246 #[.pointer (some ⟨r, 0, none⟩), .slice (some ⟨w2.heap.size, 0, none⟩) 1 1] (by first | (simp [Act.eval]; done) | (simp [Act.eval, Act.put]; done) | kernel_rfl) (putL_any B r s T _ (hh2.keepsNil ((Keeps.refl [] w2).alloc _)) n [] kl ks (by simp; omega) o o' m c m' c' w2.heap.size (IsNd.of (heap_alloc_new w2 _)) (fun _ => ⟨(hL2.mono (fun g _ hg => DoneB.fresh ((Hh.out).ge.2) (fun g hg => ((Hh.out).ge.1 g hg).2) hg)).keeps ((Keeps.refl [] w2).alloc _) (fun _ _ => List.not_mem_nil), (hN2.mono (fun g _ hg => DoneB.fresh ((Hh.out).ge.2) (fun g hg => ((Hh.out).ge.1 g hg).2) hg)).keeps0 ((Keeps.refl [] w2).alloc _)⟩)) ?_; rintro e w4 ⟨rfl, T4, h4, hs4⟩; refine ⟨_, rfl, ?_⟩))
  all_goals go_wp2
  all_goals go_end0
  all_goals rw [← HR.out]
  all_goals exact ⟨rfl, T4, h4, (Stp.nil (hk2'.alloc _) T).trans hs4⟩

set_option maxRecDepth 4000 in
set_option maxHeartbeats 8000000 in
theorem put1_no (base n tx : List UInt8) (x : Int) (r ob cb nb : Nat) (av kv : Value) (w : World) (hob : w.heap[ob]? = some (.cells #[.pointer (some ⟨r, 0, none⟩)] 201 (0, 0))) (hcb : w.heap[cb]? = some (.cells #[.string ⟨base.toArray⟩] 126 (0, 0))) (hnb : w.heap[nb]? = some (.cells #[.string ⟨n.toArray⟩, av, .string ⟨tx.toArray⟩, kv] 45 (0, 0)))
    (hel : ∀ w1, Keeps [] w w1 → Calls Tryz.prog 249 #[.agg #[.string ⟨base.toArray⟩], .agg #[.string ⟨n.toArray⟩, av, .string ⟨tx.toArray⟩, kv]] w1 fun e w' => e = .panicked (stopped x) ∧ Keeps [] w1 w') :
    Calls Tryz.prog 248 #[.pointer (some ⟨ob, 0, none⟩), .pointer (some ⟨cb, 0, none⟩), .pointer (some ⟨nb, 0, none⟩)] w fun e w' => e = .panicked (stopped x) ∧ Keeps [] w w' := by
  have o0 : w.cell? ⟨ob, 0, none⟩ = some (.pointer (some ⟨r, 0, none⟩)) := cell_blk hob 0
  have c0 : w.cell? ⟨cb, 0, none⟩ = some (.string ⟨base.toArray⟩) := cell_blk hcb 0
  have n0 : w.cell? ⟨nb, 0, none⟩ = some (.string ⟨n.toArray⟩) := cell_blk hnb 0
  have n1 : w.cell? ⟨nb, 1, none⟩ = some av := cell_blk hnb 1
  have n2 : w.cell? ⟨nb, 2, none⟩ = some (.string ⟨tx.toArray⟩) := cell_blk hnb 2
  have n3 : w.cell? ⟨nb, 3, none⟩ = some kv := cell_blk hnb 3
  have hel1 := hide (hel w.drew ((Keeps.refl [] w).drew))
  clear hel
  go_enter Tryz.func248, Tryz.ntmps248
  go_upto_region 0 with fail
  go_region_dies
  all_goals refine hel1.out.mono ?_
  all_goals rintro e w2 ⟨rfl, hk2⟩
  all_goals exact ⟨rfl, rfl, keeps_drew hk2⟩

/-- An element is put if it can stand. -/
theorem put1_caught (base n tx : List UInt8) (kl : List Pair) (ks : List Nd) (B r ob cb nb : Nat) (s : Lst) (T : List Nat) (av kv : Value) (w : World) (h : LsT w B r s T) (hw : s.weight ≤ 3000000) (hob : w.heap[ob]? = some (.cells #[.pointer (some ⟨r, 0, none⟩)] 201 (0, 0))) (hcb : w.heap[cb]? = some (.cells #[.string ⟨base.toArray⟩] 126 (0, 0))) (hnb : w.heap[nb]? = some (.cells #[.string ⟨n.toArray⟩, av, .string ⟨tx.toArray⟩, kv] 45 (0, 0)))
    (hel : ∀ w1, Keeps [] w w1 → Calls Tryz.prog 249 #[.agg #[.string ⟨base.toArray⟩], .agg #[.string ⟨n.toArray⟩, av, .string ⟨tx.toArray⟩, kv]] w1 fun e w' => (standE n kl = 0 ∧ (∃ o m c o' m' c', e = .returned (.agg #[.string ⟨n.toArray⟩, .slice o m c, .string ⟨#[]⟩, .slice o' m' c']) ∧ LiesP w' (fun g => w1.heap.size ≤ g) (.slice o m c) kl.length 2 (pairCells kl) ∧ Ns w' (fun g => w1.heap.size ≤ g) (.slice o' m' c') ks) ∨ standE n kl ≠ 0 ∧ e = .panicked (stopped (standE n kl))) ∧ Keeps [] w1 w') :
    Calls Tryz.prog 64 #[.func (.func 248) #[] #[.pointer (some ⟨ob, 0, none⟩), .pointer (some ⟨cb, 0, none⟩), .pointer (some ⟨nb, 0, none⟩)]] w fun e w' =>
      (∃ x, e = .returned (.int .i64 x)) ∧ ∃ T', LsT w' B r (if standE n kl = 0 then s.put (.mk n kl [] ks) else s) T' ∧ Stp w T w' T' := by
  have hge := h.ge
  have hc := caught_any 248 #[.pointer (some ⟨ob, 0, none⟩), .pointer (some ⟨cb, 0, none⟩), .pointer (some ⟨nb, 0, none⟩)]
    (fun w2 => ∃ T', LsT w2 B r (if standE n kl = 0 then s.put (.mk n kl [] ks) else s) T' ∧ ∀ g, g ∈ T' → g ≤ w.heap.size → g ∈ T) (fun _ w2 => ∃ T', LsT w2 B r (if standE n kl = 0 then s.put (.mk n kl [] ks) else s) T' ∧ ∀ g, g ∈ T' → g ≤ w.heap.size → g ∈ T) T w enters248
    (fun i hi => (hge.1 i hi).2)
    (fun w2 w3 hp h hk => by
      obtain ⟨T', h1, h2⟩ := h
      exact ⟨T', h1.keepsInt hp hk, h2⟩)
    (fun x w2 w3 hp h hk => by
      obtain ⟨T', h1, h2⟩ := h
      exact ⟨T', h1.keepsInt hp hk, h2⟩)
    (fun w1 hk hsz => by
      have nn : ∀ g, g ∉ ([] : List Nat) := fun _ => List.not_mem_nil
      have h1 := h.keepsNil hk
      have ob1 := (hk.block _ (lt_of_block hob) (nn _)).trans hob
      have cb1 := (hk.block _ (lt_of_block hcb) (nn _)).trans hcb
      have nb1 := (hk.block _ (lt_of_block hnb) (nn _)).trans hnb
      by_cases hE : standE n kl = 0
      · refine (put1_yes base n tx kl ks B r ob cb nb s T av kv w1 h1 hw ob1 cb1 nb1 (fun w2 hk2 => (hel w2 (hk.trans hk2)).mono (fun e w' hr => ⟨hr.1.elim (fun h => h.2) (fun h => absurd hE h.1), hr.2⟩))).mono ?_
        rintro e w2 ⟨rfl, T', h2, h3⟩
        exact ⟨.inl ⟨rfl, T', by rw [if_pos hE]; exact h2, fun g hg hlt => h3.2 g hg (by omega)⟩, h3.1⟩
      · refine (put1_no base n tx (standE n kl) r ob cb nb av kv w1 ob1 cb1 nb1 (fun w2 hk2 => (hel w2 (hk.trans hk2)).mono (fun e w' hr => ⟨hr.1.elim (fun h => absurd h.1 hE) (fun h => h.2), hr.2⟩))).mono ?_
        rintro e w2 ⟨rfl, hk2⟩
        exact ⟨.inr ⟨_, rfl, T, by rw [if_neg hE]; exact h1.keepsNil hk2, fun g hg _ => hg⟩, hk2.to (by simp)⟩)
  refine hc.mono ?_
  rintro e w' ⟨⟨rfl, T', h1, h2⟩ | ⟨x, rfl, T', h1, h2⟩, hk⟩
  · exact ⟨⟨_, rfl⟩, T', h1, hk, fun g hg hlt => h2 g hg (by omega)⟩
  · exact ⟨⟨_, rfl⟩, T', h1, hk, fun g hg hlt => h2 g hg (by omega)⟩
end Go.Proofs.YtlcljanibjdejaaGreat

namespace Go.Proofs.YtlcljanibjdejaaGreat
open Go.RowKit Go.Maps

theorem below_keeps {B : Nat} {w w' : World} (h : Below B w w') : Keeps ((List.range w.heap.size).filter (fun g => decide (B ≤ g))) w w' :=
  ⟨h.os, h.tape, h.output, h.size, fun k hk hS => h.block k (by
    rcases Nat.lt_or_ge k B with h1 | h1
    · exact h1
    · exact absurd (List.mem_filter.2 ⟨List.mem_range.2 hk, by simpa using h1⟩) hS)⟩
theorem Ns.belowB {w w' : World} {B : Nat} {v : Value} {ns : List Nd} (h : Ns w (fun g => g < B) v ns) (hb : Below B w w') : Ns w' (fun g => g < B) v ns :=
  h.keeps (below_keeps hb) (fun g hg hm => by have := (List.mem_filter.1 hm).2; simp at this; omega)
theorem LiesP.belowB {w w' : World} {B : Nat} {v : Value} {n z : Nat} {xs : List Value} (h : LiesP w (fun g => g < B) v n z xs) (hb : Below B w w') : LiesP w' (fun g => g < B) v n z xs :=
  h.keeps (below_keeps hb) (fun g hg hm => by have := (List.mem_filter.1 hm).2; simp at this; omega)

/-- How much is put, at most. -/
def szNs : List Nd → Nat
  | [] => 0
  | .mk _ _ t k :: r => 1 + t.length + szNs k + szNs r
theorem szNs_cons (n : Nd) (r : List Nd) : szNs (n :: r) = 1 + n.text.length + szNs n.kids + szNs r := by
  obtain ⟨n, a, t, k⟩ := n
  rw [szNs]
  rfl
theorem clean_weight (base : List UInt8) : ∀ (l : List Nd) (s : Lst), (cleanIn base s l).weight ≤ s.weight + szNs l
  | [], s => by rw [cleanIn]; exact Nat.le_add_right _ _
  | .mk n a t k :: r, s => by
    rw [cleanIn, szNs]
    split
    · have := clean_weight base r (s.put (.mk n a t k))
      have := s.put_weight (.mk n a t k)
      simp only [Nd.text] at this
      omega
    · split
      · have := clean_weight base r s
        omega
      · split
        · have := clean_weight base r (cleanIn base s k)
          have := clean_weight base k s
          omega
        · split
          · have := clean_weight base r (s.put (.mk n (keptA base n a) [] (cleanIn base ⟨[], []⟩ k).done))
            have := s.put_weight (.mk n (keptA base n a) [] (cleanIn base ⟨[], []⟩ k).done)
            simp only [Nd.text, List.length_nil] at this
            omega
          · have := clean_weight base r s
            omega

/-- Values of attributes are no longer than a text of Go may be. -/
def ValNs : List Nd → Prop
  | [] => True
  | .mk _ a _ k :: r => (a.length ≤ 1000000 ∧ ∀ p ∈ a, p.2.length ≤ maxLen) ∧ ValNs k ∧ ValNs r
theorem ValNs.at {n : Nd} : {ns : List Nd} → ValNs ns → n ∈ ns → n.attrs.length ≤ 1000000 ∧ (∀ p ∈ n.attrs, p.2.length ≤ maxLen) ∧ ValNs n.kids
  | .mk _ a _ k :: r, h, hm => by
    rw [ValNs] at h
    rcases List.mem_cons.1 hm with rfl | hm
    · exact ⟨h.1.1, h.1.2, h.2.1⟩
    · exact ValNs.at h.2.2 hm
theorem szNs_mem {n : Nd} : {ns : List Nd} → n ∈ ns → szNs n.kids ≤ szNs ns
  | m :: r, h => by
    rw [szNs_cons]
    rcases List.mem_cons.1 h with rfl | h
    · omega
    · have := szNs_mem h; omega

/-- What is put of a node. -/
def stepC (base : List UInt8) (s : Lst) (n : Nd) : Lst :=
  if n.name.isEmpty = true then s.put n else if goneN n.name = true then s else if allowedN n.name = false then cleanIn base s n.kids
  else if standE n.name (keptA base n.name n.attrs) = 0 then s.put (.mk n.name (keptA base n.name n.attrs) [] (cleanL base n.kids)) else s
theorem cleanIn_cons (base : List UInt8) (s : Lst) (n : Nd) (r : List Nd) : cleanIn base s (n :: r) = cleanIn base (stepC base s n) r := by
  obtain ⟨n, a, t, k⟩ := n
  rw [cleanIn]
  show _ = cleanIn base (if n.isEmpty = true then s.put (.mk n a t k) else if goneN n = true then s else if allowedN n = false then cleanIn base s k else if standE n (keptA base n a) = 0 then s.put (.mk n (keptA base n a) [] (cleanIn base ⟨[], []⟩ k).done) else s) r
  by_cases h1 : n.isEmpty = true
  · rw [if_pos h1, if_pos h1]
  · rw [if_neg h1, if_neg h1]
    by_cases h2 : goneN n = true
    · rw [if_pos h2, if_pos h2]
    · rw [if_neg h2, if_neg h2]
      by_cases h3 : allowedN n = false
      · rw [if_pos h3, if_pos h3]
      · rw [if_neg h3, if_neg h3]
        by_cases h4 : standE n (keptA base n a) = 0
        · rw [if_pos h4, if_pos h4]
        · rw [if_neg h4, if_neg h4]
theorem stepC_weight (base : List UInt8) (s : Lst) (n : Nd) : (stepC base s n).weight ≤ s.weight + (1 + n.text.length + szNs n.kids) := by
  have h := clean_weight base [n] s
  rw [cleanIn_cons, cleanIn, szNs_cons, szNs] at h
  omega

/-- What put does of a list of nodes. -/
def PutsAt (base : List UInt8) (B0 : Nat) (v : Value) (ns : List Nd) (w : World) : Prop := ∀ B r s T, B0 ≤ B → LsT w B r s T → s.weight + szNs ns ≤ 3000000 →
  Calls Tryz.prog 179 #[.agg #[.string ⟨base.toArray⟩], .pointer (some ⟨r, 0, none⟩), v] w fun e w' => e = .returned (.tuple #[]) ∧ ∃ T', LsT w' B r (cleanIn base s ns) T' ∧ Stp w T w' T'

set_option maxHeartbeats 2000000 in
theorem cleaned_of (base : List UInt8) (o : Option Addr) (n c : Nat) (ns : List Nd) (w : World) (B0 : Nat) (hB : B0 ≤ w.heap.size) (hsz : szNs ns ≤ 3000000) (hput : ∀ w1, Keeps [] w w1 → PutsAt base B0 (.slice o n c) ns w1) :
    Calls Tryz.prog 91 #[.agg #[.string ⟨base.toArray⟩], .slice o n c] w fun e w' => ∃ o m c, e = .returned (.slice o m c) ∧ Ns w' (fun g => w.heap.size ≤ g) (.slice o m c) (cleanL base ns) ∧ Keeps [] w w' := by
  have hk1 : Keeps [] w (w.alloc (.cells #[.string ⟨base.toArray⟩] 126)) := (Keeps.refl [] w).alloc _
  have hk2 := hk1.alloc (.cells #[.slice none 0 0, .slice none 0 0] 199)
  have hst := hide (start_ls (w.alloc (.cells #[.string ⟨base.toArray⟩] 126)) (by simp))
  obtain ⟨W, hW⟩ : ∃ W, (w.alloc (.cells #[.string ⟨base.toArray⟩] 126)).alloc (.cells #[.slice none 0 0, .slice none 0 0] 199) = W := ⟨_, rfl⟩
  have s1 : (w.alloc (.cells #[.string ⟨base.toArray⟩] 126)).heap.size = w.heap.size + 1 := by simp
  have hb0 : W.heap[w.heap.size]? = some (.cells #[.string ⟨base.toArray⟩] 126 (0, 0)) := by
    rw [← hW, Below.heap_alloc _ _ _ (by rw [s1]; omega)]
    exact heap_alloc_new w _
  rw [hW, s1] at hst
  rw [hW] at hk2
  have c0 : W.cell? ⟨w.heap.size, 0, none⟩ = some (.string ⟨base.toArray⟩) := cell_blk hb0 0
  have hp := hide (hput W hk2 _ _ _ _ (by omega) hst.out (by simpa [Lst.weight] using hsz))
  have hwt := clean_weight base ns ⟨[], []⟩
  have HW := hide hwt
  unfold cleanL
  generalize cleanIn base ⟨[], []⟩ ns = R at *
  clear hput hb0 s1
  go_enter Tryz.func91, Tryz.ntmps91
  go_wp2_with fail
  refine hp.out.mono ?_
  rintro e w1 ⟨rfl, T', h1, hs1⟩
  have hal := hide (allL_any _ _ R T' w1 h1 (by have h9 := HW.out; simp [Lst.weight] at h9 ⊢; omega))
  have hge := hst.out.ge
  have hbl := hs1.below (B := w.heap.size) (fun g hg => by have := (hge.1 g hg).1; omega) hk2.size
  clear c0
  go_wp2_with fail
  refine hal.out.mono ?_
  rintro e w2 ⟨v, rfl, hN, hk⟩
  obtain ⟨o9, c9, rfl⟩ := hN.form
  go_wp2_with fail
  go_ret
  refine ⟨_, _, _, rfl, hN.mono (fun g _ hg => by omega), ?_⟩
  have hk3 : Keeps [] w w1 := keeps_on hk2 hs1.1 (fun g hg hlt => by have := (hge.1 g hg).1; omega)
  refine keeps_on hk3 hk (fun g hg hlt => ?_)
  have := (h1.ge.1 g hg).1
  omega
end Go.Proofs.YtlcljanibjdejaaGreat
