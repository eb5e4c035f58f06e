/- ShelfOnce holds: for every input it returns true, and each argument reads behind the call as it read before. -/
import Derived.Test.YtlcljanibjdejaaGreatSo24
import Derived.ProofKit
import Derived.OpenShut
import Derived.ShutString
import Derived.JoinedCond
import Derived.HandedShaped
import Derived.Carry
import Derived.SizedLaws
namespace Go.Proofs.YtlcljanibjdejaaGreat
open Go.RowKit Go.Maps
set_option maxRecDepth 4000 in
set_option maxHeartbeats 4000000 in
theorem sameTexts_any (w : World) (va vb : Value) (la lb : List (List UInt8)) (ha : Lies w va la.length 1 (idCs la)) (hb : Lies w vb lb.length 1 (idCs lb)) :
    Calls Tryz.prog 53 #[va, vb] w fun e w' => e = .returned (.bool (decide (la = lb))) ∧ Keeps [] w w' := by
  obtain ⟨oa, ca, rfl, ha1, ha2⟩ := ha.form
  obtain ⟨ob, cb, rfl, hb1, hb2⟩ := hb.form
  unfold maxLen at ha2 hb2
  obtain ⟨R, hR⟩ : ∃ R, decide (la = lb) = R := ⟨_, rfl⟩
  rw [hR]
  by_cases hlen : la.length = lb.length
  · have HR := hide hR
    clear hR
    have HL := hide hlen
    have hn : (((la.length : Int) != (lb.length : Int))) = false := by simp; omega
    clear hlen
    go_enter Tryz.func53, Tryz.ntmps53
    go_wp2_with fail
    go_loopw [5] (fun i wr => ∃ k m : Nat, k ≤ la.length ∧ i = .int .i64 k ∧ wr = w.drewN m ∧ Hid (∀ j (h1 : j < la.length) (h2 : j < lb.length), j < k → la[j] = lb[j])) (fun i _ => la.length - (intOf i).toNat)
    case atStart => exact ⟨0, 0, Nat.zero_le _, rfl, rfl, fun j _ _ h => absurd h (Nat.not_lt_zero _)⟩
    case round =>
      obtain ⟨k, m, hk, rfl, rfl, hH⟩ := hrel
      by_cases hlt : k < la.length
      · obtain ⟨ga, xa, rfl, hca⟩ := ha.addr (by omega)
        obtain ⟨gb, xb, rfl, hcb⟩ := hb.addr (by rw [← HL.out]; omega)
        have hltb : k < lb.length := by rw [← HL.out]; exact hlt
        have a0 := hca _ _ (idCs_at la k hlt)
        have b0 := hcb _ _ (idCs_at lb k hltb)
        clear hca hcb
        by_cases hkk : la[k] = lb[k]
        · have hcx : (la[k] == lb[k]) = true := by simpa using hkk
          have HKK := hide hkk
          clear hkk
          go_wp2_with fail
          go_quiet (fail)
          go_wp2_with fail
          go_roundw
          case rel => exact ⟨k + 1, _, by omega, by go_num, rfl, fun j h1 h2 hj => by
            rcases Nat.lt_succ_iff_lt_or_eq.1 hj with hj | rfl
            · exact hH.out j h1 h2 hj
            · exact HKK.out⟩
          case measure => simp [intOf]; omega
        · have hcx : (la[k] == lb[k]) = false := by simpa using hkk
          have hRf : R = false := by
            rw [← HR.out]
            have : la ≠ lb := fun e => hkk (by subst e; rfl)
            simpa using this
          subst hRf
          clear hkk
          go_wp2_with fail
          go_quiet (fail)
          go_wp2_with fail
          go_ret
          exact ⟨rfl, ((Keeps.refl [] w).drewN _).drewN _⟩
      · have hRt : R = true := by
          rw [← HR.out]
          have : la = lb := List.ext_getElem HL.out (fun j h1 h2 => hH.out j h1 h2 (by omega))
          simpa using this
        subst hRt
        go_wp2_with fail
        go_ret
        exact ⟨rfl, (Keeps.refl [] w).drewN _⟩
  · have hn : (((la.length : Int) != (lb.length : Int))) = true := by simp; omega
    have hRf : R = false := by
      rw [← hR]
      have : la ≠ lb := fun e => hlen (by rw [e])
      simpa using this
    subst hRf
    clear hlen hR
    go_enter Tryz.func53, Tryz.ntmps53
    go_wp2_with fail
    go_ret
    exact ⟨rfl, Keeps.refl _ _⟩
def rackS : Sh := ⟨[⟨[98], [78, 101, 119], [], 9, [60, 98, 62, 120, 60, 47, 98, 62, 121]⟩, ⟨[97], [], [], 5, []⟩], [[97]]⟩
theorem lies_lit {w W : World} {cs : Array Value} {t : TypeId} {n z : Nat} (hn : cs.toList.length = n * z) (hm : n ≤ maxLen) (hW : w.alloc (.cells cs t) = W) : Lies W (.slice (some ⟨w.heap.size, 0, none⟩) n n) n z cs.toList := by
  refine ⟨hn, .inr (.inl ⟨w.heap.size, 0, n, rfl, Nat.le_refl _, hm, fun j u hj => ?_⟩)⟩
  subst hW
  have := lit_cells w cs t j u hj
  rw [Nat.zero_add]
  rwa [add_zero] at this
set_option maxRecDepth 4000 in
set_option maxHeartbeats 4000000 in
theorem rack_any (w : World) : Calls Tryz.prog 132 #[] w fun e w' => ∃ g h, e = .returned (.agg #[.slice (some ⟨g, 0, none⟩) 2 2, .slice (some ⟨h, 0, none⟩) 1 1]) ∧ Lies w' (.slice (some ⟨g, 0, none⟩) 2 2) 2 5 (ensCells rackS.es) ∧ Lies w' (.slice (some ⟨h, 0, none⟩) 1 1) 1 1 (idCs rackS.rd) ∧ Keeps [] w w' := by
  obtain ⟨W0, hW0⟩ : ∃ W, w.alloc (.cells #[.slice none 0 0, .slice none 0 0] 64) = W := ⟨_, rfl⟩
  obtain ⟨W1, hW1⟩ : ∃ W, W0.alloc (.cells #[.string ⟨#[98]⟩, .string ⟨#[78, 101, 119]⟩, .string ⟨#[]⟩, .int .i64 9, .string ⟨#[60, 98, 62, 120, 60, 47, 98, 62, 121]⟩, .string ⟨#[97]⟩, .string ⟨#[]⟩, .string ⟨#[]⟩, .int .i64 5, .string ⟨#[]⟩] 75) = W := ⟨_, rfl⟩
  obtain ⟨W2, hW2⟩ : ∃ W, W1.alloc (.cells #[.string ⟨#[97]⟩] 9) = W := ⟨_, rfl⟩
  have k0 : Keeps [] w W0 := by rw [← hW0]; exact (Keeps.refl [] w).alloc _
  have k1 : Keeps [] W0 W1 := by rw [← hW1]; exact (Keeps.refl [] W0).alloc _
  have k2 : Keeps [] W1 W2 := by rw [← hW2]; exact (Keeps.refl [] W1).alloc _
  have hz0 := (fblk_new rfl hW0).2
  have hz1 := (fblk_new rfl hW1).2
  have l1 : Lies W1 (.slice (some ⟨W0.heap.size, 0, none⟩) 2 2) 2 5 (ensCells rackS.es) := lies_lit (z := 5) rfl (by unfold maxLen; omega) hW1
  have l2 : Lies W2 (.slice (some ⟨W1.heap.size, 0, none⟩) 1 1) 1 1 (idCs rackS.rd) := lies_lit (z := 1) rfl (by unfold maxLen; omega) hW2
  have hb0 := ((k1.trans k2).block _ (lt_of_block (fblk_new rfl hW0).1) List.not_mem_nil).trans (fblk_new rfl hW0).1
  have c0 : W2.cell? ⟨w.heap.size, 0, none⟩ = some (.slice none 0 0) := cell_blk hb0 0
  have c1 : W2.cell? ⟨w.heap.size, 1, none⟩ = some (.slice none 0 0) := cell_blk hb0 1
  have f0 : W2.frozen? ⟨w.heap.size, 0, none⟩ = false := free_blk hb0 0
  have f1 : W2.frozen? ⟨w.heap.size, 1, none⟩ = false := free_blk hb0 1
  obtain ⟨W3, hW3⟩ : ∃ W3, (W2.setCell ⟨w.heap.size, 0, none⟩ (.slice (some ⟨W0.heap.size, 0, none⟩) 2 2)).setCell ⟨w.heap.size, 1, none⟩ (.slice (some ⟨W1.heap.size, 0, none⟩) 1 1) = W3 := ⟨_, rfl⟩
  have hb3 : W3.heap[w.heap.size]? = some (.cells #[.slice (some ⟨W0.heap.size, 0, none⟩) 2 2, .slice (some ⟨W1.heap.size, 0, none⟩) 1 1] 64 (0, 0)) := by rw [← hW3]; simp [World.setCell, Array.getElem?_modify, hb0]
  have k3 : Keeps [w.heap.size] W2 W3 := by rw [← hW3]; exact ((Keeps.refl [w.heap.size] W2).setCell (.inl (by simp)) _).setCell (.inl (by simp)) _
  have KK := hide (keeps_on ((k0.trans k1).trans k2) k3 (fun g hg hlt => by simp at hg; omega))
  have L1 : Hid (Lies W3 (.slice (some ⟨W0.heap.size, 0, none⟩) 2 2) 2 5 (ensCells rackS.es)) := hide ⟨l1.1, .inr (.inl ⟨_, 0, 2, rfl, Nat.le_refl _, by unfold maxLen; omega, fun j u hj => by
    obtain ⟨g, o, e, hc⟩ := (l1.keeps k2).addr (by omega)
    injection e with e
    injection e with e1 e2 e3
    subst e1 e2
    exact cell_keepsS k3 (by simp; omega) (hc j u hj)⟩)⟩
  have L2 : Hid (Lies W3 (.slice (some ⟨W1.heap.size, 0, none⟩) 1 1) 1 1 (idCs rackS.rd)) := hide ⟨l2.1, .inr (.inl ⟨_, 0, 1, rfl, Nat.le_refl _, by unfold maxLen; omega, fun j u hj => by
    obtain ⟨g, o, e, hc⟩ := l2.addr (by omega)
    injection e with e
    injection e with e1 e2 e3
    subst e1 e2
    exact cell_keepsS k3 (by simp; omega) (hc j u hj)⟩)⟩
  have d0 : W3.cell? ⟨w.heap.size, 0, none⟩ = some (.slice (some ⟨W0.heap.size, 0, none⟩) 2 2) := cell_blk hb3 0
  have d1 : W3.cell? ⟨w.heap.size, 1, none⟩ = some (.slice (some ⟨W1.heap.size, 0, none⟩) 1 1) := cell_blk hb3 1
  have H0 := hide hW0
  have H3 := hide hW3
  have HB3 := hide hb3
  have h12 := hW2
  rw [← hW1] at h12
  rw [← h12] at c0 c1 f0 f1
  have H12 := hide h12
  rw [hz1] at H3 L2 d1 HB3
  clear hW0 hW1 hW2 hW3 k0 k1 k2 k3 l1 l2 hb0 hb3 hz0 hz1 h12
  go_enter Tryz.func132, Tryz.ntmps132
  go_upto_region 1 with fail
  rw [H0.out]
  go_wp2_with fail
  rw [H12.out, H3.out]
  exact ⟨rfl, _, results_cell_row (P := Tryz.prog) rfl _ W3 w.heap.size 64 _ (0, 0) _ rfl HB3.out Tryz.underlying64 rfl (by kernel_rfl), _, _, rfl, L1.out, L2.out, KK.out⟩
end Go.Proofs.YtlcljanibjdejaaGreat
namespace Go.Proofs.YtlcljanibjdejaaGreat
open Go.RowKit Go.Maps
set_option maxRecDepth 8000 in
set_option maxHeartbeats 8000000 in
theorem entryAt_any (id : List UInt8) (w : World) (v : Value) (l : List En) (hv : Lies w v l.length 5 (ensCells l)) :
    Calls Tryz.prog 54 #[v, .string ⟨id.toArray⟩] w fun e w' => e = .returned (.int .i64 (idxE id l)) ∧ w' = w := by
  obtain ⟨o, c, rfl, h1, h2⟩ := hv.form
  unfold maxLen at h2
  obtain ⟨R, hR⟩ : ∃ R, idxE id l = R := ⟨_, rfl⟩
  rw [hR]
  have HR := hide hR
  have HV := hide hv
  clear hR hv
  go_enter Tryz.func54, Tryz.ntmps54
  go_wp2_with fail
  go_loopw [5] (fun i wr => ∃ k : Nat, k ≤ l.length ∧ i = .int .i64 k ∧ wr = w ∧ Hid (idxFE id (l.drop k) k = R)) (fun i _ => l.length - (intOf i).toNat)
  case atStart => exact ⟨0, Nat.zero_le _, rfl, rfl, HR⟩
  case round =>
    obtain ⟨k, hk, rfl, rfl, hC⟩ := hrel
    clear HR
    by_cases hlt : k < l.length
    · have hC1 := hC.out
      rw [idxFE_drop id l k hlt] at hC1
      obtain ⟨g, o0, rfl, hc⟩ := HV.out.addr (by omega)
      obtain ⟨a0, a1, a2, a3, a4⟩ := lies_en hc k hlt
      have hk0 : (0 : Int) ≤ (k : Int) := by omega
      have hk1 : (k : Int) < (l.length : Int) := by omega
      have HC1 := hide hC1
      clear hC hC1 hc
      generalize l[k] = x at *
      by_cases hx : x.id = id
      · have hRk : R = (k : Int) := by rw [← HC1.out]; simp [hx]
        have heq : (x.id == id) = true := by simpa using hx
        subst hRk
        clear HC1 hx
        go_wp2_with fail
        go_ret
        exact ⟨rfl, rfl⟩
      · have HC2 : Hid (idxFE id (l.drop (k + 1)) (k + 1) = R) := hide (by have := HC1.out; simpa [hx] using this)
        have heq : (x.id == id) = false := by simpa using hx
        clear HC1 hx
        go_wp2_with fail
        go_roundw
        case rel => exact ⟨k + 1, by omega, by go_num, trivial, HC2⟩
        case measure => simp [intOf]; omega
    · have hRR : R = -1 := by
        rw [← hC.out, List.drop_eq_nil_of_le (by omega)]
        rfl
      subst hRR
      go_wp2_with fail
      go_ret
      exact ⟨rfl, rfl⟩
theorem entries_eq {la lb : List En} : (∀ j (h1 : j < la.length) (h2 : j < lb.length), la[j] = lb[j]) → la.length = lb.length → la = lb := fun h e => List.ext_getElem e h
set_option maxRecDepth 4000 in
set_option maxHeartbeats 4000000 in
theorem sameEntries_any (w : World) (va vb : Value) (la lb : List En) (ha : Lies w va la.length 5 (ensCells la)) (hb : Lies w vb lb.length 5 (ensCells lb)) :
    Calls Tryz.prog 56 #[va, vb] w fun e w' => e = .returned (.bool (decide (la = lb))) ∧ Keeps [] w w' := by
  obtain ⟨oa, ca, rfl, ha1, ha2⟩ := ha.form
  obtain ⟨ob, cb, rfl, hb1, hb2⟩ := hb.form
  unfold maxLen at ha2 hb2
  obtain ⟨R, hR⟩ : ∃ R, decide (la = lb) = R := ⟨_, rfl⟩
  rw [hR]
  by_cases hlen : la.length = lb.length
  · have HR := hide hR
    clear hR
    have HL := hide hlen
    have hn : (((la.length : Int) != (lb.length : Int))) = false := by simp; omega
    clear hlen
    go_enter Tryz.func56, Tryz.ntmps56
    go_wp2_with fail
    go_loopw [5] (fun i wr => ∃ k m : Nat, k ≤ la.length ∧ i = .int .i64 k ∧ wr = w.drewN m ∧ Hid (∀ j (h1 : j < la.length) (h2 : j < lb.length), j < k → la[j] = lb[j])) (fun i _ => la.length - (intOf i).toNat)
    case atStart => exact ⟨0, 0, Nat.zero_le _, rfl, rfl, fun j _ _ h => absurd h (Nat.not_lt_zero _)⟩
    case round =>
      obtain ⟨k, m, hk, rfl, rfl, hH⟩ := hrel
      by_cases hlt : k < la.length
      · obtain ⟨ga, xa, rfl, hca⟩ := ha.addr (by omega)
        obtain ⟨gb, xb, rfl, hcb⟩ := hb.addr (by rw [← HL.out]; omega)
        have hltb : k < lb.length := by rw [← HL.out]; exact hlt
        obtain ⟨a0, a1, a2, a3, a4⟩ := lies_en hca k hlt
        obtain ⟨b0, b1, b2, b3, b4⟩ := lies_en hcb k hltb
        clear hca hcb
        have hgd : Tryz.prog.eqGuardType Tryz.prog.depth 75 = false := by kernel_rfl
        have heq := fun w => neqEn la[k] lb[k] w
        by_cases hkk : la[k] = lb[k]
        · have hee : eqE la[k] lb[k] = true := (eqE_iff _ _).2 hkk
          simp only [hee, Bool.not_true] at heq
          have HKK := hide hkk
          clear hkk hee
          go_wp2_with fail
          go_quiet (fail)
          go_wp2_with fail
          go_roundw
          case rel => exact ⟨k + 1, _, by omega, by go_num, rfl, fun j h1 h2 hj => by
            rcases Nat.lt_succ_iff_lt_or_eq.1 hj with hj | rfl
            · exact hH.out j h1 h2 hj
            · exact HKK.out⟩
          case measure => simp [intOf]; omega
        · have hee : eqE la[k] lb[k] = false := by
            rw [Bool.eq_false_iff]
            exact fun h => hkk ((eqE_iff _ _).1 h)
          simp only [hee, Bool.not_false] at heq
          have hRf : R = false := by
            rw [← HR.out]
            have : la ≠ lb := fun e => hkk (by subst e; rfl)
            simpa using this
          subst hRf
          clear hkk hee
          go_wp2_with fail
          go_quiet (fail)
          go_wp2_with fail
          go_ret
          exact ⟨rfl, ((Keeps.refl [] w).drewN _).drewN _⟩
      · have hRt : R = true := by
          rw [← HR.out]
          have : la = lb := entries_eq (fun j h1 h2 => hH.out j h1 h2 (by omega)) HL.out
          simpa using this
        subst hRt
        go_wp2_with fail
        go_ret
        exact ⟨rfl, (Keeps.refl [] w).drewN _⟩
  · have hn : (((la.length : Int) != (lb.length : Int))) = true := by simp; omega
    have hRf : R = false := by
      rw [← hR]
      have : la ≠ lb := fun e => hlen (by rw [e])
      simpa using this
    subst hRf
    clear hlen hR
    go_enter Tryz.func56, Tryz.ntmps56
    go_wp2_with fail
    go_ret
    exact ⟨rfl, Keeps.refl _ _⟩
set_option maxRecDepth 4000 in
set_option maxHeartbeats 4000000 in
theorem sameShelf_any (w : World) (ea ra eb rb : Value) (sa sb : Sh) (hea : Lies w ea sa.es.length 5 (ensCells sa.es)) (hra : Lies w ra sa.rd.length 1 (idCs sa.rd)) (heb : Lies w eb sb.es.length 5 (ensCells sb.es)) (hrb : Lies w rb sb.rd.length 1 (idCs sb.rd)) :
    Calls Tryz.prog 55 #[.agg #[ea, ra], .agg #[eb, rb]] w fun e w' => e = .returned (.bool (decide (sa.es = sb.es) && decide (sa.rd = sb.rd))) ∧ Keeps [] w w' := by
  obtain ⟨o1, c1, rfl, g1, g2⟩ := hea.form
  obtain ⟨o2, c2, rfl, g3, g4⟩ := hra.form
  obtain ⟨o3, c3, rfl, g5, g6⟩ := heb.form
  obtain ⟨o4, c4, rfl, g7, g8⟩ := hrb.form
  obtain ⟨W, hW⟩ : ∃ W, (w.alloc (.cells #[.slice o1 sa.es.length c1, .slice o2 sa.rd.length c2] 64)).alloc (.cells #[.slice o3 sb.es.length c3, .slice o4 sb.rd.length c4] 64) = W := ⟨_, rfl⟩
  have hkW : Keeps [] w W := by rw [← hW]; exact ((Keeps.refl [] w).alloc _).alloc _
  have hb0 : W.heap[w.heap.size]? = some (.cells #[.slice o1 sa.es.length c1, .slice o2 sa.rd.length c2] 64 (0, 0)) := by rw [← hW]; exact two_fst w _ _
  have hb1 : W.heap[w.heap.size + 1]? = some (.cells #[.slice o3 sb.es.length c3, .slice o4 sb.rd.length c4] 64 (0, 0)) := by rw [← hW]; exact two_snd w _ _
  have a0 : W.cell? ⟨w.heap.size, 0, none⟩ = some (.slice o1 sa.es.length c1) := cell_blk hb0 0
  have b0 : W.cell? ⟨w.heap.size + 1, 0, none⟩ = some (.slice o3 sb.es.length c3) := cell_blk hb1 0
  have hse := hide (sameEntries_any W _ _ sa.es sb.es (hea.keeps hkW) (heb.keeps hkW))
  have hst := hide (fun w1 (hk1 : Keeps [] w w1) => sameTexts_any w1 _ _ sa.rd sb.rd (hra.keeps hk1) (hrb.keeps hk1))
  have HB0 := hide hb0
  have HB1 := hide hb1
  have HKW := hide hkW
  have HW := hide hW
  generalize decide (sa.es = sb.es) = P at *
  generalize decide (sa.rd = sb.rd) = Q at *
  clear hea hra heb hrb hkW hb0 hb1 hW
  cases P
  · go_enter Tryz.func55, Tryz.ntmps55
    go_upto_region 1 with fail
    rw [HW.out]
    go_wp2_with fail
    refine hse.out.mono ?_
    rintro e w1 ⟨rfl, hk1⟩
    go_wp2_with fail
    go_ret
    exact ⟨rfl, HKW.out.trans hk1⟩
  · go_enter Tryz.func55, Tryz.ntmps55
    go_upto_region 1 with fail
    rw [HW.out]
    go_wp2_with fail
    refine hse.out.mono ?_
    rintro e w1 ⟨rfl, hk1⟩
    have a1 : w1.cell? ⟨w.heap.size, 1, none⟩ = some (.slice o2 sa.rd.length c2) := ncell_all hk1 HB0.out 1
    have b1 : w1.cell? ⟨w.heap.size + 1, 1, none⟩ = some (.slice o4 sb.rd.length c4) := ncell_all hk1 HB1.out 1
    have HK1 := hide (HKW.out.trans hk1)
    clear hk1 a0 b0
    go_wp2_with fail
    refine (hst.out w1 HK1.out).mono ?_
    rintro e w2 ⟨rfl, hk2⟩
    go_wp2_with fail
    go_ret
    exact ⟨by simp, HK1.out.trans hk2⟩
end Go.Proofs.YtlcljanibjdejaaGreat
namespace Go.Proofs.YtlcljanibjdejaaGreat
open Go.RowKit Go.Maps
def bT : List Tok := [⟨2, [98], [], []⟩, textTok [120], ⟨3, [98], [], []⟩, textTok [121]]
def bL : List Nd := [.mk [98] [] [] [textN [120]], textN [121]]
def bS : List UInt8 := [60, 98, 62, 120, 60, 47, 98, 62, 121]
theorem b_name : isNameL [98] = true ∧ isNameL [112] = true ∧ isNameL [98, 114] = true := by decide
theorem b_read : readL bS = bT := by
  have h := read_printed bT (by simp [bT, chkL, chkFrom, chkT, chkA, textTok, b_name])
  rwa [show toksP bT = bS from by decide] at h
theorem b_build : buildL bT = bL := by
  have c1 : closedL [[]] [98] = 1 := by decide
  have i1 : innerL (· == [98]) (fun _ => false) [[], [98]] = 1 := by decide
  have e1 : emptyN [98] = false := by decide
  simp [bT, bL, buildL, St.step, textTok, St.start, St.openTag, St.openIn, St.closeTag, St.names, St.all, St.closeFrom, St.close, St.pop, St.endText, Op.put, Op.nd, textN, c1, i1, e1]
theorem none_read : readL [] = [] := read_printed [] rfl
theorem none_build : buildL [] = [] := by simp [buildL, St.start, St.closeFrom, St.close, St.endText]
theorem b_clean : cleanS bS = true := by
  unfold cleanS
  rw [b_read, b_build, show flatL bL = bT from by simp [bL, bT, flatL, textN, emptyN, textTok], show toksP bT = bS from by decide, show isE bL = 0 from (isE_stands bL).2 (by simp [bL, AllSt, standE, attrsE, allowedN, textN])]
  simp
theorem none_clean : cleanS [] = true := by
  unfold cleanS
  rw [none_read, none_build]
  simp [isE, flatL, toksP]
def rack0 : En := ⟨[98], [78, 101, 119], [], 9, bS⟩
def rack1 : En := ⟨[97], [], [], 5, []⟩
theorem rack_eq : rackS = ⟨[rack0, rack1], [[97]]⟩ := rfl
theorem rack0_chk : chkEn rack0 = 0 := by simp [chkEn, rack0, b_clean]; simp [bS]
theorem rack1_chk : chkEn rack1 = 0 := by simp [chkEn, rack1, none_clean]
theorem rack_chk : chkSh rackS = 0 := by
  rw [rack_eq]
  simp [chkSh, chkEs, rack0_chk, rack1_chk, backE, chkRead, notUp]
  simp [rack0, rack1, ordE, cmpI]
theorem rack_fit : ∀ x ∈ rackS.es, FitE x := by
  intro x hx
  rw [rack_eq] at hx
  simp only [List.mem_cons, List.not_mem_nil, or_false] at hx
  rcases hx with rfl | rfl <;> simp [FitE, maxLen, rack0, rack1, bS]
end Go.Proofs.YtlcljanibjdejaaGreat
namespace Go.Proofs.YtlcljanibjdejaaGreat
open Go.RowKit Go.Maps
def comeL : List En := [⟨[99], [], [], 7, []⟩, ⟨[98], [], [], 8, []⟩]
def gotL : List En := [rack0, ⟨[99], [], [], 7, []⟩, rack1]
theorem begun_put : shelved rackS.es comeL = gotL := by
  rw [rack_eq]
  decide
theorem begun_others : othersN gotL rackS.es = 1 := by
  rw [rack_eq]
  decide
theorem begun_come : chkComing comeL = 0 := by
  simp [comeL, chkComing, chkEn, none_clean]
theorem begun_chk : chkPut rackS comeL = 0 := by
  unfold chkPut
  rw [rack_chk, begun_come]
  simp [comeL]
theorem begun_fit : ∀ x ∈ comeL, FitE x := by
  intro x hx
  simp only [comeL, List.mem_cons, List.not_mem_nil, or_false] at hx
  rcases hx with rfl | rfl <;> simp [FitE, maxLen]
theorem begun_mark : markI rackS.rd [98] true = [[97], [98]] := by decide
theorem begun_chkm : chkMark rackS [98] true = 0 := by
  unfold chkMark
  rw [rack_chk, begun_mark]
  rw [rack_eq]
  decide
theorem begun_left : unreadE rackS.es rackS.rd = [rack0] := by
  rw [rack_eq]
  decide
set_option maxRecDepth 8000 in
set_option maxHeartbeats 16000000 in
theorem shelfBegun_any (w : World) (hM : HasMax w) : Calls Tryz.prog 50 #[] w fun e w' => e = .returned (.bool true) ∧ Keeps [] w w' := by
  have nn : ∀ g, g ∉ ([] : List Nat) := fun _ => List.not_mem_nil
  have hrk := hide (fun w => rack_any w)
  have hput := hide (fun w1 (hk : Keeps [] w w1) ev rv v he hr hv => put41_good w1 ev rv v rackS comeL he hr hv rack_fit begun_fit (hM.keeps hk (nn _)) begun_chk)
  have hmrk := hide (fun w1 (hk : Keeps [] w w1) ev rv he hr => mark42_good w1 ev rv rackS [98] true he hr rack_fit (hM.keeps hk (nn _)) begun_chkm)
  have hdrp := hide (fun w1 (hk : Keeps [] w w1) ev rv he hr => drop43_good w1 ev rv rackS he hr rack_fit (hM.keeps hk (nn _)) rack_chk)
  have hunr := hide (fun w1 (hk : Keeps [] w w1) ev rv he hr => unread44_good w1 ev rv rackS he hr rack_fit (hM.keeps hk (nn _)) rack_chk)
  have hchk := hide (fun w1 (hk : Keeps [] w w1) ev rv he hr => shelfCheck_any w1 ev rv rackS he hr rack_fit (hM.keeps hk (nn _)))
  rw [begun_put, begun_others] at hput
  rw [begun_mark] at hmrk
  rw [begun_left] at hdrp hunr
  rw [rack_chk] at hchk
  have hsm := hide (fun w1 va vb ha hb => sameTexts_any w1 va vb [[98]] [[98]] ha hb)
  clear hM
  unfold OwnSh at hput hmrk hdrp
  go_enter Tryz.func50, Tryz.ntmps50
  go_wp2_with fail
  refine (hrk.out w).mono ?_
  rintro e w1 ⟨g1, h1, rfl, hl1, hr1, hk1⟩
  obtain ⟨W1, hW1⟩ : ∃ W, w1.alloc (.cells #[.string ⟨#[99]⟩, .string ⟨#[]⟩, .string ⟨#[]⟩, .int .i64 7, .string ⟨#[]⟩, .string ⟨#[98]⟩, .string ⟨#[]⟩, .string ⟨#[]⟩, .int .i64 8, .string ⟨#[]⟩] 75) = W := ⟨_, rfl⟩
  have kW1 : Keeps [] w1 W1 := by rw [← hW1]; exact (Keeps.refl [] w1).alloc _
  have hlc : Lies W1 (.slice (some ⟨w1.heap.size, 0, none⟩) 2 2) 2 5 (ensCells comeL) := lies_lit (z := 5) rfl (by unfold maxLen; omega) hW1
  have HP := hide (hput.out W1 (hk1.trans kW1) _ _ _ (hl1.keeps kW1) (hr1.keeps kW1) hlc)
  have HK1 := hide (hk1.trans kW1)
  have HW1 := hide hW1
  clear hl1 hr1 hk1 kW1 hlc hW1 hput
  go_wp2_with fail
  rw [HW1.out]
  refine HP.out.mono ?_
  rintro e w2 ⟨ev2, rv2, rfl, ⟨he2, hr2⟩, hk2⟩
  obtain ⟨o2, c2, rfl⟩ := row_form he2
  obtain ⟨p2, d2, rfl⟩ := row_form hr2
  obtain ⟨W2, hW2⟩ : ∃ W, w2.alloc (.cells #[.slice o2 gotL.length c2, .slice p2 rackS.rd.length d2] 64) = W := ⟨_, rfl⟩
  have kW2 : Keeps [] w2 W2 := by rw [← hW2]; exact (Keeps.refl [] w2).alloc _
  have HL2 := hide ((Lies.of_row he2).keeps kW2)
  have HB2 := hide (nblk_new rfl hW2).1
  have HK2 := hide ((HK1.out.trans hk2).trans kW2)
  have HW2 := hide hW2
  clear he2 hr2 hk2 kW2 hW2 HP
  go_wp2_with fail
  rw [HW2.out]
  refine (hrk.out W2).mono ?_
  rintro e w3 ⟨g3, h3, rfl, hl3, hr3, hk3⟩
  have HM3 := hide (hmrk.out w3 (HK2.out.trans hk3) _ _ hl3 hr3)
  have HK3 := hide (HK2.out.trans hk3)
  have HT3 := hide hk3
  clear hl3 hr3 hk3 hmrk
  go_wp2_with fail
  refine HM3.out.mono ?_
  rintro e w4 ⟨ev4, rv4, rfl, ⟨he4, hr4⟩, hk4⟩
  obtain ⟨o4, c4, rfl⟩ := row_form he4
  obtain ⟨p4, d4, rfl⟩ := row_form hr4
  obtain ⟨W4, hW4⟩ : ∃ W, w4.alloc (.cells #[.slice o4 rackS.es.length c4, .slice p4 2 d4] 64) = W := ⟨_, rfl⟩
  have kW4 : Keeps [] w4 W4 := by rw [← hW4]; exact (Keeps.refl [] w4).alloc _
  have HB4 := hide (nblk_new rfl hW4).1
  have HT4 := hide ((HT3.out.trans hk4).trans kW4)
  have HW4 := hide hW4
  clear he4 hr4 hk4 kW4 hW4 HM3
  go_wp2_with fail
  rw [HW4.out]
  refine (hrk.out W4).mono ?_
  rintro e w5 ⟨g5, h5, rfl, hl5, hr5, hk5⟩
  have HM5 := hide (hdrp.out w5 (HK2.out.trans (HT4.out.trans hk5)) _ _ hl5 hr5)
  have HS5 := hide hk5
  clear hl5 hr5 hk5 hdrp
  go_wp2_with fail
  refine HM5.out.mono ?_
  rintro e w6 ⟨ev6, rv6, rfl, ⟨he6, hr6⟩, hk6⟩
  obtain ⟨o6, c6, rfl⟩ := row_form he6
  obtain ⟨p6, d6, rfl⟩ := row_form hr6
  obtain ⟨W6, hW6⟩ : ∃ W, w6.alloc (.cells #[.slice o6 1 c6, .slice p6 rackS.rd.length d6] 64) = W := ⟨_, rfl⟩
  have kW6 : Keeps [] w6 W6 := by rw [← hW6]; exact (Keeps.refl [] w6).alloc _
  have HB6 := hide (nblk_new rfl hW6).1
  have HS6 := hide ((HS5.out.trans hk6).trans kW6)
  have HW6 := hide hW6
  clear he6 hr6 hk6 kW6 hW6 HM5
  go_wp2_with fail
  rw [HW6.out]
  refine (hrk.out W6).mono ?_
  rintro e w7 ⟨g7, h7, rfl, hl7, hr7, hk7⟩
  have HM7 := hide (hunr.out w7 (HK2.out.trans (HT4.out.trans (HS6.out.trans hk7))) _ _ hl7 hr7)
  have HU7 := hide hk7
  clear hl7 hr7 hk7 hunr
  go_wp2_with fail
  refine HM7.out.mono ?_
  rintro e w8 ⟨v8, rfl, ho8, hk8⟩
  obtain ⟨o8, c8, rfl⟩ := row_form ho8
  have HL8 := hide (Lies.of_row ho8)
  have HU8 := hide (HU7.out.trans hk8)
  clear ho8 hk8 HM7
  go_wp2_with fail
  refine (hrk.out w8).mono ?_
  rintro e w9 ⟨g9, h9, rfl, hl9, hr9, hk9⟩
  have HM9 := hide (hchk.out w9 (HK2.out.trans (HT4.out.trans (HS6.out.trans (HU8.out.trans hk9)))) _ _ hl9 hr9)
  have HV9 := hide hk9
  clear hl9 hr9 hk9 hchk
  go_wp2_with fail
  refine HM9.out.mono ?_
  rintro e w10 ⟨rfl, hk10⟩
  have k6 := HU8.out.trans (HV9.out.trans hk10)
  have k4 := HS6.out.trans k6
  have k2 := HT4.out.trans k4
  have b2 := cell_blk ((k2.block _ (lt_of_block HB2.out) List.not_mem_nil).trans HB2.out) 0
  have b4 := cell_blk ((k4.block _ (lt_of_block HB4.out) List.not_mem_nil).trans HB4.out) 1
  have b6 := cell_blk ((k6.block _ (lt_of_block HB6.out) List.not_mem_nil).trans HB6.out) 0
  simp at b2 b4 b6
  rw [show gotL.length = 3 from rfl] at b2
  obtain ⟨ga, xa, rfl, hca⟩ := (HL2.out.keeps k2).addr (by decide)
  obtain ⟨m0, m1, m2, m3, m4⟩ := lies_en hca 0 (by decide)
  obtain ⟨n0, n1, n2, n3, n4⟩ := lies_en hca 1 (by decide)
  simp only [gotL, rack0, List.getElem_cons_zero, List.getElem_cons_succ, Nat.zero_mul, Nat.one_mul, Nat.add_zero] at m0 m1 m2 m3 m4 n0 n1 n2 n3 n4
  obtain ⟨W11, hW11⟩ : ∃ W, w10.alloc (.cells #[.string ⟨#[98]⟩] 9) = W := ⟨_, rfl⟩
  have k11 : Keeps [] w10 W11 := by rw [← hW11]; exact (Keeps.refl [] w10).alloc _
  have hl11 : Lies W11 (.slice (some ⟨w10.heap.size, 0, none⟩) 1 1) 1 1 (idCs [[98]]) := lies_lit (z := 1) rfl (by unfold maxLen; omega) hW11
  have HC11 := hide (hsm.out W11 _ _ (HL8.out.keeps ((HV9.out.trans hk10).trans k11)) hl11)
  have HKE := hide ((HK2.out.trans k2).trans k11)
  have HW11 := hide hW11
  clear hl11 k11 hW11 hca k2 k4 k6 hk10 HM9
  go_wp2_with fail
  rw [HW11.out]
  refine HC11.out.mono ?_
  rintro e w12 ⟨rfl, hk12⟩
  go_wp2_with fail
  go_ret
  exact ⟨by simp, HKE.out.trans hk12⟩
end Go.Proofs.YtlcljanibjdejaaGreat
namespace Go.Proofs.YtlcljanibjdejaaGreat
open Go.RowKit Go.Maps
theorem newest_gone {s : Sh} {l : List En} (h : chkPut s l = 0) (y : En) (hy : y ∈ s.es ++ l) (hn : idxE y.id (shelved s.es l) < 0) : (shelved s.es l).length = 20 ∧ ∀ z ∈ shelved s.es l, y.tm ≤ z.tm := by
  obtain ⟨h1, _, _⟩ := chkPut_zero h
  obtain ⟨hs, ho⟩ := chkSh_right h1
  have hno : ∀ z ∈ shelved s.es l, z.id ≠ y.id := by
    rcases idxE_cases y.id (shelved s.es l) with ⟨_, h⟩ | ⟨i, hi, h, _⟩
    · exact h
    · omega
  obtain ⟨h2, h3⟩ := shelved_gone hs ho (by simpa using hy) hno
  refine ⟨h2, fun z hz => ?_⟩
  have := h3 z hz
  unfold aheadE at this
  simp at this
  omega
end Go.Proofs.YtlcljanibjdejaaGreat
namespace Go.Proofs.YtlcljanibjdejaaGreat
open Go.RowKit Go.Maps
theorem chkEs_each : ∀ (l : List En) (p : Option En) (met : List (List UInt8)), chkEs p met l = 0 → ∀ x ∈ l, chkEn x = 0
  | [], _, _, _ => by simp
  | x :: r, p, met, h => by
    unfold chkEs at h
    split at h
    · rename_i h1; exact absurd h h1
    · rename_i h1
      split at h
      · simp at h
      · split at h
        · simp at h
        · intro z hz
          rcases List.mem_cons.1 hz with rfl | hz
          · simpa using h1
          · exact chkEs_each r _ _ h z hz
theorem chkComing_each : ∀ (l : List En), chkComing l = 0 → ∀ x ∈ l, chkEn x = 0
  | [], _ => by simp
  | x :: r, h => by
    unfold chkComing at h
    split at h
    · rename_i h1; exact absurd h h1
    · rename_i h1
      intro z hz
      rcases List.mem_cons.1 hz with rfl | hz
      · simpa using h1
      · exact chkComing_each r h z hz
theorem chkEs_of : ∀ (l : List En) (p : Option En) (met : List (List UInt8)), (∀ x ∈ l, chkEn x = 0) → OnceE l → (∀ x ∈ l, x.id ∉ met) → SortedE (p.toList ++ l) → chkEs p met l = 0
  | [], _, _, _, _, _, _ => rfl
  | x :: r, p, met, h1, h2, h3, h4 => by
    unfold chkEs
    rw [if_neg (by simpa using h1 x (by simp)), if_neg (h3 x (by simp))]
    have hb : ¬ backE p x = true := by
      cases p with
      | none => simp [backE]
      | some y =>
        intro hh
        simp only [backE, decide_eq_true_eq, ordE_pos] at hh
        have hyx : aheadE y x = true := (List.pairwise_cons.1 h4).1 x (by simp)
        have := aheadE_trans hh hyx
        rw [aheadE_irrefl] at this
        cases this
    rw [if_neg hb]
    refine chkEs_of r (some x) (met ++ [x.id]) (fun z hz => h1 z (by simp [hz])) (List.pairwise_cons.1 h2).2 ?_ ?_
    · intro z hz hm
      rcases List.mem_append.1 hm with hm | hm
      · exact h3 z (by simp [hz]) hm
      · exact (List.pairwise_cons.1 h2).1 z hz (by simpa using (List.mem_singleton.1 hm).symm)
    · cases p with
      | none => simpa using h4
      | some y => exact (List.pairwise_cons.1 h4).2
theorem shelved_chk {s : Sh} {l : List En} (h : chkPut s l = 0) : chkSh ⟨shelved s.es l, s.rd⟩ = 0 := by
  obtain ⟨h1, _, h3⟩ := chkPut_zero h
  obtain ⟨hs, ho⟩ := chkSh_right h1
  obtain ⟨_, p2, p3, p4⟩ := chkSh_parts h1
  have hr := shelved_right (m := l) hs ho
  unfold chkSh
  simp only
  rw [if_neg (by have := hr.2.2; omega)]
  have : chkEs none [] (shelved s.es l) = 0 := chkEs_of _ _ _ (fun x hx => by
    rcases shelved_mem hx with hx | hx
    · exact chkEs_each _ _ _ p3 x hx
    · exact chkComing_each _ h3 x hx) hr.2.1 (by simp) (by simpa using hr.1)
  rw [if_neg (by simpa using this)]
  exact p4
theorem shelved_put {s : Sh} {l : List En} (h : chkPut s l = 0) : chkPut ⟨shelved s.es l, s.rd⟩ l = 0 := by
  obtain ⟨_, h2, h3⟩ := chkPut_zero h
  unfold chkPut
  rw [if_neg (by simpa using shelved_chk h), if_neg (by omega), h3]
theorem shelved_same {s : Sh} {l : List En} (h : chkPut s l = 0) (ho : OnceE l) : shelved (shelved s.es l) l = shelved s.es l := by
  obtain ⟨h1, _, _⟩ := chkPut_zero h
  exact shelved_again (chkSh_right h1).1 (chkSh_right h1).2 ho
theorem othersN_self (l : List En) : othersN l l = 0 := by
  unfold othersN
  rw [List.length_eq_zero_iff, List.filter_eq_nil_iff]
  intro x hx
  simpa using (hasE_iff l x).2 hx
theorem shelved_time {s : Sh} {l : List En} (h : chkPut s l = 0) (y : En) (hy : y ∈ s.es ++ l) {i : Nat} (hi : i < (shelved s.es l).length) (he : idxE y.id (shelved s.es l) = (i : Int)) : y.tm ≤ ((shelved s.es l)[i]).tm := by
  obtain ⟨h1, _, _⟩ := chkPut_zero h
  obtain ⟨hs, ho⟩ := chkSh_right h1
  rcases idxE_cases y.id (shelved s.es l) with ⟨h, _⟩ | ⟨j, hj, h, hid⟩
  · omega
  · have : i = j := by omega
    subst this
    exact shelved_new hs ho (by simpa using hy) (List.getElem_mem hj) hid
theorem once_step {l : List En} {k : Nat} (hk : k < l.length) (h : OnceE (l.take k)) (hn : idxE l[k].id (l.take k) < 0) : OnceE (l.take (k + 1)) := by
  rw [List.take_succ_eq_append_getElem hk]
  refine List.pairwise_append.2 ⟨h, by simp, fun x hx z hz => ?_⟩
  rw [List.mem_singleton.1 hz]
  rcases idxE_cases l[k].id (l.take k) with ⟨_, h9⟩ | ⟨i, _, h9, _⟩
  · exact h9 x hx
  · omega
/-- The first k of a row. -/
theorem Lies.front {w : World} {g o c : Nat} {l : List En} (k : Nat) (hk : k < l.length) (hc : c ≤ maxLen) (hlc : l.length ≤ c) (h : ∀ j u, (ensCells l)[j]? = some u → w.cell? ⟨g, o + j, none⟩ = some u) : Lies w (.slice (some ⟨g, o, none⟩) k c) (l.take k).length 5 (ensCells (l.take k)) := by
  have e : (l.take k).length = k := by rw [List.length_take, Nat.min_eq_left (by omega)]
  refine ⟨by rw [ensCells_len], .inr (.inl ⟨g, o, c, by rw [e], by omega, hc, fun j u hj => h j u ?_⟩)⟩
  rw [← ensCells_take, List.getElem?_take] at hj
  split at hj
  · exact hj
  · cases hj
end Go.Proofs.YtlcljanibjdejaaGreat
namespace Go.Proofs.YtlcljanibjdejaaGreat
open Go.RowKit Go.Maps
set_option maxRecDepth 8000 in
set_option maxHeartbeats 32000000 in
theorem shelfOnce_law (w : World) (ev rv v : Value) (s : Sh) (l : List En) (he : Lies w ev s.es.length 5 (ensCells s.es)) (hr : Lies w rv s.rd.length 1 (idCs s.rd)) (hv : Lies w v l.length 5 (ensCells l)) (hf : ∀ x ∈ s.es, FitE x) (hfl : ∀ x ∈ l, FitE x) (hM : HasMax w) :
    Calls Tryz.prog 10 #[.agg #[ev, rv], v] w fun e w' => e = .returned (.bool true) ∧ Keeps [] w w' := by
  have nn : ∀ g, g ∉ ([] : List Nat) := fun _ => List.not_mem_nil
  obtain ⟨es, rd⟩ := s
  simp only at he hr hf
  obtain ⟨eo, ec, rfl, g1, g2⟩ := he.form
  obtain ⟨ro, rc, rfl, g3, g4⟩ := hr.form
  obtain ⟨lo, lc, rfl, g5, g6⟩ := hv.form
  unfold maxLen at g2 g4 g6
  obtain ⟨W, hW⟩ : ∃ W, w.alloc (.cells #[.slice eo es.length ec, .slice ro rd.length rc] 64) = W := ⟨_, rfl⟩
  have hkW : Keeps [] w W := by rw [← hW]; exact (Keeps.refl [] w).alloc _
  have hb := (nblk_new rfl hW).1
  have b0 : W.cell? ⟨w.heap.size, 0, none⟩ = some (.slice eo es.length ec) := cell_blk hb 0
  have b1 : W.cell? ⟨w.heap.size, 1, none⟩ = some (.slice ro rd.length rc) := cell_blk hb 1
  have hbg := shelfBegun_any W (hM.keeps hkW (nn _))
  by_cases h0 : chkPut ⟨es, rd⟩ l = 0
  · have hgone := newest_gone (s := ⟨es, rd⟩) (l := l) h0
    have htime := fun y hy i hi he => shelved_time (s := ⟨es, rd⟩) (l := l) h0 y hy (i := i) hi he
    have hsame := shelved_same (s := ⟨es, rd⟩) (l := l) h0
    have hcs := shelved_chk h0
    have hcp := shelved_put h0
    simp only at hgone htime hsame hcs hcp
    obtain ⟨hc1, hc2, _⟩ := chkPut_zero h0
    obtain ⟨hp1, _, _, _⟩ := chkSh_parts hc1
    obtain ⟨hsr1, hsr2⟩ := chkSh_right hc1
    have hA20 := (shelved_right (m := l) hsr1 hsr2).2.2
    have hfA : ∀ x ∈ shelved es l, FitE x := fun x hx => by
      rcases shelved_mem hx with hx | hx
      · exact hf x hx
      · exact hfl x hx
    simp only at hp1 hA20
    have hput := fun w1 (hk : Keeps [] w w1) => put41_good w1 _ _ _ ⟨es, rd⟩ l (he.keeps hk) (hr.keeps hk) (hv.keeps hk) hf hfl (hM.keeps hk (nn _)) h0
    simp only at hput
    obtain ⟨A, hA⟩ : ∃ A, shelved es l = A := ⟨_, rfl⟩
    rw [hA] at hgone hA20 hcs hcp hsame hfA
    simp only [hA] at hput htime
    have hput2 := fun w1 (hk : Keeps [] w w1) ev rv he hr => put41_good w1 ev rv _ ⟨A, rd⟩ l he hr (hv.keeps hk) hfA hfl (hM.keeps hk (nn _)) hcp
    have hchk := fun w1 (hk : Keeps [] w w1) ev rv he hr => shelfCheck_any w1 ev rv ⟨A, rd⟩ he hr hfA (hM.keeps hk (nn _))
    simp only [hcs] at hchk
    simp only at hput2
    obtain ⟨RN, hRN⟩ : ∃ R, othersN A es = R := ⟨_, rfl⟩
    rw [hRN] at hput
    have HGO := hide hgone
    have HTI := hide htime
    have HSA := hide hsame
    have HE := hide he
    have HR := hide hr
    have HL := hide hv
    have HB := hide hb
    have HKW := hide hkW
    have HW := hide hW
    have HPUT := hide hput
    have HPUT2 := hide hput2
    have HCHK := hide hchk
    clear he hr hv hf hfl hM h0 hgone htime hsame hkW hb hW hRN hc1 hsr1 hsr2 hput hput2 hchk hcs hcp hfA
    go_enter Tryz.func10, Tryz.ntmps10
    go_upto_region 1 with fail
    rw [HW.out]
    go_wp2_with fail
    refine hbg.mono ?_
    rintro e w1 ⟨rfl, hk1⟩
    have hp := hide (HPUT.out w1 (HKW.out.trans hk1))
    have hb1' := (hk1.block _ (lt_of_block HB.out) List.not_mem_nil).trans HB.out
    have c0 := cell_blk hb1' 0
    have c1 := cell_blk hb1' 1
    simp at c0 c1
    have HB1 := hide hb1'
    have HK1 := hide (HKW.out.trans hk1)
    clear hbg hk1 hb1' HB b0 b1 HPUT
    unfold OwnSh at hp
    simp only at hp
    go_wp2_with fail
    refine hp.out.mono ?_
    rintro e w2 ⟨ev2, rv2, rfl, ⟨he2, hr2⟩, hk2⟩
    obtain ⟨o2, c2, rfl⟩ := row_form he2
    obtain ⟨p2, d2, rfl⟩ := row_form hr2
    obtain ⟨W2, hW2⟩ : ∃ W, w2.alloc (.cells #[.slice o2 A.length c2, .slice p2 rd.length d2] 64) = W := ⟨_, rfl⟩
    have kW2 : Keeps [] w2 W2 := by rw [← hW2]; exact (Keeps.refl [] w2).alloc _
    have HLA := hide ((Lies.of_row he2).keeps kW2)
    have HLR := hide ((Lies.of_row hr2).keeps kW2)
    have hb2 := (nblk_new rfl hW2).1
    have x0 := cell_blk hb2 0
    have x1 := cell_blk hb2 1
    simp at x0 x1
    have hb02 := ((hk2.trans kW2).block _ (lt_of_block HB1.out) List.not_mem_nil).trans HB1.out
    have q0 := cell_blk hb02 0
    have q1 := cell_blk hb02 1
    simp at q0 q1
    have HK2 := hide ((HK1.out.trans hk2).trans kW2)
    have HW2 := hide hW2
    have HLL := hide (HL.out.keeps HK2.out)
    have HR2 := hide (HR.out.keeps HK2.out)
    obtain ⟨_, _, e9, g7, g8⟩ := HLA.out.form
    injection e9 with e91 e92 e93
    subst e91 e93
    obtain ⟨_, _, e9, g9, g10⟩ := HLR.out.form
    injection e9 with e91 e92 e93
    subst e91 e93
    unfold maxLen at g8 g10
    clear he2 hr2 hk2 kW2 hW2 hb2 hb02 hp HE HR HL c0 c1 HB1
    go_upto_region 4 with fail
    rw [HW2.out]
    go_wp2_with fail
    go_loopw [8, 9] (fun t i wr => ∃ (b : Bool) (k : Nat), t = .bool b ∧ k ≤ l.length ∧ i = .int .i64 k ∧ Hid (b = false → OnceE (l.take k)) ∧ Keeps [] W2 wr) (fun _ i _ => l.length - (intOf i).toNat)
    case atStart => exact ⟨false, 0, rfl, Nat.zero_le _, rfl, fun _ => List.Pairwise.nil, Keeps.refl _ _⟩
    case round =>
      obtain ⟨b, k, rfl, hk, rfl, hON, hkr⟩ := hrel
      have xr := cell_keeps hkr x0
      by_cases hlt : k < l.length
      · obtain ⟨gs, xs, rfl, hcs⟩ := (HLL.out.keeps hkr).addr (by omega)
        obtain ⟨m0, m1, m2, m3, m4⟩ := lies_en hcs k hlt
        have hkk0 : (0 : Int) ≤ (k : Int) := by omega
        have hkk1 : (k : Int) < (l.length : Int) := by omega
        have hkk2 : (k : Int) ≤ (lc : Int) := by omega
        have hkk3 : (k : Int) ≤ (l.length : Int) := by omega
        have hfr := Lies.front k hlt (show lc ≤ maxLen from g6) g5 hcs
        have hea := hide (fun n => entryAt_any l[k].id (wr.drewN n) _ (l.take k) (hfr.keeps ((Keeps.refl [] wr).drewN n)))
        have hmem : l[k] ∈ es ++ l := List.mem_append_right _ (List.getElem_mem _)
        have hnew := hide (HGO.out l[k] hmem)
        have htim := hide (HTI.out l[k] hmem)
        have hone := hide (fun h => once_step hlt h)
        have hcase := idxE_cases l[k].id A
        have hgk : Keeps [] W2 wr := hkr
        clear hmem hfr
        have hcs2 := hide hcs
        clear hcs
        generalize hy : l[k] = y at *
        obtain ⟨ix, hixe⟩ : ∃ ix, idxE y.id (l.take k) = ix := ⟨_, rfl⟩
        simp only [hixe] at hea hone
        clear hixe
        go_wp2_with fail
        go_cut [8] from 38 to 50 (fun t wx => (∃ b' : Bool, t = .bool b' ∧ Hid (b' = false → OnceE (l.take (k + 1)))) ∧ Keeps [] wr wx)
        case first =>
          cases b
          · by_cases hix : ix < 0
            · have hd : decide (0 ≤ ix) = false := decide_eq_false (by omega)
              have hn2 := hone.out (hON.out rfl) hix
              have HN2 := hide hn2
              clear hix hn2
              go_quiet ((go_at_call 54; exact Calls.quiet_of_same (hea.out _)))
              go_wp2_with fail
              go_meet
              exact ⟨⟨_, rfl, hide fun _ => HN2.out⟩, (Keeps.refl [] wr).drewN _⟩
            · have hd : decide (0 ≤ ix) = true := decide_eq_true (by omega)
              clear hix
              go_quiet ((go_at_call 54; exact Calls.quiet_of_same (hea.out _)))
              go_wp2_with fail
              go_meet
              exact ⟨⟨_, rfl, hide fun h => by cases h⟩, (Keeps.refl [] wr).drewN _⟩
          · go_quiet (fail)
            go_wp2_with fail
            go_meet
            exact ⟨⟨_, rfl, hide fun h => by cases h⟩, (Keeps.refl [] wr).drewN _⟩
        case rest =>
          obtain ⟨⟨b', rfl, hON'⟩, hkc⟩ := hcut
          have hkc' := hkr.trans hkc
          have xc := cell_keeps hkc xr
          have k0 := cell_keeps hkc m0
          have k3 := cell_keeps hkc m3
          have hea2 := fun n => entryAt_any y.id _ _ A (HLA.out.keeps (hkc'.drewN n))
          clear hea hone m0 m1 m2 m3 m4 xr
          rcases hcase with ⟨h9, _⟩ | ⟨i, hi, h9, _⟩
          · simp only [h9] at hea2
            have hea2 := hide hea2
            have hA1 := (hnew.out (by omega)).1
            have hd20 : decide ((A.length : Int) < 20) = false := decide_eq_false (by omega)
            clear h9 hA1
            go_wp2_with fail
            go_quiet ((go_at_call 54; exact Calls.quiet_of_same (hea2.out _)))
            go_wp2_with fail
            go_quiet (fail)
            go_wp2_with fail
            go_roundw
            case rel => exact ⟨b', k + 1, rfl, by omega, by go_num, hON', hkc'.drewN _⟩
            case measure => simp [intOf]; omega
          · have ht := htim.out i hi h9
            simp only [h9] at hea2
            have hea2 := hide hea2
            obtain ⟨ga, xa, rfl, hca⟩ := (HLA.out.keeps hkc').addr (by omega)
            obtain ⟨_, _, _, a3, _⟩ := lies_en hca i hi
            have hd1 : decide ((i : Int) < 0) = false := decide_eq_false (by omega)
            have hd2 : (0 : Int) ≤ (i : Int) := by omega
            have hd3 : decide (A[i].tm < y.tm) = false := decide_eq_false (by omega)
            have hii : (i : Int) < (A.length : Int) := by omega
            clear h9 hca ht
            generalize A[i] = z at *
            go_wp2_with fail
            go_quiet ((go_at_call 54; exact Calls.quiet_of_same (hea2.out _)))
            go_wp2_with fail
            go_quiet (fail)
            go_wp2_with fail
            go_roundw
            case rel => exact ⟨b', k + 1, rfl, by omega, by go_num, hON', hkc'.drewN _⟩
            case measure => simp [intOf]; omega
      · have hke : l.take k = l := List.take_of_length_le (by omega)
        rw [hke] at hON
        have x1r := cell_keeps hkr x1
        have q1r := cell_keeps hkr q1
        have hch := hide (HCHK.out wr (HK2.out.trans hkr) _ _ (HLA.out.keeps hkr) (HLR.out.keeps hkr))
        have HKR := hide hkr
        clear hkr hke HCHK x0 x1 q0 q1
        go_wp2_with fail
        refine hch.out.mono ?_
        rintro e w4 ⟨rfl, hk4⟩
        have x4 := cell_keeps hk4 xr
        have y4 := cell_keeps hk4 x1r
        have z4 := cell_keeps hk4 q1r
        have hst := sameTexts_any w4 _ _ rd rd (HLR.out.keeps (HKR.out.trans hk4)) (HR2.out.keeps (HKR.out.trans hk4))
        simp only [decide_true] at hst
        have HST := hide hst
        have HK4 := hide (HKR.out.trans hk4)
        clear hst hk4 xr x1r q1r hch HKR
        go_wp2_with fail
        refine HST.out.mono ?_
        rintro e w5 ⟨rfl, hk5⟩
        have x5 := cell_keeps hk5 x4
        have y5 := cell_keeps hk5 y4
        have HK5 := hide (HK4.out.trans hk5)
        clear hk5 x4 y4 z4 HST
        cases b
        · have hpp := HPUT2.out w5 (HK2.out.trans HK5.out) _ _ (HLA.out.keeps HK5.out) (HLR.out.keeps HK5.out)
          rw [HSA.out (hON.out rfl), othersN_self] at hpp
          unfold OwnSh at hpp
          simp only at hpp
          have hpp := hide hpp
          clear HPUT2
          go_wp2_with fail
          refine hpp.out.mono ?_
          rintro e w6 ⟨ev3, rv3, rfl, ⟨he3, hr3⟩, hk6⟩
          obtain ⟨o3, c3, rfl⟩ := row_form he3
          obtain ⟨p3, d3, rfl⟩ := row_form hr3
          obtain ⟨W6, hW6⟩ : ∃ W, w6.alloc (.cells #[.slice o3 A.length c3, .slice p3 rd.length d3] 64) = W := ⟨_, rfl⟩
          have kW6 : Keeps [] w6 W6 := by rw [← hW6]; exact (Keeps.refl [] w6).alloc _
          have hb6 := (nblk_new rfl hW6).1
          have x6 := cell_blk hb6 0
          have y6 := cell_blk hb6 1
          simp at x6 y6
          have x7 := cell_keeps (hk6.trans kW6) x5
          have y7 := cell_keeps (hk6.trans kW6) y5
          have HK6 := hide (HK5.out.trans (hk6.trans kW6))
          have hss := sameShelf_any W6 _ _ _ _ ⟨A, rd⟩ ⟨A, rd⟩ (HLA.out.keeps HK6.out) (HLR.out.keeps HK6.out) ((Lies.of_row he3).keeps kW6) ((Lies.of_row hr3).keeps kW6)
          simp only [decide_true, Bool.and_self] at hss
          have HSS := hide hss
          have HW6 := hide hW6
          clear hss hW6 kW6 hk6 he3 hr3 hb6 hpp x5 y5
          go_upto_region 19 with fail
          rw [HW6.out]
          go_wp2_with fail
          refine HSS.out.mono ?_
          rintro e w7 ⟨rfl, hk7⟩
          go_wp2_with fail
          go_ret
          exact ⟨rfl, (HK2.out.trans HK6.out).trans hk7⟩
        · go_wp2_with fail
          go_ret
          exact ⟨rfl, HK2.out.trans HK5.out⟩
  · have hput := fun w1 (hk : Keeps [] w w1) => put41_bad w1 _ _ _ ⟨es, rd⟩ l (he.keeps hk) (hr.keeps hk) (hv.keeps hk) hf hfl (hM.keeps hk (nn _)) h0
    have hne : (chkPut ⟨es, rd⟩ l != 0) = true := by simpa using h0
    have HKW := hide hkW
    have HW := hide hW
    generalize chkPut ⟨es, rd⟩ l = C at *
    have HPUT := hide hput
    clear he hr hv hM h0 hkW hW hf hfl hput
    have HB := hide hb
    clear hb
    go_enter Tryz.func10, Tryz.ntmps10
    go_upto_region 1 with fail
    rw [HW.out]
    go_wp2_with fail
    refine hbg.mono ?_
    rintro e w1 ⟨rfl, hk1⟩
    have hp := hide (HPUT.out w1 (HKW.out.trans hk1))
    have hb1' := (hk1.block _ (lt_of_block HB.out) List.not_mem_nil).trans HB.out
    have c0 := cell_blk hb1' 0
    have c1 := cell_blk hb1' 1
    simp at c0 c1
    have HK1 := hide (HKW.out.trans hk1)
    clear hbg hk1 hb1' HB b0 b1 HPUT
    go_wp2_with fail
    refine hp.out.mono ?_
    rintro e w2 ⟨rfl, hk2⟩
    have HK2 := hide (HK1.out.trans hk2)
    clear hk2
    go_wp2_with fail
    go_ret
    exact ⟨rfl, HK2.out.alloc _⟩
end Go.Proofs.YtlcljanibjdejaaGreat
namespace Go.Proofs.YtlcljanibjdejaaGreat
open Go.RowKit Go.Maps
open Go.ChangeShapes Go.WideShapes Go.ChangeAt
open Go.ChangeMaps (open_string shut_string)
theorem knob_own : ownKnob Tryz.prog.godebug = none := by kernel_rfl
theorem laid_out : laidOutB Tryz.prog = true := by kernel_rfl
theorem prog_maps : mapsRowed Tryz.prog = true := by kernel_rfl
theorem prog_plain : (true == Tryz.prog.plainKeys) = true := by kernel_rfl
theorem prog_heard : Tryz.prog.stopsHeard = true := by kernel_rfl
theorem prog_enter : Tryz.prog.mayEnter = true := by kernel_rfl
theorem prog_lifted : (false == Tryz.prog.liftsFinal) = true := by kernel_rfl
theorem prog_make : (Tryz.prog.make == some .cut) = true := by kernel_rfl
theorem max_shaped (W : World) (h : W.ShapedOpen Tryz.prog) : HasMax W := Tryz.laysM143.s1_3 W h
end Go.Proofs.YtlcljanibjdejaaGreat
namespace Go.Proofs.YtlcljanibjdejaaGreat
open Go.RowKit Go.Maps Go.Deep
open Go.ChangeShapes Go.WideShapes Go.ChangeAt
theorem five {α : Type} {l : List α} (h : l.length = 5) : ∃ a b c d e, l = [a, b, c, d, e] := by
  match l, h with
  | [a, b, c, d, e], _ => exact ⟨a, b, c, d, e, rfl⟩
theorem twoL {α : Type} {l : List α} (h : l.length = 2) : ∃ a b, l = [a, b] := by
  match l, h with
  | [a, b], _ => exact ⟨a, b, rfl⟩
section
variable {H : Type} {enc : TypeId × Value → H} {w : World} {base : Nat} {spare : Nat → Bool} {held : Bool}
set_option maxRecDepth 8000 in
theorem ens_down {n : Nat} {v : Value} {x : DataW H × List MemPlace} (h : DataW.trod enc Tryz.prog w base spare held n 61 [v] = some x) : ∃ l : List En, Lies w v l.length 5 (ensCells l) ∧ ∀ y ∈ l, FitE y := by
  rcases open_slice Tryz.underlying61 h with ⟨hv, _⟩ | ⟨a, len, cap, m, n', D, Pl, hv, _, hl, hm, hmm, rfl, hx⟩
  · simp at hv
    subst hv
    exact ⟨[], ⟨rfl, .inl ⟨rfl, rfl⟩⟩, by simp⟩
  · simp at hv
    subst hv
    have hlm : len ≤ m := by rw [hmm]; split <;> omega
    have ce : Tryz.prog.cellsOf 75 = 5 := by kernel_rfl
    have c9 : Tryz.prog.cellsOf 9 = 1 := by kernel_rfl
    have c3 : Tryz.prog.cellsOf 3 = 1 := by kernel_rfl
    have each : ∀ i, i < len → ∃ q : En, (∀ r, r < 5 → w.cell? (a.add (i * 5 + r)) = (enCells q)[r]?) ∧ FitE q := by
      intro i hi
      obtain ⟨cs', h1, h2⟩ := hx i (by omega)
      rw [ce] at h1
      obtain ⟨_, hlen, hcell⟩ := World.cells?_some h1
      obtain ⟨xs, k, hk, hxy, _, hxl, hf⟩ := DataW.trod_struct Tryz.underlying75 h2
      have hxl5 : xs.length = 5 := hxl
      clear hxl
      obtain ⟨y0, y1, y2, y3, y4, rfl⟩ := five hxl5
      obtain ⟨v0, v1, v2, v3, v4, rfl⟩ := five hlen
      have g0 := hf 0 _ rfl
      have g1 := hf 1 _ rfl
      have g2 := hf 2 _ rfl
      have g3 := hf 3 _ rfl
      have g4 := hf 4 _ rfl
      simp [c9, c3] at g0 g1 g2 g3 g4
      obtain ⟨s0, e0, _, w0⟩ := DataW.trod_string Tryz.underlying9 g0
      obtain ⟨s1, e1, _, w1⟩ := DataW.trod_string Tryz.underlying9 g1
      obtain ⟨s2, e2, _, w2⟩ := DataW.trod_string Tryz.underlying9 g2
      obtain ⟨n3, e3, _, _⟩ := DataW.trod_int Tryz.underlying3 g3
      obtain ⟨s4, e4, _, w4⟩ := DataW.trod_string Tryz.underlying9 g4
      simp at e0 e1 e2 e3 e4
      subst e0 e1 e2 e3 e4
      refine ⟨⟨s0.data.toList, s1.data.toList, s2.data.toList, n3, s4.data.toList⟩, ?_, ?_⟩
      · intro r hr
        have hc := hcell r hr
        rw [add_add] at hc
        rw [hc]
        match r, hr with
        | 0, _ => simp [enCells]
        | 1, _ => simp [enCells]
        | 2, _ => simp [enCells]
        | 3, _ => simp [enCells]
        | 4, _ => simp [enCells]
      · exact ⟨w0, w1, w2, w4⟩
    haveI : Inhabited En := ⟨⟨[], [], [], 0, []⟩⟩
    obtain ⟨q, hq⟩ := choose_lt each
    refine ⟨(List.range len).map q, ?_, ?_⟩
    · rw [List.length_map, List.length_range]
      refine lies_of (by decide) hl hm (by rw [ensCells_len]; simp) fun j u hj => ?_
      have hj2 : j < len * 5 := by
        have := (List.getElem?_eq_some_iff.1 hj).1
        rw [ensCells_len] at this
        simpa using this
      have hi : j / 5 < ((List.range len).map q).length := by simp; omega
      have hi' : j / 5 < len := by omega
      have hel : ((List.range len).map q)[j / 5] = q (j / 5) := by simp
      have h8 := en_at ((List.range len).map q) (j / 5) (j % 5) hi (by omega)
      rw [show j / 5 * 5 + j % 5 = j from by omega, hj, hel] at h8
      have h9 := (hq (j / 5) hi').1 (j % 5) (by omega)
      rw [show j / 5 * 5 + j % 5 = j from by omega] at h9
      rw [h9, ← h8]
    · intro y hy
      obtain ⟨i, hi, rfl⟩ := List.mem_map.1 hy
      exact (hq i (List.mem_range.1 hi)).2
set_option maxRecDepth 8000 in
theorem strs_down {n : Nat} {v : Value} {x : DataW H × List MemPlace} (h : DataW.trod enc Tryz.prog w base spare held n 62 [v] = some x) : ∃ l : List (List UInt8), Lies w v l.length 1 (idCs l) := by
  rcases open_slice Tryz.underlying62 h with ⟨hv, _⟩ | ⟨a, len, cap, m, n', D, Pl, hv, _, hl, hm, hmm, rfl, hx⟩
  · simp at hv
    subst hv
    exact ⟨[], ⟨rfl, .inl ⟨rfl, rfl⟩⟩⟩
  · simp at hv
    subst hv
    have hlm : len ≤ m := by rw [hmm]; split <;> omega
    have c9 : Tryz.prog.cellsOf 9 = 1 := by kernel_rfl
    have each : ∀ i, i < len → ∃ q : List UInt8, w.cell? (a.add i) = some (.string ⟨q.toArray⟩) := by
      intro i hi
      obtain ⟨cs', h1, h2⟩ := hx i (by omega)
      rw [c9] at h1
      obtain ⟨_, hlen, hcell⟩ := World.cells?_some h1
      obtain ⟨s0, e0, _, _⟩ := DataW.trod_string Tryz.underlying9 h2
      subst e0
      have hc := hcell 0 (by omega)
      rw [add_add] at hc
      refine ⟨s0.data.toList, ?_⟩
      simpa using hc
    obtain ⟨q, hq⟩ := choose_lt each
    refine ⟨(List.range len).map q, ?_⟩
    rw [List.length_map, List.length_range]
    refine lies_of (by decide) hl hm (by simp [idCs]) fun j u hj => ?_
    have hj2 : j < len := by
      have := (List.getElem?_eq_some_iff.1 hj).1
      simpa [idCs] using this
    have hu : u = .string ⟨(q j).toArray⟩ := by
      simp [idCs, hj2] at hj
      exact hj.symm
    rw [hu]
    exact hq j hj2
set_option maxRecDepth 8000 in
theorem sh_arg {v : Value} {d : DataW H} {p : List MemPlace} {fuel : Nat} {b0 : Nat} {r : Reach} (h64 : Value.okWide Tryz.prog w r b0 64 v) (h : DataW.trod enc Tryz.prog w base spare held fuel 64 v.cells.toList = some (d, p)) :
    ∃ (s : Sh) (ev rv : Value), v = .agg #[ev, rv] ∧ Lies w ev s.es.length 5 (ensCells s.es) ∧ Lies w rv s.rd.length 1 (idCs s.rd) ∧ ∀ x ∈ s.es, FitE x := by
  obtain ⟨cs, rfl, hcs⟩ := okWide_struct Tryz.underlying64 h64
  have ce : Tryz.prog.cellsOf 64 = 2 := by kernel_rfl
  have c61 : Tryz.prog.cellsOf 61 = 1 := by kernel_rfl
  have c62 : Tryz.prog.cellsOf 62 = 1 := by kernel_rfl
  rw [ce] at hcs
  obtain ⟨L, rfl⟩ : ∃ L : List Value, cs = L.toArray := ⟨cs.toList, by simp⟩
  have hlen : L.length = 2 := by simpa using hcs
  obtain ⟨v0, v1, rfl⟩ := twoL hlen
  obtain ⟨xs, k, hk, hxy, _, hxl, hf⟩ := DataW.trod_struct Tryz.underlying64 h
  have hxl2 : xs.length = 2 := hxl
  clear hxl
  obtain ⟨y0, y1, rfl⟩ := twoL hxl2
  have g0 := hf 0 _ rfl
  have g1 := hf 1 _ rfl
  simp [c61, c62, Value.cells] at g0 g1
  obtain ⟨l, hl, hfl⟩ := ens_down g0
  obtain ⟨r, hr⟩ := strs_down g1
  exact ⟨⟨l, r⟩, v0, v1, rfl, hl, hr, hfl⟩
end
end Go.Proofs.YtlcljanibjdejaaGreat
namespace Go.Proofs.YtlcljanibjdejaaGreat
open Go.RowKit Go.Maps
open Go.ChangeShapes Go.WideShapes Go.ChangeAt
open Go.ChangeMaps (open_string shut_string)
set_option maxRecDepth 100000 in
theorem shelfOnce_lifted (os : Os) (started : os.Started) (H : Type) (enc : TypeId × Value → H) :
    ReturnsInHanded {} Tryz.checked os 10 .any (Rows.shelfOnceSpec.pre6 enc Tryz.prog Tryz.f10 Rows.shelfOnceRow.domain false) (Rows.shelfOnceSpec.post enc Tryz.prog Tryz.f10 false true false false) := by
  refine returnsInHanded_of_change_shaped (C := Tryz.checked) knob_own started (by kernel_rfl) Tryz.func10
    (ChangeSpec.witness6 (enc := enc) (C := Tryz.checked) false ⟨#[], #[.agg #[.slice none 0 0, .slice none 0 0], .slice none 0 0], []⟩ 8 (by kernel_rfl) (by kernel_rfl) (by kernel_rfl) (by kernel_rfl)) ?_
  intro W base args ds gs before hval0 hW hcnd hsz0 hsh _
  have hM : HasMax W := max_shaped W hsh
  have hval : ∀ (j : Nat) t v, Tryz.f10.params[j]? = some t → args[j]? = some v → Value.okWide Tryz.prog W .any base t v := hval0
  have hW' := hW
  obtain ⟨p, q, hA0, hV, rfl, hfz, hnd⟩ := hW
  have hA : DataW.TrodAll enc Tryz.prog W 0 (fun _ => true) true Tryz.f10.params.toList args.toList ds p := hA0
  rw [Tryz.params10] at hA hval
  obtain ⟨v0, v1, d0, d1, p0, p1, rfl, rfl, rfl, h0, h1⟩ := trodAll_two hA
  obtain ⟨rfl, rfl⟩ := trodVars_none hV
  have hlt : ∀ x ∈ p0 ++ p1, x.block < W.heap.size := fun x hx => hW'.lt x (by simpa using hx)
  obtain ⟨fuel0, hf0⟩ := id h0
  obtain ⟨s0, ev0, rv0, rfl, hE0, hR0, hF0⟩ := sh_arg (hval 0 64 v0 rfl rfl) hf0
  obtain ⟨fuel1, hf1⟩ := id h1
  obtain ⟨o1, n1, c1, rfl⟩ := okWide_slice Tryz.underlying61 (hval 1 61 v1 rfl rfl)
  obtain ⟨l1, hL1, hF1⟩ := ens_down (by simpa [Value.cells] using hf1)
  clear hA0 hval0
  simp only [List.append_nil] at hW'
  have law := shelfOnce_law W ev0 rv0 _ s0 l1 hE0 hR0 hL1 hF0 hF1 hM
  refine law.mono fun e W' ⟨he, hg⟩ => ?_
  subst he
  refine ⟨_, rfl, _, _, _, [], p0 ++ (p1 ++ ([])), [], hW', trodAll_cons_mk (shut_bool Tryz.underlying4 _) trodAll_mk0, ?_, rfl, hg.nil_below.frame _, fun h => by cases h⟩
  exact trodAll_cons_mk (Below.trod laid_out (by kernel_rfl) (of_decide_eq_true (by kernel_rfl)) h0 hg.nil_below (fun x hx => hlt x (by simp [hx]))) (trodAll_cons_mk (Below.trod laid_out (by kernel_rfl) (of_decide_eq_true (by kernel_rfl)) h1 hg.nil_below (fun x hx => hlt x (by simp [hx]))) trodAll_mk0)
set_option maxHeartbeats 8000000 in
theorem shelfOnce_closed : joinedFacts Tryz.prog 10 Tryz.f10 Rows.shelfOnceSpec Rows.shelfOnceRow = true := by
  simp only [joinedFacts, Bool.and_eq_true]
  refine ⟨⟨⟨⟨⟨⟨⟨⟨⟨⟨⟨⟨⟨⟨⟨⟨⟨⟨⟨⟨⟨⟨⟨⟨⟨⟨⟨⟨⟨⟨⟨?_, laid_out⟩, prog_maps⟩, ?_⟩, ?_⟩, ?_⟩, ?_⟩, ?_⟩, ?_⟩, ?_⟩, ?_⟩, ?_⟩, ?_⟩, ?_⟩, ?_⟩, ?_⟩, ?_⟩, ?_⟩, ?_⟩, ?_⟩, ?_⟩, ?_⟩, prog_plain⟩, ?_⟩, prog_heard⟩, prog_enter⟩, prog_lifted⟩, prog_make⟩, ?_⟩, ?_⟩, ?_⟩, ?_⟩
  all_goals as_aux_lemma => kernel_rfl
theorem shelfOnce_named : Tryz.prog.funcNamed Rows.shelfOnceRow.func = some 10 := by kernel_rfl
theorem shelfOnce_holds : Rows.ShelfOnceSaid :=
  OpenClaim.holds_of_wide 10 Tryz.f10 rfl rfl rfl rfl rfl rfl rfl ⟨rfl, rfl, rfl, rfl, rfl⟩ rfl rfl rfl rfl rfl shelfOnce_named Tryz.func10 shelfOnce_closed
    (of_decide_eq_true (by as_aux_lemma => kernel_rfl)) (by unfold Func.isWrapper; first | (rw [if_pos (by decide +kernel)]; kernel_rfl) | (rw [if_neg (by decide +kernel)]; exact ⟨rfl, rfl⟩))
    (fun os started H enc _ => shelfOnce_lifted os started H enc)
#print axioms shelfOnce_holds
end Go.Proofs.YtlcljanibjdejaaGreat
