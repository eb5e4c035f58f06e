/- ShelfMarks holds: for every input it returns true, and each argument reads behind the call as it read before. -/
import Derived.Test.YtlcljanibjdejaaGreatSm24
import Derived.ProofKit
import Derived.OpenShut
import Derived.ShutString
import Derived.JoinedCond
import Derived.HandedShaped
import Derived.Carry
import Derived.SizedLaws
namespace Go.Proofs.YtlcljanibjdejaaGreat
open Go.RowKit Go.Maps
set_option maxRecDepth 4000 in
set_option maxHeartbeats 4000000 in
theorem sameTexts_any (w : World) (va vb : Value) (la lb : List (List UInt8)) (ha : Lies w va la.length 1 (idCs la)) (hb : Lies w vb lb.length 1 (idCs lb)) :
    Calls Tryz.prog 53 #[va, vb] w fun e w' => e = .returned (.bool (decide (la = lb))) ∧ Keeps [] w w' := by
  obtain ⟨oa, ca, rfl, ha1, ha2⟩ := ha.form
  obtain ⟨ob, cb, rfl, hb1, hb2⟩ := hb.form
  unfold maxLen at ha2 hb2
  obtain ⟨R, hR⟩ : ∃ R, decide (la = lb) = R := ⟨_, rfl⟩
  rw [hR]
  by_cases hlen : la.length = lb.length
  · have HR := hide hR
    clear hR
    have HL := hide hlen
    have hn : (((la.length : Int) != (lb.length : Int))) = false := by simp; omega
    clear hlen
    go_enter Tryz.func53, Tryz.ntmps53
    go_wp2_with fail
    go_loopw [5] (fun i wr => ∃ k m : Nat, k ≤ la.length ∧ i = .int .i64 k ∧ wr = w.drewN m ∧ Hid (∀ j (h1 : j < la.length) (h2 : j < lb.length), j < k → la[j] = lb[j])) (fun i _ => la.length - (intOf i).toNat)
    case atStart => exact ⟨0, 0, Nat.zero_le _, rfl, rfl, fun j _ _ h => absurd h (Nat.not_lt_zero _)⟩
    case round =>
      obtain ⟨k, m, hk, rfl, rfl, hH⟩ := hrel
      by_cases hlt : k < la.length
      · obtain ⟨ga, xa, rfl, hca⟩ := ha.addr (by omega)
        obtain ⟨gb, xb, rfl, hcb⟩ := hb.addr (by rw [← HL.out]; omega)
        have hltb : k < lb.length := by rw [← HL.out]; exact hlt
        have a0 := hca _ _ (idCs_at la k hlt)
        have b0 := hcb _ _ (idCs_at lb k hltb)
        clear hca hcb
        by_cases hkk : la[k] = lb[k]
        · have hcx : (la[k] == lb[k]) = true := by simpa using hkk
          have HKK := hide hkk
          clear hkk
          go_wp2_with fail
          go_quiet (fail)
          go_wp2_with fail
          go_roundw
          case rel => exact ⟨k + 1, _, by omega, by go_num, rfl, fun j h1 h2 hj => by
            rcases Nat.lt_succ_iff_lt_or_eq.1 hj with hj | rfl
            · exact hH.out j h1 h2 hj
            · exact HKK.out⟩
          case measure => simp [intOf]; omega
        · have hcx : (la[k] == lb[k]) = false := by simpa using hkk
          have hRf : R = false := by
            rw [← HR.out]
            have : la ≠ lb := fun e => hkk (by subst e; rfl)
            simpa using this
          subst hRf
          clear hkk
          go_wp2_with fail
          go_quiet (fail)
          go_wp2_with fail
          go_ret
          exact ⟨rfl, ((Keeps.refl [] w).drewN _).drewN _⟩
      · have hRt : R = true := by
          rw [← HR.out]
          have : la = lb := List.ext_getElem HL.out (fun j h1 h2 => hH.out j h1 h2 (by omega))
          simpa using this
        subst hRt
        go_wp2_with fail
        go_ret
        exact ⟨rfl, (Keeps.refl [] w).drewN _⟩
  · have hn : (((la.length : Int) != (lb.length : Int))) = true := by simp; omega
    have hRf : R = false := by
      rw [← hR]
      have : la ≠ lb := fun e => hlen (by rw [e])
      simpa using this
    subst hRf
    clear hlen hR
    go_enter Tryz.func53, Tryz.ntmps53
    go_wp2_with fail
    go_ret
    exact ⟨rfl, Keeps.refl _ _⟩
def rackS : Sh := ⟨[⟨[98], [78, 101, 119], [], 9, [60, 98, 62, 120, 60, 47, 98, 62, 121]⟩, ⟨[97], [], [], 5, []⟩], [[97]]⟩
theorem lies_lit {w W : World} {cs : Array Value} {t : TypeId} {n z : Nat} (hn : cs.toList.length = n * z) (hm : n ≤ maxLen) (hW : w.alloc (.cells cs t) = W) : Lies W (.slice (some ⟨w.heap.size, 0, none⟩) n n) n z cs.toList := by
  refine ⟨hn, .inr (.inl ⟨w.heap.size, 0, n, rfl, Nat.le_refl _, hm, fun j u hj => ?_⟩)⟩
  subst hW
  have := lit_cells w cs t j u hj
  rw [Nat.zero_add]
  rwa [add_zero] at this
set_option maxRecDepth 4000 in
set_option maxHeartbeats 4000000 in
theorem rack_any (w : World) : Calls Tryz.prog 132 #[] w fun e w' => ∃ g h, e = .returned (.agg #[.slice (some ⟨g, 0, none⟩) 2 2, .slice (some ⟨h, 0, none⟩) 1 1]) ∧ Lies w' (.slice (some ⟨g, 0, none⟩) 2 2) 2 5 (ensCells rackS.es) ∧ Lies w' (.slice (some ⟨h, 0, none⟩) 1 1) 1 1 (idCs rackS.rd) ∧ Keeps [] w w' := by
  obtain ⟨W0, hW0⟩ : ∃ W, w.alloc (.cells #[.slice none 0 0, .slice none 0 0] 64) = W := ⟨_, rfl⟩
  obtain ⟨W1, hW1⟩ : ∃ W, W0.alloc (.cells #[.string ⟨#[98]⟩, .string ⟨#[78, 101, 119]⟩, .string ⟨#[]⟩, .int .i64 9, .string ⟨#[60, 98, 62, 120, 60, 47, 98, 62, 121]⟩, .string ⟨#[97]⟩, .string ⟨#[]⟩, .string ⟨#[]⟩, .int .i64 5, .string ⟨#[]⟩] 75) = W := ⟨_, rfl⟩
  obtain ⟨W2, hW2⟩ : ∃ W, W1.alloc (.cells #[.string ⟨#[97]⟩] 9) = W := ⟨_, rfl⟩
  have k0 : Keeps [] w W0 := by rw [← hW0]; exact (Keeps.refl [] w).alloc _
  have k1 : Keeps [] W0 W1 := by rw [← hW1]; exact (Keeps.refl [] W0).alloc _
  have k2 : Keeps [] W1 W2 := by rw [← hW2]; exact (Keeps.refl [] W1).alloc _
  have hz0 := (fblk_new rfl hW0).2
  have hz1 := (fblk_new rfl hW1).2
  have l1 : Lies W1 (.slice (some ⟨W0.heap.size, 0, none⟩) 2 2) 2 5 (ensCells rackS.es) := lies_lit (z := 5) rfl (by unfold maxLen; omega) hW1
  have l2 : Lies W2 (.slice (some ⟨W1.heap.size, 0, none⟩) 1 1) 1 1 (idCs rackS.rd) := lies_lit (z := 1) rfl (by unfold maxLen; omega) hW2
  have hb0 := ((k1.trans k2).block _ (lt_of_block (fblk_new rfl hW0).1) List.not_mem_nil).trans (fblk_new rfl hW0).1
  have c0 : W2.cell? ⟨w.heap.size, 0, none⟩ = some (.slice none 0 0) := cell_blk hb0 0
  have c1 : W2.cell? ⟨w.heap.size, 1, none⟩ = some (.slice none 0 0) := cell_blk hb0 1
  have f0 : W2.frozen? ⟨w.heap.size, 0, none⟩ = false := free_blk hb0 0
  have f1 : W2.frozen? ⟨w.heap.size, 1, none⟩ = false := free_blk hb0 1
  obtain ⟨W3, hW3⟩ : ∃ W3, (W2.setCell ⟨w.heap.size, 0, none⟩ (.slice (some ⟨W0.heap.size, 0, none⟩) 2 2)).setCell ⟨w.heap.size, 1, none⟩ (.slice (some ⟨W1.heap.size, 0, none⟩) 1 1) = W3 := ⟨_, rfl⟩
  have hb3 : W3.heap[w.heap.size]? = some (.cells #[.slice (some ⟨W0.heap.size, 0, none⟩) 2 2, .slice (some ⟨W1.heap.size, 0, none⟩) 1 1] 64 (0, 0)) := by rw [← hW3]; simp [World.setCell, Array.getElem?_modify, hb0]
  have k3 : Keeps [w.heap.size] W2 W3 := by rw [← hW3]; exact ((Keeps.refl [w.heap.size] W2).setCell (.inl (by simp)) _).setCell (.inl (by simp)) _
  have KK := hide (keeps_on ((k0.trans k1).trans k2) k3 (fun g hg hlt => by simp at hg; omega))
  have L1 : Hid (Lies W3 (.slice (some ⟨W0.heap.size, 0, none⟩) 2 2) 2 5 (ensCells rackS.es)) := hide ⟨l1.1, .inr (.inl ⟨_, 0, 2, rfl, Nat.le_refl _, by unfold maxLen; omega, fun j u hj => by
    obtain ⟨g, o, e, hc⟩ := (l1.keeps k2).addr (by omega)
    injection e with e
    injection e with e1 e2 e3
    subst e1 e2
    exact cell_keepsS k3 (by simp; omega) (hc j u hj)⟩)⟩
  have L2 : Hid (Lies W3 (.slice (some ⟨W1.heap.size, 0, none⟩) 1 1) 1 1 (idCs rackS.rd)) := hide ⟨l2.1, .inr (.inl ⟨_, 0, 1, rfl, Nat.le_refl _, by unfold maxLen; omega, fun j u hj => by
    obtain ⟨g, o, e, hc⟩ := l2.addr (by omega)
    injection e with e
    injection e with e1 e2 e3
    subst e1 e2
    exact cell_keepsS k3 (by simp; omega) (hc j u hj)⟩)⟩
  have d0 : W3.cell? ⟨w.heap.size, 0, none⟩ = some (.slice (some ⟨W0.heap.size, 0, none⟩) 2 2) := cell_blk hb3 0
  have d1 : W3.cell? ⟨w.heap.size, 1, none⟩ = some (.slice (some ⟨W1.heap.size, 0, none⟩) 1 1) := cell_blk hb3 1
  have H0 := hide hW0
  have H3 := hide hW3
  have HB3 := hide hb3
  have h12 := hW2
  rw [← hW1] at h12
  rw [← h12] at c0 c1 f0 f1
  have H12 := hide h12
  rw [hz1] at H3 L2 d1 HB3
  clear hW0 hW1 hW2 hW3 k0 k1 k2 k3 l1 l2 hb0 hb3 hz0 hz1 h12
  go_enter Tryz.func132, Tryz.ntmps132
  go_upto_region 1 with fail
  rw [H0.out]
  go_wp2_with fail
  rw [H12.out, H3.out]
  exact ⟨rfl, _, results_cell_row (P := Tryz.prog) rfl _ W3 w.heap.size 64 _ (0, 0) _ rfl HB3.out Tryz.underlying64 rfl (by kernel_rfl), _, _, rfl, L1.out, L2.out, KK.out⟩
end Go.Proofs.YtlcljanibjdejaaGreat
namespace Go.Proofs.YtlcljanibjdejaaGreat
open Go.RowKit Go.Maps
theorem entries_eq {la lb : List En} : (∀ j (h1 : j < la.length) (h2 : j < lb.length), la[j] = lb[j]) → la.length = lb.length → la = lb := fun h e => List.ext_getElem e h
set_option maxRecDepth 4000 in
set_option maxHeartbeats 4000000 in
theorem sameEntries_any (w : World) (va vb : Value) (la lb : List En) (ha : Lies w va la.length 5 (ensCells la)) (hb : Lies w vb lb.length 5 (ensCells lb)) :
    Calls Tryz.prog 56 #[va, vb] w fun e w' => e = .returned (.bool (decide (la = lb))) ∧ Keeps [] w w' := by
  obtain ⟨oa, ca, rfl, ha1, ha2⟩ := ha.form
  obtain ⟨ob, cb, rfl, hb1, hb2⟩ := hb.form
  unfold maxLen at ha2 hb2
  obtain ⟨R, hR⟩ : ∃ R, decide (la = lb) = R := ⟨_, rfl⟩
  rw [hR]
  by_cases hlen : la.length = lb.length
  · have HR := hide hR
    clear hR
    have HL := hide hlen
    have hn : (((la.length : Int) != (lb.length : Int))) = false := by simp; omega
    clear hlen
    go_enter Tryz.func56, Tryz.ntmps56
    go_wp2_with fail
    go_loopw [5] (fun i wr => ∃ k m : Nat, k ≤ la.length ∧ i = .int .i64 k ∧ wr = w.drewN m ∧ Hid (∀ j (h1 : j < la.length) (h2 : j < lb.length), j < k → la[j] = lb[j])) (fun i _ => la.length - (intOf i).toNat)
    case atStart => exact ⟨0, 0, Nat.zero_le _, rfl, rfl, fun j _ _ h => absurd h (Nat.not_lt_zero _)⟩
    case round =>
      obtain ⟨k, m, hk, rfl, rfl, hH⟩ := hrel
      by_cases hlt : k < la.length
      · obtain ⟨ga, xa, rfl, hca⟩ := ha.addr (by omega)
        obtain ⟨gb, xb, rfl, hcb⟩ := hb.addr (by rw [← HL.out]; omega)
        have hltb : k < lb.length := by rw [← HL.out]; exact hlt
        obtain ⟨a0, a1, a2, a3, a4⟩ := lies_en hca k hlt
        obtain ⟨b0, b1, b2, b3, b4⟩ := lies_en hcb k hltb
        clear hca hcb
        have hgd : Tryz.prog.eqGuardType Tryz.prog.depth 75 = false := by kernel_rfl
        have heq := fun w => neqEn la[k] lb[k] w
        by_cases hkk : la[k] = lb[k]
        · have hee : eqE la[k] lb[k] = true := (eqE_iff _ _).2 hkk
          simp only [hee, Bool.not_true] at heq
          have HKK := hide hkk
          clear hkk hee
          go_wp2_with fail
          go_quiet (fail)
          go_wp2_with fail
          go_roundw
          case rel => exact ⟨k + 1, _, by omega, by go_num, rfl, fun j h1 h2 hj => by
            rcases Nat.lt_succ_iff_lt_or_eq.1 hj with hj | rfl
            · exact hH.out j h1 h2 hj
            · exact HKK.out⟩
          case measure => simp [intOf]; omega
        · have hee : eqE la[k] lb[k] = false := by
            rw [Bool.eq_false_iff]
            exact fun h => hkk ((eqE_iff _ _).1 h)
          simp only [hee, Bool.not_false] at heq
          have hRf : R = false := by
            rw [← HR.out]
            have : la ≠ lb := fun e => hkk (by subst e; rfl)
            simpa using this
          subst hRf
          clear hkk hee
          go_wp2_with fail
          go_quiet (fail)
          go_wp2_with fail
          go_ret
          exact ⟨rfl, ((Keeps.refl [] w).drewN _).drewN _⟩
      · have hRt : R = true := by
          rw [← HR.out]
          have : la = lb := entries_eq (fun j h1 h2 => hH.out j h1 h2 (by omega)) HL.out
          simpa using this
        subst hRt
        go_wp2_with fail
        go_ret
        exact ⟨rfl, (Keeps.refl [] w).drewN _⟩
  · have hn : (((la.length : Int) != (lb.length : Int))) = true := by simp; omega
    have hRf : R = false := by
      rw [← hR]
      have : la ≠ lb := fun e => hlen (by rw [e])
      simpa using this
    subst hRf
    clear hlen hR
    go_enter Tryz.func56, Tryz.ntmps56
    go_wp2_with fail
    go_ret
    exact ⟨rfl, Keeps.refl _ _⟩
end Go.Proofs.YtlcljanibjdejaaGreat
namespace Go.Proofs.YtlcljanibjdejaaGreat
open Go.RowKit Go.Maps
def bT : List Tok := [⟨2, [98], [], []⟩, textTok [120], ⟨3, [98], [], []⟩, textTok [121]]
def bL : List Nd := [.mk [98] [] [] [textN [120]], textN [121]]
def bS : List UInt8 := [60, 98, 62, 120, 60, 47, 98, 62, 121]
theorem b_name : isNameL [98] = true ∧ isNameL [112] = true ∧ isNameL [98, 114] = true := by decide
theorem b_read : readL bS = bT := by
  have h := read_printed bT (by simp [bT, chkL, chkFrom, chkT, chkA, textTok, b_name])
  rwa [show toksP bT = bS from by decide] at h
theorem b_build : buildL bT = bL := by
  have c1 : closedL [[]] [98] = 1 := by decide
  have i1 : innerL (· == [98]) (fun _ => false) [[], [98]] = 1 := by decide
  have e1 : emptyN [98] = false := by decide
  simp [bT, bL, buildL, St.step, textTok, St.start, St.openTag, St.openIn, St.closeTag, St.names, St.all, St.closeFrom, St.close, St.pop, St.endText, Op.put, Op.nd, textN, c1, i1, e1]
theorem none_read : readL [] = [] := read_printed [] rfl
theorem none_build : buildL [] = [] := by simp [buildL, St.start, St.closeFrom, St.close, St.endText]
theorem b_clean : cleanS bS = true := by
  unfold cleanS
  rw [b_read, b_build, show flatL bL = bT from by simp [bL, bT, flatL, textN, emptyN, textTok], show toksP bT = bS from by decide, show isE bL = 0 from (isE_stands bL).2 (by simp [bL, AllSt, standE, attrsE, allowedN, textN])]
  simp
theorem none_clean : cleanS [] = true := by
  unfold cleanS
  rw [none_read, none_build]
  simp [isE, flatL, toksP]
def rack0 : En := ⟨[98], [78, 101, 119], [], 9, bS⟩
def rack1 : En := ⟨[97], [], [], 5, []⟩
theorem rack_eq : rackS = ⟨[rack0, rack1], [[97]]⟩ := rfl
theorem rack0_chk : chkEn rack0 = 0 := by simp [chkEn, rack0, b_clean]; simp [bS]
theorem rack1_chk : chkEn rack1 = 0 := by simp [chkEn, rack1, none_clean]
theorem rack_chk : chkSh rackS = 0 := by
  rw [rack_eq]
  simp [chkSh, chkEs, rack0_chk, rack1_chk, backE, chkRead, notUp]
  simp [rack0, rack1, ordE, cmpI]
theorem rack_fit : ∀ x ∈ rackS.es, FitE x := by
  intro x hx
  rw [rack_eq] at hx
  simp only [List.mem_cons, List.not_mem_nil, or_false] at hx
  rcases hx with rfl | rfl <;> simp [FitE, maxLen, rack0, rack1, bS]
end Go.Proofs.YtlcljanibjdejaaGreat
namespace Go.Proofs.YtlcljanibjdejaaGreat
open Go.RowKit Go.Maps
def comeL : List En := [⟨[99], [], [], 7, []⟩, ⟨[98], [], [], 8, []⟩]
def gotL : List En := [rack0, ⟨[99], [], [], 7, []⟩, rack1]
theorem begun_put : shelved rackS.es comeL = gotL := by
  rw [rack_eq]
  decide
theorem begun_others : othersN gotL rackS.es = 1 := by
  rw [rack_eq]
  decide
theorem begun_come : chkComing comeL = 0 := by
  simp [comeL, chkComing, chkEn, none_clean]
theorem begun_chk : chkPut rackS comeL = 0 := by
  unfold chkPut
  rw [rack_chk, begun_come]
  simp [comeL]
theorem begun_fit : ∀ x ∈ comeL, FitE x := by
  intro x hx
  simp only [comeL, List.mem_cons, List.not_mem_nil, or_false] at hx
  rcases hx with rfl | rfl <;> simp [FitE, maxLen]
theorem begun_mark : markI rackS.rd [98] true = [[97], [98]] := by decide
theorem begun_chkm : chkMark rackS [98] true = 0 := by
  unfold chkMark
  rw [rack_chk, begun_mark]
  rw [rack_eq]
  decide
theorem begun_left : unreadE rackS.es rackS.rd = [rack0] := by
  rw [rack_eq]
  decide
set_option maxRecDepth 8000 in
set_option maxHeartbeats 16000000 in
theorem shelfBegun_any (w : World) (hM : HasMax w) : Calls Tryz.prog 50 #[] w fun e w' => e = .returned (.bool true) ∧ Keeps [] w w' := by
  have nn : ∀ g, g ∉ ([] : List Nat) := fun _ => List.not_mem_nil
  have hrk := hide (fun w => rack_any w)
  have hput := hide (fun w1 (hk : Keeps [] w w1) ev rv v he hr hv => put41_good w1 ev rv v rackS comeL he hr hv rack_fit begun_fit (hM.keeps hk (nn _)) begun_chk)
  have hmrk := hide (fun w1 (hk : Keeps [] w w1) ev rv he hr => mark42_good w1 ev rv rackS [98] true he hr rack_fit (hM.keeps hk (nn _)) begun_chkm)
  have hdrp := hide (fun w1 (hk : Keeps [] w w1) ev rv he hr => drop43_good w1 ev rv rackS he hr rack_fit (hM.keeps hk (nn _)) rack_chk)
  have hunr := hide (fun w1 (hk : Keeps [] w w1) ev rv he hr => unread44_good w1 ev rv rackS he hr rack_fit (hM.keeps hk (nn _)) rack_chk)
  have hchk := hide (fun w1 (hk : Keeps [] w w1) ev rv he hr => shelfCheck_any w1 ev rv rackS he hr rack_fit (hM.keeps hk (nn _)))
  rw [begun_put, begun_others] at hput
  rw [begun_mark] at hmrk
  rw [begun_left] at hdrp hunr
  rw [rack_chk] at hchk
  have hsm := hide (fun w1 va vb ha hb => sameTexts_any w1 va vb [[98]] [[98]] ha hb)
  clear hM
  unfold OwnSh at hput hmrk hdrp
  go_enter Tryz.func50, Tryz.ntmps50
  go_wp2_with fail
  refine (hrk.out w).mono ?_
  rintro e w1 ⟨g1, h1, rfl, hl1, hr1, hk1⟩
  obtain ⟨W1, hW1⟩ : ∃ W, w1.alloc (.cells #[.string ⟨#[99]⟩, .string ⟨#[]⟩, .string ⟨#[]⟩, .int .i64 7, .string ⟨#[]⟩, .string ⟨#[98]⟩, .string ⟨#[]⟩, .string ⟨#[]⟩, .int .i64 8, .string ⟨#[]⟩] 75) = W := ⟨_, rfl⟩
  have kW1 : Keeps [] w1 W1 := by rw [← hW1]; exact (Keeps.refl [] w1).alloc _
  have hlc : Lies W1 (.slice (some ⟨w1.heap.size, 0, none⟩) 2 2) 2 5 (ensCells comeL) := lies_lit (z := 5) rfl (by unfold maxLen; omega) hW1
  have HP := hide (hput.out W1 (hk1.trans kW1) _ _ _ (hl1.keeps kW1) (hr1.keeps kW1) hlc)
  have HK1 := hide (hk1.trans kW1)
  have HW1 := hide hW1
  clear hl1 hr1 hk1 kW1 hlc hW1 hput
  go_wp2_with fail
  rw [HW1.out]
  refine HP.out.mono ?_
  rintro e w2 ⟨ev2, rv2, rfl, ⟨he2, hr2⟩, hk2⟩
  obtain ⟨o2, c2, rfl⟩ := row_form he2
  obtain ⟨p2, d2, rfl⟩ := row_form hr2
  obtain ⟨W2, hW2⟩ : ∃ W, w2.alloc (.cells #[.slice o2 gotL.length c2, .slice p2 rackS.rd.length d2] 64) = W := ⟨_, rfl⟩
  have kW2 : Keeps [] w2 W2 := by rw [← hW2]; exact (Keeps.refl [] w2).alloc _
  have HL2 := hide ((Lies.of_row he2).keeps kW2)
  have HB2 := hide (nblk_new rfl hW2).1
  have HK2 := hide ((HK1.out.trans hk2).trans kW2)
  have HW2 := hide hW2
  clear he2 hr2 hk2 kW2 hW2 HP
  go_wp2_with fail
  rw [HW2.out]
  refine (hrk.out W2).mono ?_
  rintro e w3 ⟨g3, h3, rfl, hl3, hr3, hk3⟩
  have HM3 := hide (hmrk.out w3 (HK2.out.trans hk3) _ _ hl3 hr3)
  have HK3 := hide (HK2.out.trans hk3)
  have HT3 := hide hk3
  clear hl3 hr3 hk3 hmrk
  go_wp2_with fail
  refine HM3.out.mono ?_
  rintro e w4 ⟨ev4, rv4, rfl, ⟨he4, hr4⟩, hk4⟩
  obtain ⟨o4, c4, rfl⟩ := row_form he4
  obtain ⟨p4, d4, rfl⟩ := row_form hr4
  obtain ⟨W4, hW4⟩ : ∃ W, w4.alloc (.cells #[.slice o4 rackS.es.length c4, .slice p4 2 d4] 64) = W := ⟨_, rfl⟩
  have kW4 : Keeps [] w4 W4 := by rw [← hW4]; exact (Keeps.refl [] w4).alloc _
  have HB4 := hide (nblk_new rfl hW4).1
  have HT4 := hide ((HT3.out.trans hk4).trans kW4)
  have HW4 := hide hW4
  clear he4 hr4 hk4 kW4 hW4 HM3
  go_wp2_with fail
  rw [HW4.out]
  refine (hrk.out W4).mono ?_
  rintro e w5 ⟨g5, h5, rfl, hl5, hr5, hk5⟩
  have HM5 := hide (hdrp.out w5 (HK2.out.trans (HT4.out.trans hk5)) _ _ hl5 hr5)
  have HS5 := hide hk5
  clear hl5 hr5 hk5 hdrp
  go_wp2_with fail
  refine HM5.out.mono ?_
  rintro e w6 ⟨ev6, rv6, rfl, ⟨he6, hr6⟩, hk6⟩
  obtain ⟨o6, c6, rfl⟩ := row_form he6
  obtain ⟨p6, d6, rfl⟩ := row_form hr6
  obtain ⟨W6, hW6⟩ : ∃ W, w6.alloc (.cells #[.slice o6 1 c6, .slice p6 rackS.rd.length d6] 64) = W := ⟨_, rfl⟩
  have kW6 : Keeps [] w6 W6 := by rw [← hW6]; exact (Keeps.refl [] w6).alloc _
  have HB6 := hide (nblk_new rfl hW6).1
  have HS6 := hide ((HS5.out.trans hk6).trans kW6)
  have HW6 := hide hW6
  clear he6 hr6 hk6 kW6 hW6 HM5
  go_wp2_with fail
  rw [HW6.out]
  refine (hrk.out W6).mono ?_
  rintro e w7 ⟨g7, h7, rfl, hl7, hr7, hk7⟩
  have HM7 := hide (hunr.out w7 (HK2.out.trans (HT4.out.trans (HS6.out.trans hk7))) _ _ hl7 hr7)
  have HU7 := hide hk7
  clear hl7 hr7 hk7 hunr
  go_wp2_with fail
  refine HM7.out.mono ?_
  rintro e w8 ⟨v8, rfl, ho8, hk8⟩
  obtain ⟨o8, c8, rfl⟩ := row_form ho8
  have HL8 := hide (Lies.of_row ho8)
  have HU8 := hide (HU7.out.trans hk8)
  clear ho8 hk8 HM7
  go_wp2_with fail
  refine (hrk.out w8).mono ?_
  rintro e w9 ⟨g9, h9, rfl, hl9, hr9, hk9⟩
  have HM9 := hide (hchk.out w9 (HK2.out.trans (HT4.out.trans (HS6.out.trans (HU8.out.trans hk9)))) _ _ hl9 hr9)
  have HV9 := hide hk9
  clear hl9 hr9 hk9 hchk
  go_wp2_with fail
  refine HM9.out.mono ?_
  rintro e w10 ⟨rfl, hk10⟩
  have k6 := HU8.out.trans (HV9.out.trans hk10)
  have k4 := HS6.out.trans k6
  have k2 := HT4.out.trans k4
  have b2 := cell_blk ((k2.block _ (lt_of_block HB2.out) List.not_mem_nil).trans HB2.out) 0
  have b4 := cell_blk ((k4.block _ (lt_of_block HB4.out) List.not_mem_nil).trans HB4.out) 1
  have b6 := cell_blk ((k6.block _ (lt_of_block HB6.out) List.not_mem_nil).trans HB6.out) 0
  simp at b2 b4 b6
  rw [show gotL.length = 3 from rfl] at b2
  obtain ⟨ga, xa, rfl, hca⟩ := (HL2.out.keeps k2).addr (by decide)
  obtain ⟨m0, m1, m2, m3, m4⟩ := lies_en hca 0 (by decide)
  obtain ⟨n0, n1, n2, n3, n4⟩ := lies_en hca 1 (by decide)
  simp only [gotL, rack0, List.getElem_cons_zero, List.getElem_cons_succ, Nat.zero_mul, Nat.one_mul, Nat.add_zero] at m0 m1 m2 m3 m4 n0 n1 n2 n3 n4
  obtain ⟨W11, hW11⟩ : ∃ W, w10.alloc (.cells #[.string ⟨#[98]⟩] 9) = W := ⟨_, rfl⟩
  have k11 : Keeps [] w10 W11 := by rw [← hW11]; exact (Keeps.refl [] w10).alloc _
  have hl11 : Lies W11 (.slice (some ⟨w10.heap.size, 0, none⟩) 1 1) 1 1 (idCs [[98]]) := lies_lit (z := 1) rfl (by unfold maxLen; omega) hW11
  have HC11 := hide (hsm.out W11 _ _ (HL8.out.keeps ((HV9.out.trans hk10).trans k11)) hl11)
  have HKE := hide ((HK2.out.trans k2).trans k11)
  have HW11 := hide hW11
  clear hl11 k11 hW11 hca k2 k4 k6 hk10 HM9
  go_wp2_with fail
  rw [HW11.out]
  refine HC11.out.mono ?_
  rintro e w12 ⟨rfl, hk12⟩
  go_wp2_with fail
  go_ret
  exact ⟨by simp, HKE.out.trans hk12⟩
end Go.Proofs.YtlcljanibjdejaaGreat
namespace Go.Proofs.YtlcljanibjdejaaGreat
open Go.RowKit Go.Maps
theorem chkRead_all : ∀ (l : List (List UInt8)) (p : Option (List UInt8)), chkRead p l = 0 → ∀ x ∈ l, x ≠ [] ∧ x.length ≤ 60
  | [], _, _, x, hx => by simp at hx
  | y :: r, p, h, x, hx => by
    unfold chkRead at h
    split at h
    · simp at h
    · rename_i h1
      split at h
      · simp at h
      · rename_i h2
        split at h
        · simp at h
        · rcases List.mem_cons.1 hx with rfl | hx
          · exact ⟨h1, by omega⟩
          · exact chkRead_all r _ h x hx
theorem chkRead_of : ∀ (l : List (List UInt8)) (p : Option (List UInt8)), SortedI (p.toList ++ l) → (∀ x ∈ l, x ≠ [] ∧ x.length ≤ 60) → chkRead p l = 0
  | [], _, _, _ => rfl
  | y :: r, p, h, ha => by
    obtain ⟨h1, h2⟩ := ha y (by simp)
    have hr := chkRead_of r (some y) (by
      cases p with
      | none => simpa using h
      | some z => exact (List.pairwise_cons.1 (show List.Pairwise (fun x y => lessL x y = true) (z :: y :: r) from h)).2) (fun x hx => ha x (by simp [hx]))
    unfold chkRead
    rw [if_neg h1, if_neg (by omega)]
    have hn : notUp p y = false := by
      cases p with
      | none => rfl
      | some z =>
        have := (List.pairwise_cons.1 (show List.Pairwise (fun x y => lessL x y = true) (z :: y :: r) from h)).1 y (by simp)
        simp [notUp, this]
    rw [hn]
    simpa using hr
theorem chkEn_id {x : En} (h : chkEn x = 0) : x.id ≠ [] ∧ x.id.length ≤ 60 := by
  refine ⟨?_, (chkEn_sizes h).1⟩
  intro e
  unfold chkEn at h
  rw [if_pos e] at h
  simp at h
/-- What is marked is right, if it isn't too much. -/
theorem marked_right {s : Sh} {id : List UInt8} {r : Bool} (h : chkSh s = 0) (hid : ∃ x ∈ s.es, x.id = id) (hl : (markI s.rd id r).length ≤ 40) : chkSh ⟨s.es, markI s.rd id r⟩ = 0 := by
  obtain ⟨h1, h2, h3, h4⟩ := chkSh_parts h
  obtain ⟨x, hx, rfl⟩ := hid
  have hen := chkEn_id (chkEs_all s.es none [] h3 x hx)
  have hr : chkRead none (markI s.rd x.id r) = 0 := chkRead_of _ none (by simpa using sorted_markI (chkSh_read h) r) (fun y hy => by
    rcases (mem_markI r).1 hy with ⟨_, rfl⟩ | ⟨hy, _⟩
    · exact hen
    · exact chkRead_all s.rd none h4 y hy)
  unfold chkSh
  rw [if_neg (by simp only; omega), if_neg (by simpa using h3)]
  exact hr
theorem idxE_has {l : List En} {id : List UInt8} : ¬ idxE id l < 0 ↔ ∃ x ∈ l, x.id = id := by
  rcases idxE_cases id l with ⟨h1, h2⟩ | ⟨i, hi, h1, h2⟩
  · rw [h1]
    constructor
    · intro h; omega
    · rintro ⟨x, hx, e⟩; exact absurd e (h2 x hx)
  · rw [h1]
    exact ⟨fun _ => ⟨l[i], List.getElem_mem hi, h2⟩, fun _ => by omega⟩
theorem chkMark_parts {s : Sh} {id : List UInt8} {r : Bool} (h : chkMark s id r = 0) : chkSh s = 0 ∧ (∃ x ∈ s.es, x.id = id) ∧ (markI s.rd id r).length ≤ 40 := by
  unfold chkMark at h
  split at h
  · rename_i h1; exact absurd h h1
  · rename_i h1
    split at h
    · simp at h
    · rename_i h2
      split at h
      · simp at h
      · exact ⟨by simpa using h1, idxE_has.1 h2, by omega⟩
theorem chkMark_of {s : Sh} {id : List UInt8} {r : Bool} (h : chkSh s = 0) (hid : ∃ x ∈ s.es, x.id = id) (hl : (markI s.rd id r).length ≤ 40) : chkMark s id r = 0 := by
  unfold chkMark
  rw [if_neg (by simpa using h), if_neg (idxE_has.2 hid), if_neg (by omega)]
/-- All that ShelfMarks holds against each other. -/
theorem marks_facts {s : Sh} {id : List UInt8} (h : chkMark s id true = 0) :
    chkSh ⟨s.es, markI s.rd id true⟩ = 0 ∧ chkMark ⟨s.es, markI s.rd id true⟩ id false = 0 ∧ chkSh ⟨s.es, markI (markI s.rd id true) id false⟩ = 0 ∧
    (unreadE s.es (markI (markI s.rd id true) id false)).length = (unreadE s.es (markI s.rd id true)).length + 1 ∧ (∀ y ∈ unreadE s.es (markI s.rd id true), y.id ≠ id) ∧ ∃ y ∈ unreadE s.es (markI (markI s.rd id true) id false), y.id = id := by
  obtain ⟨h1, h2, h3⟩ := chkMark_parts h
  have ha := marked_right h1 h2 h3
  have hl : (markI (markI s.rd id true) id false).length ≤ 40 := by
    unfold markI at h3 ⊢
    rw [if_neg (by simp)]
    exact Nat.le_trans (List.length_filter_le _ _) h3
  have hb := marked_right (s := ⟨s.es, markI s.rd id true⟩) (r := false) ha h2 hl
  obtain ⟨x, hx, rfl⟩ := h2
  obtain ⟨m1, m2, m3⟩ := marked_back s.es s.rd x hx (chkSh_right h1).2
  exact ⟨ha, chkMark_of ha ⟨x, hx, rfl⟩ hl, hb, m1, m2, m3⟩
end Go.Proofs.YtlcljanibjdejaaGreat
namespace Go.Proofs.YtlcljanibjdejaaGreat
open Go.RowKit Go.Maps
set_option maxRecDepth 8000 in
set_option maxHeartbeats 32000000 in
theorem shelfMarks_law (w : World) (ev rv : Value) (s : Sh) (id : List UInt8) (he : Lies w ev s.es.length 5 (ensCells s.es)) (hr : Lies w rv s.rd.length 1 (idCs s.rd)) (hf : ∀ x ∈ s.es, FitE x) (hM : HasMax w) :
    Calls Tryz.prog 11 #[.agg #[ev, rv], .string ⟨id.toArray⟩] w fun e w' => e = .returned (.bool true) ∧ Keeps [] w w' := by
  have nn : ∀ g, g ∉ ([] : List Nat) := fun _ => List.not_mem_nil
  obtain ⟨es, rd⟩ := s
  simp only at he hr hf
  obtain ⟨eo, ec, rfl, g1, g2⟩ := he.form
  obtain ⟨ro, rc, rfl, g3, g4⟩ := hr.form
  unfold maxLen at g2 g4
  obtain ⟨W, hW⟩ : ∃ W, w.alloc (.cells #[.slice eo es.length ec, .slice ro rd.length rc] 64) = W := ⟨_, rfl⟩
  have hkW : Keeps [] w W := by rw [← hW]; exact (Keeps.refl [] w).alloc _
  have hb := (nblk_new rfl hW).1
  have hbg := hide (shelfBegun_any W (hM.keeps hkW (nn _)))
  by_cases h0 : chkMark ⟨es, rd⟩ id true = 0
  · obtain ⟨ka, kb, kc, ke, kf, kg⟩ := marks_facts h0
    obtain ⟨k1, _, _⟩ := chkMark_parts h0
    obtain ⟨hp1, _, _, _⟩ := chkSh_parts k1
    simp only at ka kb kc ke kf kg hp1
    have hla : (unreadE es (markI rd id true)).length ≤ es.length := List.length_filter_le _ _
    have hmk := hide (fun w1 (hk : Keeps [] w w1) => mark42_good w1 _ _ ⟨es, rd⟩ id true (he.keeps hk) (hr.keeps hk) hf (hM.keeps hk (nn _)) h0)
    simp only at hmk
    obtain ⟨RA, hRA⟩ : ∃ R, markI rd id true = R := ⟨_, rfl⟩
    rw [hRA] at ka kb kc ke kf kg hla hmk
    obtain ⟨RB, hRB⟩ : ∃ R, markI RA id false = R := ⟨_, rfl⟩
    rw [hRB] at kc ke kg
    have hua := hide (fun w1 (hk : Keeps [] w w1) eva rva h1 h2 => unread44_good w1 eva rva ⟨es, RA⟩ h1 h2 hf (hM.keeps hk (nn _)) ka)
    have hub := hide (fun w1 (hk : Keeps [] w w1) eva rva h1 h2 => unread44_good w1 eva rva ⟨es, RB⟩ h1 h2 hf (hM.keeps hk (nn _)) kc)
    have hmb := hide (fun w1 (hk : Keeps [] w w1) eva rva h1 h2 => mark42_good w1 eva rva ⟨es, RA⟩ id false h1 h2 hf (hM.keeps hk (nn _)) kb)
    have hdr := hide (fun w1 (hk : Keeps [] w w1) eva rva h1 h2 => drop43_good w1 eva rva ⟨es, RA⟩ h1 h2 hf (hM.keeps hk (nn _)) ka)
    have hca := hide (fun w1 (hk : Keeps [] w w1) eva rva h1 h2 => shelfCheck_any w1 eva rva ⟨es, RA⟩ h1 h2 hf (hM.keeps hk (nn _)))
    have hcb := hide (fun w1 (hk : Keeps [] w w1) eva rva h1 h2 => shelfCheck_any w1 eva rva ⟨es, RB⟩ h1 h2 hf (hM.keeps hk (nn _)))
    rw [ka] at hca
    rw [kc] at hcb
    simp only [hRB] at hua hub hmb hdr hca hcb
    obtain ⟨LA, hLA⟩ : ∃ R, unreadE es RA = R := ⟨_, rfl⟩
    obtain ⟨LB, hLB⟩ : ∃ R, unreadE es RB = R := ⟨_, rfl⟩
    rw [hLA] at ke kf hla hua hdr
    rw [hLB] at ke kg hub
    have hse := hide (fun w1 eva evb (h1 : Lies w1 eva es.length 5 (ensCells es)) (h2 : Lies w1 evb es.length 5 (ensCells es)) => sameEntries_any w1 eva evb es es h1 h2)
    simp only [decide_true] at hse
    have HE := hide he
    have HF := hide kf
    have HG := hide kg
    have HB := hide hb
    have HKW := hide hkW
    have HW := hide hW
    have b0 : W.cell? ⟨w.heap.size, 0, none⟩ = some (.slice eo es.length ec) := cell_blk hb 0
    have b1 : W.cell? ⟨w.heap.size, 1, none⟩ = some (.slice ro rd.length rc) := cell_blk hb 1
    unfold OwnSh at hmk hmb hdr
    simp only at hmk hmb hdr
    clear he hr hM h0 ka kb kc kf kg hkW hb hW hRA hRB hLA hLB k1
    go_enter Tryz.func11, Tryz.ntmps11
    go_upto_region 1 with fail
    rw [HW.out]
    go_wp2_with fail
    refine hbg.out.mono ?_
    rintro e w1 ⟨rfl, hk1⟩
    have HK1 := hide (HKW.out.trans hk1)
    have hb1 := (hk1.block _ (lt_of_block HB.out) List.not_mem_nil).trans HB.out
    have c0 := cell_blk hb1 0
    have c1 := cell_blk hb1 1
    simp at c0 c1
    have HB1 := hide hb1
    have hcl := hide (hmk.out w1 HK1.out)
    clear hk1 b0 b1 hb1 hbg hmk
    go_wp2_with fail
    refine hcl.out.mono ?_
    rintro e w2 ⟨ev2, rv2, rfl, ⟨he2, hr2⟩, hk2⟩
    obtain ⟨o2, c2, rfl⟩ := row_form he2
    obtain ⟨p2, d2, rfl⟩ := row_form hr2
    obtain ⟨W2, hW2⟩ : ∃ W, w2.alloc (.cells #[.slice o2 es.length c2, .slice p2 RA.length d2] 64) = W := ⟨_, rfl⟩
    have kW2 : Keeps [] w2 W2 := by rw [← hW2]; exact (Keeps.refl [] w2).alloc _
    have HLE2 := hide ((Lies.of_row he2).keeps kW2)
    have HLR2 := hide ((Lies.of_row hr2).keeps kW2)
    have hb2 := (nblk_new rfl hW2).1
    have HB2 := hide hb2
    have HK2 := hide ((HK1.out.trans hk2).trans kW2)
    have HS2 := hide (hk2.trans kW2)
    have HW2 := hide hW2
    have x0 : W2.cell? ⟨w2.heap.size, 0, none⟩ = some (.slice o2 es.length c2) := cell_blk hb2 0
    have x1 : W2.cell? ⟨w2.heap.size, 1, none⟩ = some (.slice p2 RA.length d2) := cell_blk hb2 1
    have hc3 := hide (hua.out W2 HK2.out _ _ HLE2.out HLR2.out)
    clear he2 hr2 hk2 kW2 hW2 hb2 hcl c0 c1 hua
    go_wp2_with fail
    rw [HW2.out]
    refine hc3.out.mono ?_
    rintro e w3 ⟨v3, rfl, ho3, hk3⟩
    obtain ⟨o3, c3, rfl⟩ := row_form ho3
    have hb23 := (hk3.block _ (lt_of_block HB2.out) List.not_mem_nil).trans HB2.out
    have y0 := cell_blk hb23 0
    have y1 := cell_blk hb23 1
    simp at y0 y1
    have HL3 := hide (Lies.of_row ho3)
    have HT3 := hide hk3
    have hc4 := hide (hmb.out w3 (HK2.out.trans hk3) _ _ (HLE2.out.keeps hk3) (HLR2.out.keeps hk3))
    clear ho3 hk3 hb23 hc3 x0 x1 hmb
    go_wp2_with fail
    refine hc4.out.mono ?_
    rintro e w4 ⟨ev4, rv4, rfl, ⟨he4, hr4⟩, hk4⟩
    obtain ⟨o4, c4, rfl⟩ := row_form he4
    obtain ⟨p4, d4, rfl⟩ := row_form hr4
    obtain ⟨W4, hW4⟩ : ∃ W, w4.alloc (.cells #[.slice o4 es.length c4, .slice p4 RB.length d4] 64) = W := ⟨_, rfl⟩
    have kW4 : Keeps [] w4 W4 := by rw [← hW4]; exact (Keeps.refl [] w4).alloc _
    have HLE4 := hide ((Lies.of_row he4).keeps kW4)
    have HLR4 := hide ((Lies.of_row hr4).keeps kW4)
    have hb4 := (nblk_new rfl hW4).1
    have HB4 := hide hb4
    have HT4 := hide ((HT3.out.trans hk4).trans kW4)
    have HQ4 := hide (hk4.trans kW4)
    have HW4 := hide hW4
    have x0 : W4.cell? ⟨w4.heap.size, 0, none⟩ = some (.slice o4 es.length c4) := cell_blk hb4 0
    have x1 : W4.cell? ⟨w4.heap.size, 1, none⟩ = some (.slice p4 RB.length d4) := cell_blk hb4 1
    have hc5 := hide (hub.out W4 (HK2.out.trans HT4.out) _ _ HLE4.out HLR4.out)
    clear he4 hr4 hk4 kW4 hW4 hb4 hc4 y0 y1 hub
    go_wp2_with fail
    rw [HW4.out]
    refine hc5.out.mono ?_
    rintro e w5 ⟨v5, rfl, ho5, hk5⟩
    obtain ⟨o5, c5, rfl⟩ := row_form ho5
    have HL5 := hide (Lies.of_row ho5)
    have HU5 := hide hk5
    have ht5 := HT4.out.trans hk5
    have hb25 := (ht5.block _ (lt_of_block HB2.out) List.not_mem_nil).trans HB2.out
    have y0 := cell_blk hb25 0
    have y1 := cell_blk hb25 1
    simp at y0 y1
    have hc6 := hide (hdr.out w5 (HK2.out.trans ht5) _ _ (HLE2.out.keeps ht5) (HLR2.out.keeps ht5))
    clear ho5 hk5 hb25 hc5 x0 x1 hdr ht5
    go_wp2_with fail
    refine hc6.out.mono ?_
    rintro e w6 ⟨ev6, rv6, rfl, ⟨he6, hr6⟩, hk6⟩
    obtain ⟨o6, c6, rfl⟩ := row_form he6
    obtain ⟨p6, d6, rfl⟩ := row_form hr6
    obtain ⟨W6, hW6⟩ : ∃ W, w6.alloc (.cells #[.slice o6 LA.length c6, .slice p6 RA.length d6] 64) = W := ⟨_, rfl⟩
    have kW6 : Keeps [] w6 W6 := by rw [← hW6]; exact (Keeps.refl [] w6).alloc _
    have HLE6 := hide ((Lies.of_row he6).keeps kW6)
    have hb6 := (nblk_new rfl hW6).1
    have HB6 := hide hb6
    have HU6 := hide ((HU5.out.trans hk6).trans kW6)
    have HV6 := hide (hk6.trans kW6)
    have HW6 := hide hW6
    have ht6 := HT4.out.trans HU6.out
    have HT6 := hide ht6
    have hb26 := (ht6.block _ (lt_of_block HB2.out) List.not_mem_nil).trans HB2.out
    have x0 := cell_blk hb26 0
    have x1 := cell_blk hb26 1
    simp at x0 x1
    have hc7 := hide (hca.out W6 (HK2.out.trans ht6) _ _ (HLE2.out.keeps ht6) (HLR2.out.keeps ht6))
    clear he6 hr6 hk6 kW6 hW6 hb6 hc6 y0 y1 hca hb26 ht6
    go_upto_region 10 with fail
    rw [HW6.out]
    go_wp2_with fail
    refine hc7.out.mono ?_
    rintro e w7 ⟨rfl, hk7⟩
    have hu7 := HU6.out.trans hk7
    have hb47 := (hu7.block _ (lt_of_block HB4.out) List.not_mem_nil).trans HB4.out
    have y0 := cell_blk hb47 0
    have y1 := cell_blk hb47 1
    simp at y0 y1
    have HX7 := hide hk7
    have hc8 := hide (hcb.out w7 (HK2.out.trans (HT4.out.trans hu7)) _ _ (HLE4.out.keeps hu7) (HLR4.out.keeps hu7))
    clear hk7 hc7 hb47 hu7 x0 x1 hcb
    go_wp2_with fail
    refine hc8.out.mono ?_
    rintro e w8 ⟨rfl, hk8⟩
    have HX8 := hide (HX7.out.trans hk8)
    have HT8 := hide (HT6.out.trans HX8.out)
    have hb28 := (HT8.out.block _ (lt_of_block HB2.out) List.not_mem_nil).trans HB2.out
    have hb68 := (HX8.out.block _ (lt_of_block HB6.out) List.not_mem_nil).trans HB6.out
    have hb08 := ((HS2.out.trans HT8.out).block _ (lt_of_block HB1.out) List.not_mem_nil).trans HB1.out
    have x0 := cell_blk hb28 0
    have z0 := cell_blk hb68 0
    have q0 := cell_blk hb08 0
    simp at x0 z0 q0
    have HLL := hide (HL3.out.keeps (HQ4.out.trans (HU6.out.trans HX8.out)))
    have HLM := hide (HL5.out.keeps (HV6.out.trans HX8.out))
    have HLC := hide (HLE6.out.keeps HX8.out)
    have HSE := hide (fun w9 (hk9 : Keeps [] w8 w9) => hse.out w9 _ _ ((HLE2.out.keeps HT8.out).keeps hk9) ((HE.out.keeps (HK2.out.trans HT8.out)).keeps hk9))
    have HKE := hide (HK2.out.trans HT8.out)
    have eA : (LA.map (·.id)).length = LA.length := by simp
    have eB : (LB.map (·.id)).length = LB.length := by simp
    have hANY : LB.any (fun y => y.id == id) = true := by
      obtain ⟨y, hy, e⟩ := HG.out
      exact List.any_eq_true.2 ⟨y, hy, by simp [e]⟩
    have HANY := hide hANY
    have hse2 : IntKind.i64.wrap ((es.length : Int) - (LA.length : Int)) = (es.length : Int) - (LA.length : Int) := by rw [IntKind.wrap_i64]; omega
    have hla1 : IntKind.i64.wrap ((LA.length : Int) + 1) = (LA.length : Int) + 1 := by rw [IntKind.wrap_i64]; omega
    obtain ⟨_, _, e3, g5, g6⟩ := HL3.out.form
    injection e3 with e31 e32 e33
    subst e31 e33
    obtain ⟨_, _, e5, g7, g8⟩ := HL5.out.form
    injection e5 with e51 e52 e53
    subst e51 e53
    obtain ⟨_, _, e6, g9, g10⟩ := HLE6.out.form
    injection e6 with e61 e62 e63
    subst e61 e63
    unfold maxLen at g6 g8 g10
    rw [eA] at g5
    rw [eB, ke] at g7
    clear hk8 hb28 hb68 hb08 hANY hse HL3 HL5 HLE2 HLR2 HLE4 HLR4 HLE6 HB1 HB2 HB4 HB6 HT3 HQ4 HT4 HU5 HU6 HV6 HX7 HX8 HT6 HS2 hc8 e32 e52 e62 y0 y1
    go_wp2_with fail
    go_loopw [17] (fun a wr => ∃ k m : Nat, k ≤ LA.length ∧ a = .int .i64 k ∧ wr = w8.drewN m) (fun a _ => LA.length - (intOf a).toNat)
    case atStart => exact ⟨0, 0, Nat.zero_le _, rfl, rfl⟩
    case round =>
      obtain ⟨k, m, hk, rfl, rfl⟩ := hrel
      by_cases hlt : k < LA.length
      · obtain ⟨gl, xl, rfl, hcl⟩ := HLL.out.addr (by omega)
        obtain ⟨gc, xc, rfl, hcc⟩ := HLC.out.addr (by omega)
        have l0 := hcl k _ (idCs_at (LA.map (·.id)) k (by omega))
        rw [List.getElem_map] at l0
        obtain ⟨m0, m1, m2, m3, m4⟩ := lies_en hcc k hlt
        have hne := HF.out LA[k] (List.getElem_mem hlt)
        have hkk0 : (0 : Int) ≤ (k : Int) := by omega
        have hkk1 : (k : Int) < (LA.length : Int) := by omega
        clear hcl hcc
        generalize LA[k] = y at *
        have heq : (y.id == id) = false := by simpa using hne
        have hself : (y.id == y.id) = true := by simp
        clear hne
        go_wp2_with fail
        go_quiet (fail)
        go_wp2_with fail
        go_roundw
        case rel => exact ⟨k + 1, _, by omega, by go_num, rfl⟩
        case measure => simp [intOf]; omega
      · go_wp2_with fail
        go_loopw [16, 18] (fun t a wr => ∃ k : Nat, k ≤ LB.length ∧ a = .int .i64 k ∧ t = .bool ((LB.take k).any (fun y => y.id == id)) ∧ wr = w8.drewN m) (fun _ a _ => LB.length - (intOf a).toNat)
        case atStart => exact ⟨0, Nat.zero_le _, rfl, rfl, rfl⟩
        case round =>
          obtain ⟨j, hj, rfl, rfl, rfl⟩ := hrel
          by_cases hltj : j < LB.length
          · obtain ⟨gm, xm, rfl, hcm⟩ := HLM.out.addr (by omega)
            have l0 := hcm j _ (idCs_at (LB.map (·.id)) j (by omega))
            rw [List.getElem_map] at l0
            have hA : (LB.take (j + 1)).any (fun y => y.id == id) = ((LB.take j).any (fun y => y.id == id) || (LB[j].id == id)) := by
              rw [List.take_succ_eq_append_getElem hltj, List.any_append]
              simp
            have hkk0 : (0 : Int) ≤ (j : Int) := by omega
            have hkk1 : (j : Int) < (LA.length : Int) + 1 := by omega
            have HA := hide hA
            clear hcm hA
            generalize LB[j] = y at *
            obtain ⟨P, hP⟩ : ∃ P, (LB.take j).any (fun y => y.id == id) = P := ⟨_, rfl⟩
            rw [hP] at HA ⊢
            clear hP
            cases P
            · obtain ⟨Q, hQ⟩ : ∃ Q, (y.id == id) = Q := ⟨_, rfl⟩
              rw [hQ] at HA
              go_wp2_with fail
              go_roundw
              case rel => exact ⟨j + 1, by omega, by go_num, by rw [HA.out]; simp, trivial⟩
              case measure => simp [intOf]; omega
            · go_wp2_with fail
              go_roundw
              case rel => exact ⟨j + 1, by omega, by go_num, by rw [HA.out]; simp, trivial⟩
              case measure => simp [intOf]; omega
          · rw [List.take_of_length_le (by omega), HANY.out]
            go_wp2_with fail
            refine (HSE.out (w8.drewN m) ((Keeps.refl [] w8).drewN m)).mono ?_
            rintro e w9 ⟨rfl, hk9⟩
            go_wp2_with fail
            go_ret
            exact ⟨rfl, HKE.out.trans (((Keeps.refl [] w8).drewN m).trans hk9)⟩
  · have hmk := hide (fun w1 (hk : Keeps [] w w1) => mark42_bad w1 _ _ ⟨es, rd⟩ id true (he.keeps hk) (hr.keeps hk) hf (hM.keeps hk (nn _)) h0)
    have hne : (chkMark ⟨es, rd⟩ id true != 0) = true := by simpa using h0
    have HB := hide hb
    have HKW := hide hkW
    have HW := hide hW
    generalize chkMark ⟨es, rd⟩ id true = C at *
    clear he hr hM h0 hkW hb hW hf
    go_enter Tryz.func11, Tryz.ntmps11
    go_upto_region 1 with fail
    rw [HW.out]
    go_wp2_with fail
    refine hbg.out.mono ?_
    rintro e w1 ⟨rfl, hk1⟩
    have HK1 := hide (HKW.out.trans hk1)
    have hb1 := (hk1.block _ (lt_of_block HB.out) List.not_mem_nil).trans HB.out
    have c0 := cell_blk hb1 0
    have c1 := cell_blk hb1 1
    simp at c0 c1
    have hcl := hide (hmk.out w1 HK1.out)
    clear hk1 hb1 hbg hmk
    go_wp2_with fail
    refine hcl.out.mono ?_
    rintro e w2 ⟨rfl, hk2⟩
    go_wp2_with fail
    go_ret
    exact ⟨rfl, (HK1.out.trans hk2).alloc _⟩
end Go.Proofs.YtlcljanibjdejaaGreat
namespace Go.Proofs.YtlcljanibjdejaaGreat
open Go.RowKit Go.Maps
open Go.ChangeShapes Go.WideShapes Go.ChangeAt
open Go.ChangeMaps (open_string shut_string)
theorem knob_own : ownKnob Tryz.prog.godebug = none := by kernel_rfl
theorem laid_out : laidOutB Tryz.prog = true := by kernel_rfl
theorem prog_maps : mapsRowed Tryz.prog = true := by kernel_rfl
theorem prog_plain : (true == Tryz.prog.plainKeys) = true := by kernel_rfl
theorem prog_heard : Tryz.prog.stopsHeard = true := by kernel_rfl
theorem prog_enter : Tryz.prog.mayEnter = true := by kernel_rfl
theorem prog_lifted : (false == Tryz.prog.liftsFinal) = true := by kernel_rfl
theorem prog_make : (Tryz.prog.make == some .cut) = true := by kernel_rfl
theorem max_shaped (W : World) (h : W.ShapedOpen Tryz.prog) : HasMax W := Tryz.laysM143.s1_3 W h
end Go.Proofs.YtlcljanibjdejaaGreat
namespace Go.Proofs.YtlcljanibjdejaaGreat
open Go.RowKit Go.Maps Go.Deep
open Go.ChangeShapes Go.WideShapes Go.ChangeAt
theorem five {α : Type} {l : List α} (h : l.length = 5) : ∃ a b c d e, l = [a, b, c, d, e] := by
  match l, h with
  | [a, b, c, d, e], _ => exact ⟨a, b, c, d, e, rfl⟩
theorem twoL {α : Type} {l : List α} (h : l.length = 2) : ∃ a b, l = [a, b] := by
  match l, h with
  | [a, b], _ => exact ⟨a, b, rfl⟩
section
variable {H : Type} {enc : TypeId × Value → H} {w : World} {base : Nat} {spare : Nat → Bool} {held : Bool}
set_option maxRecDepth 8000 in
theorem ens_down {n : Nat} {v : Value} {x : DataW H × List MemPlace} (h : DataW.trod enc Tryz.prog w base spare held n 61 [v] = some x) : ∃ l : List En, Lies w v l.length 5 (ensCells l) ∧ ∀ y ∈ l, FitE y := by
  rcases open_slice Tryz.underlying61 h with ⟨hv, _⟩ | ⟨a, len, cap, m, n', D, Pl, hv, _, hl, hm, hmm, rfl, hx⟩
  · simp at hv
    subst hv
    exact ⟨[], ⟨rfl, .inl ⟨rfl, rfl⟩⟩, by simp⟩
  · simp at hv
    subst hv
    have hlm : len ≤ m := by rw [hmm]; split <;> omega
    have ce : Tryz.prog.cellsOf 75 = 5 := by kernel_rfl
    have c9 : Tryz.prog.cellsOf 9 = 1 := by kernel_rfl
    have c3 : Tryz.prog.cellsOf 3 = 1 := by kernel_rfl
    have each : ∀ i, i < len → ∃ q : En, (∀ r, r < 5 → w.cell? (a.add (i * 5 + r)) = (enCells q)[r]?) ∧ FitE q := by
      intro i hi
      obtain ⟨cs', h1, h2⟩ := hx i (by omega)
      rw [ce] at h1
      obtain ⟨_, hlen, hcell⟩ := World.cells?_some h1
      obtain ⟨xs, k, hk, hxy, _, hxl, hf⟩ := DataW.trod_struct Tryz.underlying75 h2
      have hxl5 : xs.length = 5 := hxl
      clear hxl
      obtain ⟨y0, y1, y2, y3, y4, rfl⟩ := five hxl5
      obtain ⟨v0, v1, v2, v3, v4, rfl⟩ := five hlen
      have g0 := hf 0 _ rfl
      have g1 := hf 1 _ rfl
      have g2 := hf 2 _ rfl
      have g3 := hf 3 _ rfl
      have g4 := hf 4 _ rfl
      simp [c9, c3] at g0 g1 g2 g3 g4
      obtain ⟨s0, e0, _, w0⟩ := DataW.trod_string Tryz.underlying9 g0
      obtain ⟨s1, e1, _, w1⟩ := DataW.trod_string Tryz.underlying9 g1
      obtain ⟨s2, e2, _, w2⟩ := DataW.trod_string Tryz.underlying9 g2
      obtain ⟨n3, e3, _, _⟩ := DataW.trod_int Tryz.underlying3 g3
      obtain ⟨s4, e4, _, w4⟩ := DataW.trod_string Tryz.underlying9 g4
      simp at e0 e1 e2 e3 e4
      subst e0 e1 e2 e3 e4
      refine ⟨⟨s0.data.toList, s1.data.toList, s2.data.toList, n3, s4.data.toList⟩, ?_, ?_⟩
      · intro r hr
        have hc := hcell r hr
        rw [add_add] at hc
        rw [hc]
        match r, hr with
        | 0, _ => simp [enCells]
        | 1, _ => simp [enCells]
        | 2, _ => simp [enCells]
        | 3, _ => simp [enCells]
        | 4, _ => simp [enCells]
      · exact ⟨w0, w1, w2, w4⟩
    haveI : Inhabited En := ⟨⟨[], [], [], 0, []⟩⟩
    obtain ⟨q, hq⟩ := choose_lt each
    refine ⟨(List.range len).map q, ?_, ?_⟩
    · rw [List.length_map, List.length_range]
      refine lies_of (by decide) hl hm (by rw [ensCells_len]; simp) fun j u hj => ?_
      have hj2 : j < len * 5 := by
        have := (List.getElem?_eq_some_iff.1 hj).1
        rw [ensCells_len] at this
        simpa using this
      have hi : j / 5 < ((List.range len).map q).length := by simp; omega
      have hi' : j / 5 < len := by omega
      have hel : ((List.range len).map q)[j / 5] = q (j / 5) := by simp
      have h8 := en_at ((List.range len).map q) (j / 5) (j % 5) hi (by omega)
      rw [show j / 5 * 5 + j % 5 = j from by omega, hj, hel] at h8
      have h9 := (hq (j / 5) hi').1 (j % 5) (by omega)
      rw [show j / 5 * 5 + j % 5 = j from by omega] at h9
      rw [h9, ← h8]
    · intro y hy
      obtain ⟨i, hi, rfl⟩ := List.mem_map.1 hy
      exact (hq i (List.mem_range.1 hi)).2
set_option maxRecDepth 8000 in
theorem strs_down {n : Nat} {v : Value} {x : DataW H × List MemPlace} (h : DataW.trod enc Tryz.prog w base spare held n 62 [v] = some x) : ∃ l : List (List UInt8), Lies w v l.length 1 (idCs l) := by
  rcases open_slice Tryz.underlying62 h with ⟨hv, _⟩ | ⟨a, len, cap, m, n', D, Pl, hv, _, hl, hm, hmm, rfl, hx⟩
  · simp at hv
    subst hv
    exact ⟨[], ⟨rfl, .inl ⟨rfl, rfl⟩⟩⟩
  · simp at hv
    subst hv
    have hlm : len ≤ m := by rw [hmm]; split <;> omega
    have c9 : Tryz.prog.cellsOf 9 = 1 := by kernel_rfl
    have each : ∀ i, i < len → ∃ q : List UInt8, w.cell? (a.add i) = some (.string ⟨q.toArray⟩) := by
      intro i hi
      obtain ⟨cs', h1, h2⟩ := hx i (by omega)
      rw [c9] at h1
      obtain ⟨_, hlen, hcell⟩ := World.cells?_some h1
      obtain ⟨s0, e0, _, _⟩ := DataW.trod_string Tryz.underlying9 h2
      subst e0
      have hc := hcell 0 (by omega)
      rw [add_add] at hc
      refine ⟨s0.data.toList, ?_⟩
      simpa using hc
    obtain ⟨q, hq⟩ := choose_lt each
    refine ⟨(List.range len).map q, ?_⟩
    rw [List.length_map, List.length_range]
    refine lies_of (by decide) hl hm (by simp [idCs]) fun j u hj => ?_
    have hj2 : j < len := by
      have := (List.getElem?_eq_some_iff.1 hj).1
      simpa [idCs] using this
    have hu : u = .string ⟨(q j).toArray⟩ := by
      simp [idCs, hj2] at hj
      exact hj.symm
    rw [hu]
    exact hq j hj2
set_option maxRecDepth 8000 in
theorem sh_arg {v : Value} {d : DataW H} {p : List MemPlace} {fuel : Nat} {b0 : Nat} {r : Reach} (h64 : Value.okWide Tryz.prog w r b0 64 v) (h : DataW.trod enc Tryz.prog w base spare held fuel 64 v.cells.toList = some (d, p)) :
    ∃ (s : Sh) (ev rv : Value), v = .agg #[ev, rv] ∧ Lies w ev s.es.length 5 (ensCells s.es) ∧ Lies w rv s.rd.length 1 (idCs s.rd) ∧ ∀ x ∈ s.es, FitE x := by
  obtain ⟨cs, rfl, hcs⟩ := okWide_struct Tryz.underlying64 h64
  have ce : Tryz.prog.cellsOf 64 = 2 := by kernel_rfl
  have c61 : Tryz.prog.cellsOf 61 = 1 := by kernel_rfl
  have c62 : Tryz.prog.cellsOf 62 = 1 := by kernel_rfl
  rw [ce] at hcs
  obtain ⟨L, rfl⟩ : ∃ L : List Value, cs = L.toArray := ⟨cs.toList, by simp⟩
  have hlen : L.length = 2 := by simpa using hcs
  obtain ⟨v0, v1, rfl⟩ := twoL hlen
  obtain ⟨xs, k, hk, hxy, _, hxl, hf⟩ := DataW.trod_struct Tryz.underlying64 h
  have hxl2 : xs.length = 2 := hxl
  clear hxl
  obtain ⟨y0, y1, rfl⟩ := twoL hxl2
  have g0 := hf 0 _ rfl
  have g1 := hf 1 _ rfl
  simp [c61, c62, Value.cells] at g0 g1
  obtain ⟨l, hl, hfl⟩ := ens_down g0
  obtain ⟨r, hr⟩ := strs_down g1
  exact ⟨⟨l, r⟩, v0, v1, rfl, hl, hr, hfl⟩
end
end Go.Proofs.YtlcljanibjdejaaGreat
namespace Go.Proofs.YtlcljanibjdejaaGreat
open Go.RowKit Go.Maps
open Go.ChangeShapes Go.WideShapes Go.ChangeAt
open Go.ChangeMaps (open_string shut_string)
set_option maxRecDepth 100000 in
theorem shelfMarks_lifted (os : Os) (started : os.Started) (H : Type) (enc : TypeId × Value → H) :
    ReturnsInHanded {} Tryz.checked os 11 .any (Rows.shelfMarksSpec.pre6 enc Tryz.prog Tryz.f11 Rows.shelfMarksRow.domain false) (Rows.shelfMarksSpec.post enc Tryz.prog Tryz.f11 false true false false) := by
  refine returnsInHanded_of_change_shaped (C := Tryz.checked) knob_own started (by kernel_rfl) Tryz.func11
    (ChangeSpec.witness6 (enc := enc) (C := Tryz.checked) false ⟨#[], #[.agg #[.slice none 0 0, .slice none 0 0], .string ByteArray.empty], []⟩ 8 (by kernel_rfl) (by kernel_rfl) (by kernel_rfl) (by kernel_rfl)) ?_
  intro W base args ds gs before hval0 hW hcnd hsz0 hsh _
  have hM : HasMax W := max_shaped W hsh
  have hval : ∀ (j : Nat) t v, Tryz.f11.params[j]? = some t → args[j]? = some v → Value.okWide Tryz.prog W .any base t v := hval0
  have hW' := hW
  obtain ⟨p, q, hA0, hV, rfl, hfz, hnd⟩ := hW
  have hA : DataW.TrodAll enc Tryz.prog W 0 (fun _ => true) true Tryz.f11.params.toList args.toList ds p := hA0
  rw [Tryz.params11] at hA hval
  obtain ⟨v0, v1, d0, d1, p0, p1, rfl, rfl, rfl, h0, h1⟩ := trodAll_two hA
  obtain ⟨rfl, rfl⟩ := trodVars_none hV
  obtain ⟨a1, rfl, rfl, rfl, w1⟩ := open_string Tryz.underlying9 (hval 1 9 v1 rfl rfl) h1
  have hlt : ∀ x ∈ p0, x.block < W.heap.size := fun x hx => hW'.lt x (by simpa using hx)
  obtain ⟨fuel0, hf0⟩ := id h0
  obtain ⟨s0, ev0, rv0, rfl, hE0, hR0, hF0⟩ := sh_arg (hval 0 64 v0 rfl rfl) hf0
  clear hA0 hval0
  simp only [List.append_nil] at hW'
  have law := shelfMarks_law W ev0 rv0 s0 a1.data.toList hE0 hR0 hF0 hM
  simp only [str_backA] at law
  refine law.mono fun e W' ⟨he, hg⟩ => ?_
  subst he
  refine ⟨_, rfl, _, _, _, [], p0 ++ ([] ++ ([])), [], hW', trodAll_cons_mk (shut_bool Tryz.underlying4 _) trodAll_mk0, ?_, rfl, hg.nil_below.frame _, fun h => by cases h⟩
  exact trodAll_cons_mk (Below.trod laid_out (by kernel_rfl) (of_decide_eq_true (by kernel_rfl)) h0 hg.nil_below (fun x hx => hlt x (by simp [hx]))) (trodAll_cons_mk (shut_string Tryz.underlying9 w1) trodAll_mk0)
set_option maxHeartbeats 8000000 in
theorem shelfMarks_closed : joinedFacts Tryz.prog 11 Tryz.f11 Rows.shelfMarksSpec Rows.shelfMarksRow = true := by
  simp only [joinedFacts, Bool.and_eq_true]
  refine ⟨⟨⟨⟨⟨⟨⟨⟨⟨⟨⟨⟨⟨⟨⟨⟨⟨⟨⟨⟨⟨⟨⟨⟨⟨⟨⟨⟨⟨⟨⟨?_, laid_out⟩, prog_maps⟩, ?_⟩, ?_⟩, ?_⟩, ?_⟩, ?_⟩, ?_⟩, ?_⟩, ?_⟩, ?_⟩, ?_⟩, ?_⟩, ?_⟩, ?_⟩, ?_⟩, ?_⟩, ?_⟩, ?_⟩, ?_⟩, ?_⟩, prog_plain⟩, ?_⟩, prog_heard⟩, prog_enter⟩, prog_lifted⟩, prog_make⟩, ?_⟩, ?_⟩, ?_⟩, ?_⟩
  all_goals as_aux_lemma => kernel_rfl
theorem shelfMarks_named : Tryz.prog.funcNamed Rows.shelfMarksRow.func = some 11 := by kernel_rfl
theorem shelfMarks_holds : Rows.ShelfMarksSaid :=
  OpenClaim.holds_of_wide 11 Tryz.f11 rfl rfl rfl rfl rfl rfl rfl ⟨rfl, rfl, rfl, rfl, rfl⟩ rfl rfl rfl rfl rfl shelfMarks_named Tryz.func11 shelfMarks_closed
    (of_decide_eq_true (by as_aux_lemma => kernel_rfl)) (by unfold Func.isWrapper; first | (rw [if_pos (by decide +kernel)]; kernel_rfl) | (rw [if_neg (by decide +kernel)]; exact ⟨rfl, rfl⟩))
    (fun os started H enc _ => shelfMarks_lifted os started H enc)
#print axioms shelfMarks_holds
end Go.Proofs.YtlcljanibjdejaaGreat
