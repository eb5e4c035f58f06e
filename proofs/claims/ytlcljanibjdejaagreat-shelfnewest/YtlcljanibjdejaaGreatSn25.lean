/- ShelfNewest holds: for every input it returns true, and each argument reads behind the call as it read before. -/
import Derived.Test.YtlcljanibjdejaaGreatSn24
import Derived.ProofKit
import Derived.OpenShut
import Derived.ShutString
import Derived.JoinedCond
import Derived.HandedShaped
import Derived.Carry
import Derived.SizedLaws
namespace Go.Proofs.YtlcljanibjdejaaGreat
open Go.RowKit Go.Maps
def bT : List Tok := [⟨2, [98], [], []⟩, textTok [120], ⟨3, [98], [], []⟩, textTok [121]]
def bL : List Nd := [.mk [98] [] [] [textN [120]], textN [121]]
def bS : List UInt8 := [60, 98, 62, 120, 60, 47, 98, 62, 121]
theorem b_name : isNameL [98] = true ∧ isNameL [112] = true ∧ isNameL [98, 114] = true := by decide
theorem b_read : readL bS = bT := by
  have h := read_printed bT (by simp [bT, chkL, chkFrom, chkT, chkA, textTok, b_name])
  rwa [show toksP bT = bS from by decide] at h
theorem b_build : buildL bT = bL := by
  have c1 : closedL [[]] [98] = 1 := by decide
  have i1 : innerL (· == [98]) (fun _ => false) [[], [98]] = 1 := by decide
  have e1 : emptyN [98] = false := by decide
  simp [bT, bL, buildL, St.step, textTok, St.start, St.openTag, St.openIn, St.closeTag, St.names, St.all, St.closeFrom, St.close, St.pop, St.endText, Op.put, Op.nd, textN, c1, i1, e1]
theorem none_read : readL [] = [] := read_printed [] rfl
theorem none_build : buildL [] = [] := by simp [buildL, St.start, St.closeFrom, St.close, St.endText]
theorem b_clean : cleanS bS = true := by
  unfold cleanS
  rw [b_read, b_build, show flatL bL = bT from by simp [bL, bT, flatL, textN, emptyN, textTok], show toksP bT = bS from by decide, show isE bL = 0 from (isE_stands bL).2 (by simp [bL, AllSt, standE, attrsE, allowedN, textN])]
  simp
theorem none_clean : cleanS [] = true := by
  unfold cleanS
  rw [none_read, none_build]
  simp [isE, flatL, toksP]
def rack0 : En := ⟨[98], [78, 101, 119], [], 9, bS⟩
def rack1 : En := ⟨[97], [], [], 5, []⟩
theorem rack_eq : rackS = ⟨[rack0, rack1], [[97]]⟩ := rfl
theorem rack0_chk : chkEn rack0 = 0 := by simp [chkEn, rack0, b_clean]; simp [bS]
theorem rack1_chk : chkEn rack1 = 0 := by simp [chkEn, rack1, none_clean]
theorem rack_chk : chkSh rackS = 0 := by
  rw [rack_eq]
  simp [chkSh, chkEs, rack0_chk, rack1_chk, backE, chkRead, notUp]
  simp [rack0, rack1, ordE, cmpI]
theorem rack_fit : ∀ x ∈ rackS.es, FitE x := by
  intro x hx
  rw [rack_eq] at hx
  simp only [List.mem_cons, List.not_mem_nil, or_false] at hx
  rcases hx with rfl | rfl <;> simp [FitE, maxLen, rack0, rack1, bS]
end Go.Proofs.YtlcljanibjdejaaGreat
namespace Go.Proofs.YtlcljanibjdejaaGreat
open Go.RowKit Go.Maps
def comeL : List En := [⟨[99], [], [], 7, []⟩, ⟨[98], [], [], 8, []⟩]
def gotL : List En := [rack0, ⟨[99], [], [], 7, []⟩, rack1]
theorem begun_put : shelved rackS.es comeL = gotL := by
  rw [rack_eq]
  decide
theorem begun_others : othersN gotL rackS.es = 1 := by
  rw [rack_eq]
  decide
theorem begun_come : chkComing comeL = 0 := by
  simp [comeL, chkComing, chkEn, none_clean]
theorem begun_chk : chkPut rackS comeL = 0 := by
  unfold chkPut
  rw [rack_chk, begun_come]
  simp [comeL]
theorem begun_fit : ∀ x ∈ comeL, FitE x := by
  intro x hx
  simp only [comeL, List.mem_cons, List.not_mem_nil, or_false] at hx
  rcases hx with rfl | rfl <;> simp [FitE, maxLen]
theorem begun_mark : markI rackS.rd [98] true = [[97], [98]] := by decide
theorem begun_chkm : chkMark rackS [98] true = 0 := by
  unfold chkMark
  rw [rack_chk, begun_mark]
  rw [rack_eq]
  decide
theorem begun_left : unreadE rackS.es rackS.rd = [rack0] := by
  rw [rack_eq]
  decide
set_option maxRecDepth 8000 in
set_option maxHeartbeats 16000000 in
theorem shelfBegun_any (w : World) (hM : HasMax w) : Calls Tryz.prog 50 #[] w fun e w' => e = .returned (.bool true) ∧ Keeps [] w w' := by
  have nn : ∀ g, g ∉ ([] : List Nat) := fun _ => List.not_mem_nil
  have hrk := hide (fun w => rack_any w)
  have hput := hide (fun w1 (hk : Keeps [] w w1) ev rv v he hr hv => put41_good w1 ev rv v rackS comeL he hr hv rack_fit begun_fit (hM.keeps hk (nn _)) begun_chk)
  have hmrk := hide (fun w1 (hk : Keeps [] w w1) ev rv he hr => mark42_good w1 ev rv rackS [98] true he hr rack_fit (hM.keeps hk (nn _)) begun_chkm)
  have hdrp := hide (fun w1 (hk : Keeps [] w w1) ev rv he hr => drop43_good w1 ev rv rackS he hr rack_fit (hM.keeps hk (nn _)) rack_chk)
  have hunr := hide (fun w1 (hk : Keeps [] w w1) ev rv he hr => unread44_good w1 ev rv rackS he hr rack_fit (hM.keeps hk (nn _)) rack_chk)
  have hchk := hide (fun w1 (hk : Keeps [] w w1) ev rv he hr => shelfCheck_any w1 ev rv rackS he hr rack_fit (hM.keeps hk (nn _)))
  rw [begun_put, begun_others] at hput
  rw [begun_mark] at hmrk
  rw [begun_left] at hdrp hunr
  rw [rack_chk] at hchk
  have hsm := hide (fun w1 va vb ha hb => sameTexts_any w1 va vb [[98]] [[98]] ha hb)
  clear hM
  unfold OwnSh at hput hmrk hdrp
  go_enter Tryz.func50, Tryz.ntmps50
  go_wp2_with fail
  refine (hrk.out w).mono ?_
  rintro e w1 ⟨g1, h1, rfl, hl1, hr1, hk1⟩
  obtain ⟨W1, hW1⟩ : ∃ W, w1.alloc (.cells #[.string ⟨#[99]⟩, .string ⟨#[]⟩, .string ⟨#[]⟩, .int .i64 7, .string ⟨#[]⟩, .string ⟨#[98]⟩, .string ⟨#[]⟩, .string ⟨#[]⟩, .int .i64 8, .string ⟨#[]⟩] 75) = W := ⟨_, rfl⟩
  have kW1 : Keeps [] w1 W1 := by rw [← hW1]; exact (Keeps.refl [] w1).alloc _
  have hlc : Lies W1 (.slice (some ⟨w1.heap.size, 0, none⟩) 2 2) 2 5 (ensCells comeL) := lies_lit (z := 5) rfl (by unfold maxLen; omega) hW1
  have HP := hide (hput.out W1 (hk1.trans kW1) _ _ _ (hl1.keeps kW1) (hr1.keeps kW1) hlc)
  have HK1 := hide (hk1.trans kW1)
  have HW1 := hide hW1
  clear hl1 hr1 hk1 kW1 hlc hW1 hput
  go_wp2_with fail
  rw [HW1.out]
  refine HP.out.mono ?_
  rintro e w2 ⟨ev2, rv2, rfl, ⟨he2, hr2⟩, hk2⟩
  obtain ⟨o2, c2, rfl⟩ := row_form he2
  obtain ⟨p2, d2, rfl⟩ := row_form hr2
  obtain ⟨W2, hW2⟩ : ∃ W, w2.alloc (.cells #[.slice o2 gotL.length c2, .slice p2 rackS.rd.length d2] 64) = W := ⟨_, rfl⟩
  have kW2 : Keeps [] w2 W2 := by rw [← hW2]; exact (Keeps.refl [] w2).alloc _
  have HL2 := hide ((Lies.of_row he2).keeps kW2)
  have HB2 := hide (nblk_new rfl hW2).1
  have HK2 := hide ((HK1.out.trans hk2).trans kW2)
  have HW2 := hide hW2
  clear he2 hr2 hk2 kW2 hW2 HP
  go_wp2_with fail
  rw [HW2.out]
  refine (hrk.out W2).mono ?_
  rintro e w3 ⟨g3, h3, rfl, hl3, hr3, hk3⟩
  have HM3 := hide (hmrk.out w3 (HK2.out.trans hk3) _ _ hl3 hr3)
  have HK3 := hide (HK2.out.trans hk3)
  have HT3 := hide hk3
  clear hl3 hr3 hk3 hmrk
  go_wp2_with fail
  refine HM3.out.mono ?_
  rintro e w4 ⟨ev4, rv4, rfl, ⟨he4, hr4⟩, hk4⟩
  obtain ⟨o4, c4, rfl⟩ := row_form he4
  obtain ⟨p4, d4, rfl⟩ := row_form hr4
  obtain ⟨W4, hW4⟩ : ∃ W, w4.alloc (.cells #[.slice o4 rackS.es.length c4, .slice p4 2 d4] 64) = W := ⟨_, rfl⟩
  have kW4 : Keeps [] w4 W4 := by rw [← hW4]; exact (Keeps.refl [] w4).alloc _
  have HB4 := hide (nblk_new rfl hW4).1
  have HT4 := hide ((HT3.out.trans hk4).trans kW4)
  have HW4 := hide hW4
  clear he4 hr4 hk4 kW4 hW4 HM3
  go_wp2_with fail
  rw [HW4.out]
  refine (hrk.out W4).mono ?_
  rintro e w5 ⟨g5, h5, rfl, hl5, hr5, hk5⟩
  have HM5 := hide (hdrp.out w5 (HK2.out.trans (HT4.out.trans hk5)) _ _ hl5 hr5)
  have HS5 := hide hk5
  clear hl5 hr5 hk5 hdrp
  go_wp2_with fail
  refine HM5.out.mono ?_
  rintro e w6 ⟨ev6, rv6, rfl, ⟨he6, hr6⟩, hk6⟩
  obtain ⟨o6, c6, rfl⟩ := row_form he6
  obtain ⟨p6, d6, rfl⟩ := row_form hr6
  obtain ⟨W6, hW6⟩ : ∃ W, w6.alloc (.cells #[.slice o6 1 c6, .slice p6 rackS.rd.length d6] 64) = W := ⟨_, rfl⟩
  have kW6 : Keeps [] w6 W6 := by rw [← hW6]; exact (Keeps.refl [] w6).alloc _
  have HB6 := hide (nblk_new rfl hW6).1
  have HS6 := hide ((HS5.out.trans hk6).trans kW6)
  have HW6 := hide hW6
  clear he6 hr6 hk6 kW6 hW6 HM5
  go_wp2_with fail
  rw [HW6.out]
  refine (hrk.out W6).mono ?_
  rintro e w7 ⟨g7, h7, rfl, hl7, hr7, hk7⟩
  have HM7 := hide (hunr.out w7 (HK2.out.trans (HT4.out.trans (HS6.out.trans hk7))) _ _ hl7 hr7)
  have HU7 := hide hk7
  clear hl7 hr7 hk7 hunr
  go_wp2_with fail
  refine HM7.out.mono ?_
  rintro e w8 ⟨v8, rfl, ho8, hk8⟩
  obtain ⟨o8, c8, rfl⟩ := row_form ho8
  have HL8 := hide (Lies.of_row ho8)
  have HU8 := hide (HU7.out.trans hk8)
  clear ho8 hk8 HM7
  go_wp2_with fail
  refine (hrk.out w8).mono ?_
  rintro e w9 ⟨g9, h9, rfl, hl9, hr9, hk9⟩
  have HM9 := hide (hchk.out w9 (HK2.out.trans (HT4.out.trans (HS6.out.trans (HU8.out.trans hk9)))) _ _ hl9 hr9)
  have HV9 := hide hk9
  clear hl9 hr9 hk9 hchk
  go_wp2_with fail
  refine HM9.out.mono ?_
  rintro e w10 ⟨rfl, hk10⟩
  have k6 := HU8.out.trans (HV9.out.trans hk10)
  have k4 := HS6.out.trans k6
  have k2 := HT4.out.trans k4
  have b2 := cell_blk ((k2.block _ (lt_of_block HB2.out) List.not_mem_nil).trans HB2.out) 0
  have b4 := cell_blk ((k4.block _ (lt_of_block HB4.out) List.not_mem_nil).trans HB4.out) 1
  have b6 := cell_blk ((k6.block _ (lt_of_block HB6.out) List.not_mem_nil).trans HB6.out) 0
  simp at b2 b4 b6
  rw [show gotL.length = 3 from rfl] at b2
  obtain ⟨ga, xa, rfl, hca⟩ := (HL2.out.keeps k2).addr (by decide)
  obtain ⟨m0, m1, m2, m3, m4⟩ := lies_en hca 0 (by decide)
  obtain ⟨n0, n1, n2, n3, n4⟩ := lies_en hca 1 (by decide)
  simp only [gotL, rack0, List.getElem_cons_zero, List.getElem_cons_succ, Nat.zero_mul, Nat.one_mul, Nat.add_zero] at m0 m1 m2 m3 m4 n0 n1 n2 n3 n4
  obtain ⟨W11, hW11⟩ : ∃ W, w10.alloc (.cells #[.string ⟨#[98]⟩] 9) = W := ⟨_, rfl⟩
  have k11 : Keeps [] w10 W11 := by rw [← hW11]; exact (Keeps.refl [] w10).alloc _
  have hl11 : Lies W11 (.slice (some ⟨w10.heap.size, 0, none⟩) 1 1) 1 1 (idCs [[98]]) := lies_lit (z := 1) rfl (by unfold maxLen; omega) hW11
  have HC11 := hide (hsm.out W11 _ _ (HL8.out.keeps ((HV9.out.trans hk10).trans k11)) hl11)
  have HKE := hide ((HK2.out.trans k2).trans k11)
  have HW11 := hide hW11
  clear hl11 k11 hW11 hca k2 k4 k6 hk10 HM9
  go_wp2_with fail
  rw [HW11.out]
  refine HC11.out.mono ?_
  rintro e w12 ⟨rfl, hk12⟩
  go_wp2_with fail
  go_ret
  exact ⟨by simp, HKE.out.trans hk12⟩
end Go.Proofs.YtlcljanibjdejaaGreat
namespace Go.Proofs.YtlcljanibjdejaaGreat
open Go.RowKit Go.Maps
theorem run_append_zero {P : Program} (w : World) (t ty e : TypeId) (i : TypeInfo) (ht : P.underlying t = some (.slice e)) (hi : P.info? e = some i) (g n cap : Nat) (hn : n ≤ cap) (a : Option Addr) (c : Nat) :
    (Builtin.append_ #[t, t] ty #[.slice (some ⟨g, 0, none⟩) n cap, .slice a 0 c]).run P w = .ok (.slice (some ⟨g, 0, none⟩) n cap) w := by
  cases a <;> simp [Builtin.append_, run_underlying ht, sizeOf, typeInfo, hi, Builtin.lenOf, Builtin.firstCells, loadCells, loadCellsFrom, hn, storeCells]
theorem wpList_append_lies {P : Program} (w : World) {ops : Array Oper} {rest : List Oper} {o : Oper} {a : Act} {Q : Exit → Act → World → Prop} (hgd : o.guard = none) (s x : Operand) (t : TypeId)
    (ho : o.op = .call { callee := .builtin .append, args := #[s, x], argTypes := #[t, t] })
    (base : Nat) (e : TypeId) (i : TypeInfo) (z : Value) (size bytes : Nat) (ht : P.underlying t = some (.slice e)) (hi : P.info? e = some i) (hz : i.zero = some z)
    (hsize : i.size = size) (hby : i.bytes = bytes) (hzs : z.cells.size = size) (hsz : 0 < size)
    (v : Value) (n : Nat) (xs : List Value) (hs : a.eval s = v) (hown : w.ownsRow base e size v n xs)
    (va : Value) (m : Nat) (ys : List Value) (hx : a.eval x = va) (hl : Lies w va m size ys) (h1 : ∀ u ∈ ys, u.oneCell' = true)
    (h63 : n + m ≤ maxLen) (hbytes : (n + m) * bytes ≤ 140737488355328) (hbase : base ≤ w.heap.size)
    (h : ∀ v' w', w'.ownsRow base e size v' (n + m) (xs ++ ys) → w.grownBy w' v.ownBlock → wpList P ops Q rest (a.put o.dst v') w') : wpList P ops Q (o :: rest) a w := by
  rcases Nat.eq_zero_or_pos m with h0 | h0
  · subst h0
    obtain ⟨ao, ac, rfl, _, _⟩ := hl.form
    have hy : ys = [] := List.eq_nil_of_length_eq_zero (by have := hl.1; omega)
    subst hy
    refine wpList_plain hgd fun K hK => ?_
    have hr : (Builtin.append_ #[t, t] o.type #[v, .slice ao 0 ac]).run P w = .ok v w := by
      rcases hown.2 with ⟨rfl, rfl⟩ | ⟨g, cap, cur, rfl, _, _, hn, _⟩
      · exact run_append_empty w t o.type e i ht hi ao ac
      · exact run_append_zero w t o.type e i ht hi g n cap hn ao ac
    unfold Oper.wp execOp
    simp only [ho, resolve, invoke, builtin, Sem.run_bind, Sem.run_pure, Result.andThen_ok, List.map_toArray, List.map_cons, List.map_nil, hs, hx, hr]
    exact hK _ _ (h v w (by rw [Nat.add_zero, List.append_nil]; exact hown) ⟨rfl, rfl, rfl, Nat.le_refl _, fun _ _ _ => rfl⟩)
  · obtain ⟨ao, ac, rfl, _, _⟩ := hl.form
    obtain ⟨g, off, rfl, hc⟩ := hl.addr h0
    exact wpList_append_own_at9 w hgd s x t ho base e i z size bytes ht hi hz hsize hby hzs hsz v n xs hs hown ⟨g, off, none⟩ m ac ys hx hl.1 (fun j u hj => by rw [Addr.add_lit]; exact hc j u hj) h1 h63 hbytes hbase (fun v' w' h2 h3 _ => h v' w' h2 h3)
theorem newest_gone {s : Sh} {l : List En} (h : chkPut s l = 0) (y : En) (hy : y ∈ s.es ++ l) (hn : idxE y.id (shelved s.es l) < 0) : (shelved s.es l).length = 20 ∧ ∀ z ∈ shelved s.es l, y.tm ≤ z.tm := by
  obtain ⟨h1, _, _⟩ := chkPut_zero h
  obtain ⟨hs, ho⟩ := chkSh_right h1
  have hno : ∀ z ∈ shelved s.es l, z.id ≠ y.id := by
    rcases idxE_cases y.id (shelved s.es l) with ⟨_, h⟩ | ⟨i, hi, h, _⟩
    · exact h
    · omega
  obtain ⟨h2, h3⟩ := shelved_gone hs ho (by simpa using hy) hno
  refine ⟨h2, fun z hz => ?_⟩
  have := h3 z hz
  unfold aheadE at this
  simp at this
  omega
set_option maxRecDepth 8000 in
set_option maxHeartbeats 32000000 in
theorem shelfNewest_law (w : World) (ev rv v : Value) (s : Sh) (l : List En) (he : Lies w ev s.es.length 5 (ensCells s.es)) (hr : Lies w rv s.rd.length 1 (idCs s.rd)) (hv : Lies w v l.length 5 (ensCells l)) (hf : ∀ x ∈ s.es, FitE x) (hfl : ∀ x ∈ l, FitE x) (hM : HasMax w) :
    Calls Tryz.prog 12 #[.agg #[ev, rv], v] w fun e w' => e = .returned (.bool true) ∧ Keeps [] w w' := by
  have nn : ∀ g, g ∉ ([] : List Nat) := fun _ => List.not_mem_nil
  obtain ⟨es, rd⟩ := s
  simp only at he hr hf
  obtain ⟨eo, ec, rfl, g1, g2⟩ := he.form
  obtain ⟨ro, rc, rfl, g3, g4⟩ := hr.form
  obtain ⟨lo, lc, rfl, g5, g6⟩ := hv.form
  unfold maxLen at g2 g4 g6
  obtain ⟨W, hW⟩ : ∃ W, w.alloc (.cells #[.slice eo es.length ec, .slice ro rd.length rc] 64) = W := ⟨_, rfl⟩
  have hkW : Keeps [] w W := by rw [← hW]; exact (Keeps.refl [] w).alloc _
  have hb := (nblk_new rfl hW).1
  have b0 : W.cell? ⟨w.heap.size, 0, none⟩ = some (.slice eo es.length ec) := cell_blk hb 0
  have b1 : W.cell? ⟨w.heap.size, 1, none⟩ = some (.slice ro rd.length rc) := cell_blk hb 1
  have hbg := hide (fun w1 (hk : Keeps [] w w1) => shelfBegun_any w1 (hM.keeps hk (nn _)))
  by_cases h0 : chkPut ⟨es, rd⟩ l = 0
  · have hgone := newest_gone (s := ⟨es, rd⟩) (l := l) h0
    simp only at hgone
    obtain ⟨hc1, hc2, _⟩ := chkPut_zero h0
    obtain ⟨hp1, _, _, _⟩ := chkSh_parts hc1
    obtain ⟨hsr1, hsr2⟩ := chkSh_right hc1
    have hA20 := (shelved_right (m := l) hsr1 hsr2).2.2
    simp only at hp1 hA20
    have hput := hide (put41_good W _ _ _ ⟨es, rd⟩ l (he.keeps hkW) (hr.keeps hkW) (hv.keeps hkW) hf hfl (hM.keeps hkW (nn _)) h0)
    simp only at hput
    obtain ⟨A, hA⟩ : ∃ A, shelved es l = A := ⟨_, rfl⟩
    rw [hA] at hgone hput hA20
    obtain ⟨RN, hRN⟩ : ∃ R, othersN A es = R := ⟨_, rfl⟩
    rw [hRN] at hput
    obtain ⟨i0, hi, hz0, hz1, hz2⟩ := info_parts info75
    have HGO := hide hgone
    have HE := hide he
    have HL := hide hv
    have HB := hide hb
    have HKW := hide hkW
    have HW := hide hW
    unfold OwnSh at hput
    simp only at hput
    clear he hr hv hf hfl hM h0 hgone hkW hb hW hA hRN hc1 hsr1 hsr2
    go_enter Tryz.func12, Tryz.ntmps12
    go_upto_region 1 with fail
    rw [HW.out]
    go_wp2_with fail
    refine hput.out.mono ?_
    rintro e w2 ⟨ev2, rv2, rfl, ⟨he2, hr2⟩, hk2⟩
    obtain ⟨o2, c2, rfl⟩ := row_form he2
    obtain ⟨p2, d2, rfl⟩ := row_form hr2
    obtain ⟨W2, hW2⟩ : ∃ W, w2.alloc (.cells #[.slice o2 A.length c2, .slice p2 rd.length d2] 64) = W := ⟨_, rfl⟩
    have kW2 : Keeps [] w2 W2 := by rw [← hW2]; exact (Keeps.refl [] w2).alloc _
    have HLE2 := hide ((Lies.of_row he2).keeps kW2)
    have hb2 := (nblk_new rfl hW2).1
    have HB2 := hide hb2
    have HK2 := hide ((HKW.out.trans hk2).trans kW2)
    have HW2 := hide hW2
    have hb02 := ((hk2.trans kW2).block _ (lt_of_block HB.out) List.not_mem_nil).trans HB.out
    have HB02 := hide hb02
    have hc3 := hide (hbg.out W2 HK2.out)
    clear he2 hr2 hk2 kW2 hW2 hb2 hput b0 b1 hb02 hbg
    go_wp2_with fail
    rw [HW2.out]
    refine hc3.out.mono ?_
    rintro e w3 ⟨rfl, hk3⟩
    have hb23 := (hk3.block _ (lt_of_block HB2.out) List.not_mem_nil).trans HB2.out
    have hb03 := (hk3.block _ (lt_of_block HB02.out) List.not_mem_nil).trans HB02.out
    have x0 := cell_blk hb23 0
    have q0 := cell_blk hb03 0
    simp at x0 q0
    have HLA := hide (HLE2.out.keeps hk3)
    have HLS := hide (HE.out.keeps (HK2.out.trans hk3))
    have HLL := hide (HL.out.keeps (HK2.out.trans hk3))
    have HK3 := hide (HK2.out.trans hk3)
    have HB3 := hide hb23
    obtain ⟨_, _, e9, g7, g8⟩ := HLA.out.form
    injection e9 with e91 e92 e93
    subst e91 e93
    unfold maxLen at g8
    clear hk3 hb03 hc3 hb23 e92 HE HL HB HB02 HB2 HLE2
    by_cases h20 : A.length < 20
    · have hd20 : decide ((A.length : Int) < 20) = true := decide_eq_true (by omega)
      go_wp2_with fail
      go_loopw [8] (fun a wr => ∃ k : Nat, k ≤ es.length ∧ a = .int .i64 k ∧ Keeps [] w3 wr) (fun a _ => es.length - (intOf a).toNat)
      case atStart => exact ⟨0, Nat.zero_le _, rfl, Keeps.refl _ _⟩
      case round =>
        obtain ⟨k, hk, rfl, hkr⟩ := hrel
        have xr := cell_keeps hkr x0
        have qr := cell_keeps hkr q0
        by_cases hlt : k < es.length
        · obtain ⟨gs, xs, rfl, hcs⟩ := (HLS.out.keeps hkr).addr (by omega)
          obtain ⟨m0, m1, m2, m3, m4⟩ := lies_en hcs k hlt
          have hkk0 : (0 : Int) ≤ (k : Int) := by omega
          have hkk1 : (k : Int) < (es.length : Int) := by omega
          have hix : ¬ idxE es[k].id A < 0 := fun h => by
            have := (HGO.out es[k] (by simp) h).1
            omega
          have hea := hide (fun n => entryAt_any es[k].id (wr.drewN n) _ A (HLA.out.keeps (hkr.drewN n)))
          clear hcs
          generalize es[k] = y at *
          obtain ⟨ix, hixe⟩ : ∃ ix, idxE y.id A = ix := ⟨_, rfl⟩
          rw [hixe] at hix
          simp only [hixe] at hea
          have hd : decide (ix < 0) = false := decide_eq_false hix
          clear hix hixe
          go_wp2_with fail
          go_quiet ((go_at_call 54; exact Calls.quiet_of_same (hea.out _)))
          go_wp2_with fail
          go_roundw
          case rel => exact ⟨k + 1, by omega, by go_num, hkr.drewN _⟩
          case measure => simp [intOf]; omega
        · go_wp2_with fail
          go_ret
          exact ⟨rfl, HK3.out.trans hkr⟩
    · have hAl : A.length = 20 := by omega
      have hd20 : decide ((A.length : Int) < 20) = false := decide_eq_false (by omega)
      obtain ⟨ga, xa, rfl, hca⟩ := HLA.out.addr (by omega)
      obtain ⟨n0, n1, n2, n3, n4⟩ := lies_en hca 19 (by omega)
      have m0 : w3.cell? ⟨ga, xa + 95, none⟩ = some (.string ⟨(A[19]'(by omega)).id.toArray⟩) := n0
      have m1 : w3.cell? ⟨ga, xa + 95 + 1, none⟩ = some (.string ⟨(A[19]'(by omega)).title.toArray⟩) := n1
      have m2 : w3.cell? ⟨ga, xa + 95 + 2, none⟩ = some (.string ⟨(A[19]'(by omega)).link.toArray⟩) := n2
      have m3 : w3.cell? ⟨ga, xa + 95 + 3, none⟩ = some (.int .i64 (A[19]'(by omega)).tm) := n3
      have m4 : w3.cell? ⟨ga, xa + 95 + 4, none⟩ = some (.string ⟨(A[19]'(by omega)).html.toArray⟩) := n4
      have hlast : ∀ y ∈ es ++ l, idxE y.id A < 0 → y.tm ≤ (A[19]'(by omega)).tm := fun y hy h => (HGO.out y hy h).2 _ (List.getElem_mem _)
      clear hca n0 n1 n2 n3 n4
      generalize A[19]'(by omega) = last at *
      have HLAST := hide hlast
      obtain ⟨W5, hW5⟩ : ∃ W, w3.alloc (.cells #[.string ⟨last.id.toArray⟩, .string ⟨last.title.toArray⟩, .string ⟨last.link.toArray⟩, .int .i64 last.tm, .string ⟨last.html.toArray⟩] 75) = W := ⟨_, rfl⟩
      have kW5 : Keeps [] w3 W5 := by rw [← hW5]; exact (Keeps.refl [] w3).alloc _
      have hb5 := (nblk_new rfl hW5).1
      obtain ⟨W6, hW6⟩ : ∃ W, W5.alloc (.cells #[] 75) = W := ⟨_, rfl⟩
      have kW6 : Keeps [] W5 W6 := by rw [← hW6]; exact (Keeps.refl [] W5).alloc _
      have hown6 : W6.ownsRow W5.heap.size 75 5 (.slice (some ⟨W5.heap.size, 0, none⟩) 0 0) 0 [] := by rw [← hW6]; exact World.ownsRow_made W5 #[] 0 (Nat.le_refl _) (by simp [maxLen]) rfl
      have h36 := kW5.trans kW6
      have q6 := cell_keeps h36 q0
      have x6 := cell_keeps h36 x0
      have HK6 := hide h36
      have HB5 := hide hb5
      have HW5 := hide hW5
      have HW6 := hide hW6
      have hsz6 : W5.heap.size ≤ W6.heap.size := kW6.size
      have HKW6 := hide kW6
      have hl5 := lt_of_block hb5
      have HT5 := hide hl5
      clear hlast kW5 kW6 hb5 hW5 hW6 h36 hl5
      go_upto_region 14 with fail
      rw [HW5.out]
      clear m0 m1 m2 m3 m4
      have hLS6 := HLS.out.keeps HK6.out
      have hLL6 := HLL.out.keeps HK6.out
      clear hd20
      rw [← HW6.out] at q6 x6
      go_wp2_with (at_builtin; refine wpList_append_lies _ rfl _ _ 61 rfl W5.heap.size 75 i0 _ 5 72 Tryz.underlying61 hi hz0 hz1 hz2 (by kernel_rfl) (by decide) (.slice (some ⟨W5.heap.size, 0, none⟩) 0 0) 0 [] rfl (by rw [HW6.out]; exact hown6) (.slice eo es.length ec) es.length (ensCells es) rfl (by rw [HW6.out]; exact hLS6) (ens_one es) (by simp only [maxLen]; omega) (by omega) (by rw [HW6.out]; exact hsz6) ?_)
      intro v7 w7 ho7 hg7
      rw [HW6.out] at hg7
      try simp only [Nat.zero_add, List.nil_append] at ho7
      have hk7 : Keeps [W5.heap.size] W6 w7 := (Keeps.refl _ _).grown hg7 (fun i e => .inl (by simp [Value.ownBlock] at e ⊢; exact e.symm))
      have HK7 : Hid (Keeps [] W5 w7) := hide ((HKW6.out.up.trans hk7).mono (fun i hi hlt => by simp at hi; omega))
      obtain ⟨o7, c7, hv7⟩ := row_form ho7
      subst hv7
      have hLL7 := HLL.out.keeps (HK6.out.up.trans hk7 |>.mono (fun i hi hlt => by simp at hi; have := HT5.out; omega) : Keeps [] w3 w7)
      have hsz7 : W5.heap.size ≤ w7.heap.size := HK7.out.size
      clear hg7 hk7 hown6 hLS6 hLL6
      go_wp2_with (at_builtin; refine wpList_append_lies _ rfl _ _ 61 rfl W5.heap.size 75 i0 _ 5 72 Tryz.underlying61 hi hz0 hz1 hz2 (by kernel_rfl) (by decide) (.slice o7 es.length c7) es.length (ensCells es) rfl ho7 (.slice lo l.length lc) l.length (ensCells l) rfl hLL7 (ens_one l) (by simp only [maxLen]; omega) (by omega) hsz7 ?_)
      intro v8 w8 ho8 hg8
      have hk8 : Keeps (Value.slice o7 es.length c7).ownBlock.toList w7 w8 := (Keeps.refl _ w7).grown hg8 (fun i e => .inl (by simp [e]))
      have hK8 : Keeps [] W5 w8 := (HK7.out.up.trans hk8).mono (fun i hi hlt => by have := (ho7.lt i (by simpa using hi)).1; omega)
      obtain ⟨o8, c8, hv8⟩ := row_form ho8
      subst hv8
      obtain ⟨T, hT⟩ : ∃ T, es ++ l = T := ⟨_, rfl⟩
      have hTl : es.length + l.length = T.length := by rw [← hT, List.length_append]
      rw [← ensCells_app, hT, hTl] at ho8
      rw [hTl]
      have HLT := hide (Lies.of_row ho8)
      have k5 : Keeps [] w3 W5 := by rw [← HW5.out]; exact (Keeps.refl [] w3).alloc _
      have HK8 := hide (k5.trans hK8)
      have hb8 := (hK8.block _ (lt_of_block HB5.out) List.not_mem_nil).trans HB5.out
      have y3 := cell_blk hb8 3
      simp at y3
      have z8 := cell_keeps HK8.out x0
      rw [hT] at HLAST
      obtain ⟨_, _, e8, g9, g10⟩ := HLT.out.form
      injection e8 with e81 e82 e83
      subst e81 e83
      unfold maxLen at g10
      have htl : T.length ≤ 32 := by omega
      clear hk8 hK8 hg8 ho8 ho7 hLL7 hT hTl k5 hb8 e82 x6 q6 x0 q0
      go_wp2_with fail
      go_loopw [11] (fun a wr => ∃ k : Nat, k ≤ T.length ∧ a = .int .i64 k ∧ Keeps [] w8 wr) (fun a _ => T.length - (intOf a).toNat)
      case atStart => exact ⟨0, Nat.zero_le _, rfl, Keeps.refl _ _⟩
      case round =>
        obtain ⟨k, hk, rfl, hkr⟩ := hrel
        have zr := cell_keeps hkr z8
        have yr := cell_keeps hkr y3
        by_cases hlt : k < T.length
        · obtain ⟨gs, xs, rfl, hcs⟩ := (HLT.out.keeps hkr).addr (by omega)
          obtain ⟨m0, m1, m2, m3, m4⟩ := lies_en hcs k hlt
          have hkk0 : (0 : Int) ≤ (k : Int) := by omega
          have hkk1 : (k : Int) < (T.length : Int) := by omega
          have hea := hide (fun n => entryAt_any T[k].id (wr.drewN n) _ A (HLA.out.keeps (HK8.out.trans (hkr.drewN n))))
          have hmem : T[k] ∈ T := List.getElem_mem _
          have hnew := HLAST.out T[k] hmem
          clear hcs hmem
          generalize T[k] = y at *
          obtain ⟨ix, hixe⟩ : ∃ ix, idxE y.id A = ix := ⟨_, rfl⟩
          rw [hixe] at hnew
          simp only [hixe, hAl] at hea
          clear hixe
          by_cases hix : ix < 0
          · have hd : decide (ix < 0) = true := decide_eq_true hix
            have hd2 : decide (last.tm < y.tm) = false := decide_eq_false (by have := hnew hix; omega)
            clear hnew hix
            go_wp2_with fail
            go_quiet ((go_at_call 54; exact Calls.quiet_of_same (hea.out _)))
            go_wp2_with fail
            go_roundw
            case rel => exact ⟨k + 1, by omega, by go_num, hkr.drewN _⟩
            case measure => simp [intOf]; omega
          · have hd : decide (ix < 0) = false := decide_eq_false hix
            clear hnew hix
            go_wp2_with fail
            go_quiet ((go_at_call 54; exact Calls.quiet_of_same (hea.out _)))
            go_wp2_with fail
            go_roundw
            case rel => exact ⟨k + 1, by omega, by go_num, hkr.drewN _⟩
            case measure => simp [intOf]; omega
        · go_wp2_with fail
          go_ret
          exact ⟨rfl, (HK3.out.trans HK8.out).trans hkr⟩
  · have hput := hide (put41_bad W _ _ _ ⟨es, rd⟩ l (he.keeps hkW) (hr.keeps hkW) (hv.keeps hkW) hf hfl (hM.keeps hkW (nn _)) h0)
    have hne : (chkPut ⟨es, rd⟩ l != 0) = true := by simpa using h0
    have HKW := hide hkW
    have HW := hide hW
    generalize chkPut ⟨es, rd⟩ l = C at *
    clear he hr hv hM h0 hkW hb hW hf hfl
    go_enter Tryz.func12, Tryz.ntmps12
    go_upto_region 1 with fail
    rw [HW.out]
    go_wp2_with fail
    refine hput.out.mono ?_
    rintro e w2 ⟨rfl, hk2⟩
    obtain ⟨W2, hW2⟩ : ∃ W, w2.alloc (.cells #[.slice none 0 0, .slice none 0 0] 64) = W := ⟨_, rfl⟩
    have kW2 : Keeps [] w2 W2 := by rw [← hW2]; exact (Keeps.refl [] w2).alloc _
    have HK2 := hide ((HKW.out.trans hk2).trans kW2)
    have HW2 := hide hW2
    have hc3 := hide (hbg.out W2 HK2.out)
    clear hk2 kW2 hW2 hput
    go_wp2_with fail
    rw [HW2.out]
    refine hc3.out.mono ?_
    rintro e w3 ⟨rfl, hk3⟩
    go_wp2_with fail
    go_ret
    exact ⟨rfl, HK2.out.trans hk3⟩
end Go.Proofs.YtlcljanibjdejaaGreat
namespace Go.Proofs.YtlcljanibjdejaaGreat
open Go.RowKit Go.Maps
open Go.ChangeShapes Go.WideShapes Go.ChangeAt
open Go.ChangeMaps (open_string shut_string)
theorem knob_own : ownKnob Tryz.prog.godebug = none := by kernel_rfl
theorem laid_out : laidOutB Tryz.prog = true := by kernel_rfl
theorem prog_maps : mapsRowed Tryz.prog = true := by kernel_rfl
theorem prog_plain : (true == Tryz.prog.plainKeys) = true := by kernel_rfl
theorem prog_heard : Tryz.prog.stopsHeard = true := by kernel_rfl
theorem prog_enter : Tryz.prog.mayEnter = true := by kernel_rfl
theorem prog_lifted : (false == Tryz.prog.liftsFinal) = true := by kernel_rfl
theorem prog_make : (Tryz.prog.make == some .cut) = true := by kernel_rfl
theorem max_shaped (W : World) (h : W.ShapedOpen Tryz.prog) : HasMax W := Tryz.laysM143.s1_3 W h
end Go.Proofs.YtlcljanibjdejaaGreat
namespace Go.Proofs.YtlcljanibjdejaaGreat
open Go.RowKit Go.Maps Go.Deep
open Go.ChangeShapes Go.WideShapes Go.ChangeAt
theorem five {α : Type} {l : List α} (h : l.length = 5) : ∃ a b c d e, l = [a, b, c, d, e] := by
  match l, h with
  | [a, b, c, d, e], _ => exact ⟨a, b, c, d, e, rfl⟩
theorem twoL {α : Type} {l : List α} (h : l.length = 2) : ∃ a b, l = [a, b] := by
  match l, h with
  | [a, b], _ => exact ⟨a, b, rfl⟩
section
variable {H : Type} {enc : TypeId × Value → H} {w : World} {base : Nat} {spare : Nat → Bool} {held : Bool}
set_option maxRecDepth 8000 in
theorem ens_down {n : Nat} {v : Value} {x : DataW H × List MemPlace} (h : DataW.trod enc Tryz.prog w base spare held n 61 [v] = some x) : ∃ l : List En, Lies w v l.length 5 (ensCells l) ∧ ∀ y ∈ l, FitE y := by
  rcases open_slice Tryz.underlying61 h with ⟨hv, _⟩ | ⟨a, len, cap, m, n', D, Pl, hv, _, hl, hm, hmm, rfl, hx⟩
  · simp at hv
    subst hv
    exact ⟨[], ⟨rfl, .inl ⟨rfl, rfl⟩⟩, by simp⟩
  · simp at hv
    subst hv
    have hlm : len ≤ m := by rw [hmm]; split <;> omega
    have ce : Tryz.prog.cellsOf 75 = 5 := by kernel_rfl
    have c9 : Tryz.prog.cellsOf 9 = 1 := by kernel_rfl
    have c3 : Tryz.prog.cellsOf 3 = 1 := by kernel_rfl
    have each : ∀ i, i < len → ∃ q : En, (∀ r, r < 5 → w.cell? (a.add (i * 5 + r)) = (enCells q)[r]?) ∧ FitE q := by
      intro i hi
      obtain ⟨cs', h1, h2⟩ := hx i (by omega)
      rw [ce] at h1
      obtain ⟨_, hlen, hcell⟩ := World.cells?_some h1
      obtain ⟨xs, k, hk, hxy, _, hxl, hf⟩ := DataW.trod_struct Tryz.underlying75 h2
      have hxl5 : xs.length = 5 := hxl
      clear hxl
      obtain ⟨y0, y1, y2, y3, y4, rfl⟩ := five hxl5
      obtain ⟨v0, v1, v2, v3, v4, rfl⟩ := five hlen
      have g0 := hf 0 _ rfl
      have g1 := hf 1 _ rfl
      have g2 := hf 2 _ rfl
      have g3 := hf 3 _ rfl
      have g4 := hf 4 _ rfl
      simp [c9, c3] at g0 g1 g2 g3 g4
      obtain ⟨s0, e0, _, w0⟩ := DataW.trod_string Tryz.underlying9 g0
      obtain ⟨s1, e1, _, w1⟩ := DataW.trod_string Tryz.underlying9 g1
      obtain ⟨s2, e2, _, w2⟩ := DataW.trod_string Tryz.underlying9 g2
      obtain ⟨n3, e3, _, _⟩ := DataW.trod_int Tryz.underlying3 g3
      obtain ⟨s4, e4, _, w4⟩ := DataW.trod_string Tryz.underlying9 g4
      simp at e0 e1 e2 e3 e4
      subst e0 e1 e2 e3 e4
      refine ⟨⟨s0.data.toList, s1.data.toList, s2.data.toList, n3, s4.data.toList⟩, ?_, ?_⟩
      · intro r hr
        have hc := hcell r hr
        rw [add_add] at hc
        rw [hc]
        match r, hr with
        | 0, _ => simp [enCells]
        | 1, _ => simp [enCells]
        | 2, _ => simp [enCells]
        | 3, _ => simp [enCells]
        | 4, _ => simp [enCells]
      · exact ⟨w0, w1, w2, w4⟩
    haveI : Inhabited En := ⟨⟨[], [], [], 0, []⟩⟩
    obtain ⟨q, hq⟩ := choose_lt each
    refine ⟨(List.range len).map q, ?_, ?_⟩
    · rw [List.length_map, List.length_range]
      refine lies_of (by decide) hl hm (by rw [ensCells_len]; simp) fun j u hj => ?_
      have hj2 : j < len * 5 := by
        have := (List.getElem?_eq_some_iff.1 hj).1
        rw [ensCells_len] at this
        simpa using this
      have hi : j / 5 < ((List.range len).map q).length := by simp; omega
      have hi' : j / 5 < len := by omega
      have hel : ((List.range len).map q)[j / 5] = q (j / 5) := by simp
      have h8 := en_at ((List.range len).map q) (j / 5) (j % 5) hi (by omega)
      rw [show j / 5 * 5 + j % 5 = j from by omega, hj, hel] at h8
      have h9 := (hq (j / 5) hi').1 (j % 5) (by omega)
      rw [show j / 5 * 5 + j % 5 = j from by omega] at h9
      rw [h9, ← h8]
    · intro y hy
      obtain ⟨i, hi, rfl⟩ := List.mem_map.1 hy
      exact (hq i (List.mem_range.1 hi)).2
set_option maxRecDepth 8000 in
theorem strs_down {n : Nat} {v : Value} {x : DataW H × List MemPlace} (h : DataW.trod enc Tryz.prog w base spare held n 62 [v] = some x) : ∃ l : List (List UInt8), Lies w v l.length 1 (idCs l) := by
  rcases open_slice Tryz.underlying62 h with ⟨hv, _⟩ | ⟨a, len, cap, m, n', D, Pl, hv, _, hl, hm, hmm, rfl, hx⟩
  · simp at hv
    subst hv
    exact ⟨[], ⟨rfl, .inl ⟨rfl, rfl⟩⟩⟩
  · simp at hv
    subst hv
    have hlm : len ≤ m := by rw [hmm]; split <;> omega
    have c9 : Tryz.prog.cellsOf 9 = 1 := by kernel_rfl
    have each : ∀ i, i < len → ∃ q : List UInt8, w.cell? (a.add i) = some (.string ⟨q.toArray⟩) := by
      intro i hi
      obtain ⟨cs', h1, h2⟩ := hx i (by omega)
      rw [c9] at h1
      obtain ⟨_, hlen, hcell⟩ := World.cells?_some h1
      obtain ⟨s0, e0, _, _⟩ := DataW.trod_string Tryz.underlying9 h2
      subst e0
      have hc := hcell 0 (by omega)
      rw [add_add] at hc
      refine ⟨s0.data.toList, ?_⟩
      simpa using hc
    obtain ⟨q, hq⟩ := choose_lt each
    refine ⟨(List.range len).map q, ?_⟩
    rw [List.length_map, List.length_range]
    refine lies_of (by decide) hl hm (by simp [idCs]) fun j u hj => ?_
    have hj2 : j < len := by
      have := (List.getElem?_eq_some_iff.1 hj).1
      simpa [idCs] using this
    have hu : u = .string ⟨(q j).toArray⟩ := by
      simp [idCs, hj2] at hj
      exact hj.symm
    rw [hu]
    exact hq j hj2
set_option maxRecDepth 8000 in
theorem sh_arg {v : Value} {d : DataW H} {p : List MemPlace} {fuel : Nat} {b0 : Nat} {r : Reach} (h64 : Value.okWide Tryz.prog w r b0 64 v) (h : DataW.trod enc Tryz.prog w base spare held fuel 64 v.cells.toList = some (d, p)) :
    ∃ (s : Sh) (ev rv : Value), v = .agg #[ev, rv] ∧ Lies w ev s.es.length 5 (ensCells s.es) ∧ Lies w rv s.rd.length 1 (idCs s.rd) ∧ ∀ x ∈ s.es, FitE x := by
  obtain ⟨cs, rfl, hcs⟩ := okWide_struct Tryz.underlying64 h64
  have ce : Tryz.prog.cellsOf 64 = 2 := by kernel_rfl
  have c61 : Tryz.prog.cellsOf 61 = 1 := by kernel_rfl
  have c62 : Tryz.prog.cellsOf 62 = 1 := by kernel_rfl
  rw [ce] at hcs
  obtain ⟨L, rfl⟩ : ∃ L : List Value, cs = L.toArray := ⟨cs.toList, by simp⟩
  have hlen : L.length = 2 := by simpa using hcs
  obtain ⟨v0, v1, rfl⟩ := twoL hlen
  obtain ⟨xs, k, hk, hxy, _, hxl, hf⟩ := DataW.trod_struct Tryz.underlying64 h
  have hxl2 : xs.length = 2 := hxl
  clear hxl
  obtain ⟨y0, y1, rfl⟩ := twoL hxl2
  have g0 := hf 0 _ rfl
  have g1 := hf 1 _ rfl
  simp [c61, c62, Value.cells] at g0 g1
  obtain ⟨l, hl, hfl⟩ := ens_down g0
  obtain ⟨r, hr⟩ := strs_down g1
  exact ⟨⟨l, r⟩, v0, v1, rfl, hl, hr, hfl⟩
end
end Go.Proofs.YtlcljanibjdejaaGreat
namespace Go.Proofs.YtlcljanibjdejaaGreat
open Go.RowKit Go.Maps
open Go.ChangeShapes Go.WideShapes Go.ChangeAt
open Go.ChangeMaps (open_string shut_string)
set_option maxRecDepth 100000 in
theorem shelfNewest_lifted (os : Os) (started : os.Started) (H : Type) (enc : TypeId × Value → H) :
    ReturnsInHanded {} Tryz.checked os 12 .any (Rows.shelfNewestSpec.pre6 enc Tryz.prog Tryz.f12 Rows.shelfNewestRow.domain false) (Rows.shelfNewestSpec.post enc Tryz.prog Tryz.f12 false true false false) := by
  refine returnsInHanded_of_change_shaped (C := Tryz.checked) knob_own started (by kernel_rfl) Tryz.func12
    (ChangeSpec.witness6 (enc := enc) (C := Tryz.checked) false ⟨#[], #[.agg #[.slice none 0 0, .slice none 0 0], .slice none 0 0], []⟩ 8 (by kernel_rfl) (by kernel_rfl) (by kernel_rfl) (by kernel_rfl)) ?_
  intro W base args ds gs before hval0 hW hcnd hsz0 hsh _
  have hM : HasMax W := max_shaped W hsh
  have hval : ∀ (j : Nat) t v, Tryz.f12.params[j]? = some t → args[j]? = some v → Value.okWide Tryz.prog W .any base t v := hval0
  have hW' := hW
  obtain ⟨p, q, hA0, hV, rfl, hfz, hnd⟩ := hW
  have hA : DataW.TrodAll enc Tryz.prog W 0 (fun _ => true) true Tryz.f12.params.toList args.toList ds p := hA0
  rw [Tryz.params12] at hA hval
  obtain ⟨v0, v1, d0, d1, p0, p1, rfl, rfl, rfl, h0, h1⟩ := trodAll_two hA
  obtain ⟨rfl, rfl⟩ := trodVars_none hV
  have hlt : ∀ x ∈ p0 ++ p1, x.block < W.heap.size := fun x hx => hW'.lt x (by simpa using hx)
  obtain ⟨fuel0, hf0⟩ := id h0
  obtain ⟨s0, ev0, rv0, rfl, hE0, hR0, hF0⟩ := sh_arg (hval 0 64 v0 rfl rfl) hf0
  obtain ⟨fuel1, hf1⟩ := id h1
  obtain ⟨o1, n1, c1, rfl⟩ := okWide_slice Tryz.underlying61 (hval 1 61 v1 rfl rfl)
  obtain ⟨l1, hL1, hF1⟩ := ens_down (by simpa [Value.cells] using hf1)
  clear hA0 hval0
  simp only [List.append_nil] at hW'
  have law := shelfNewest_law W ev0 rv0 _ s0 l1 hE0 hR0 hL1 hF0 hF1 hM
  refine law.mono fun e W' ⟨he, hg⟩ => ?_
  subst he
  refine ⟨_, rfl, _, _, _, [], p0 ++ (p1 ++ ([])), [], hW', trodAll_cons_mk (shut_bool Tryz.underlying4 _) trodAll_mk0, ?_, rfl, hg.nil_below.frame _, fun h => by cases h⟩
  exact trodAll_cons_mk (Below.trod laid_out (by kernel_rfl) (of_decide_eq_true (by kernel_rfl)) h0 hg.nil_below (fun x hx => hlt x (by simp [hx]))) (trodAll_cons_mk (Below.trod laid_out (by kernel_rfl) (of_decide_eq_true (by kernel_rfl)) h1 hg.nil_below (fun x hx => hlt x (by simp [hx]))) trodAll_mk0)
set_option maxHeartbeats 8000000 in
theorem shelfNewest_closed : joinedFacts Tryz.prog 12 Tryz.f12 Rows.shelfNewestSpec Rows.shelfNewestRow = true := by
  simp only [joinedFacts, Bool.and_eq_true]
  refine ⟨⟨⟨⟨⟨⟨⟨⟨⟨⟨⟨⟨⟨⟨⟨⟨⟨⟨⟨⟨⟨⟨⟨⟨⟨⟨⟨⟨⟨⟨⟨?_, laid_out⟩, prog_maps⟩, ?_⟩, ?_⟩, ?_⟩, ?_⟩, ?_⟩, ?_⟩, ?_⟩, ?_⟩, ?_⟩, ?_⟩, ?_⟩, ?_⟩, ?_⟩, ?_⟩, ?_⟩, ?_⟩, ?_⟩, ?_⟩, ?_⟩, prog_plain⟩, ?_⟩, prog_heard⟩, prog_enter⟩, prog_lifted⟩, prog_make⟩, ?_⟩, ?_⟩, ?_⟩, ?_⟩
  all_goals as_aux_lemma => kernel_rfl
theorem shelfNewest_named : Tryz.prog.funcNamed Rows.shelfNewestRow.func = some 12 := by kernel_rfl
theorem shelfNewest_holds : Rows.ShelfNewestSaid :=
  OpenClaim.holds_of_wide 12 Tryz.f12 rfl rfl rfl rfl rfl rfl rfl ⟨rfl, rfl, rfl, rfl, rfl⟩ rfl rfl rfl rfl rfl shelfNewest_named Tryz.func12 shelfNewest_closed
    (of_decide_eq_true (by as_aux_lemma => kernel_rfl)) (by unfold Func.isWrapper; first | (rw [if_pos (by decide +kernel)]; kernel_rfl) | (rw [if_neg (by decide +kernel)]; exact ⟨rfl, rfl⟩))
    (fun os started H enc _ => shelfNewest_lifted os started H enc)
#print axioms shelfNewest_holds
end Go.Proofs.YtlcljanibjdejaaGreat
