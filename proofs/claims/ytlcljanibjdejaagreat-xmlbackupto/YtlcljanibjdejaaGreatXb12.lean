/- Strict trees: Check. Strict trees: Check. Strict trees: Print. Strict trees: Print, a small document. -/
import Derived.Test.YtlcljanibjdejaaGreatXb11
namespace Go.Proofs.YtlcljanibjdejaaGreat
open Go.RowKit Go.Maps
theorem chkAX_drop (l : List Pair) (k : Nat) (hk : k < l.length) (met : List (List UInt8)) : chkAX (l.drop k) met = if isTitleL l[k].1 = false then 1 else if l[k].1 ∈ met then 6 else chkAX (l.drop (k + 1)) (met ++ [l[k].1]) := by
  rw [List.drop_eq_getElem_cons hk]
  rfl
theorem enters252 : Enters 252 := enters_of Tryz.func252 (by kernel_rfl) (by kernel_rfl)
set_option maxRecDepth 4000 in
set_option maxHeartbeats 4000000 in
theorem checkAttrsX_any (w : World) (v : Value) (l : List Pair) (hv : Lies w v l.length 2 (pairCells l)) (hf : Fits l) :
    Calls Tryz.prog 236 #[v, .func (.func 252) #[] #[]] w fun e w' => e = .returned (.int .i64 (chkAX l [])) ∧ Keeps [] w w' := by
  have hE := enters252
  unfold Enters at hE
  obtain ⟨o, c, rfl, h1, h2⟩ := hv.form
  obtain ⟨R, hR⟩ : ∃ R, chkAX l [] = R := ⟨_, rfl⟩
  rw [hR]
  have HR := hide hR
  clear hR
  unfold maxLen at h2
  have hmm := @run_makeMap Tryz.prog
  go_enter Tryz.func236, Tryz.ntmps236
  go_wp2_with fail
  have hset0 : IsSet (w.alloc (.map #[] 0)) w.heap.size [] := IsSet.made w
  have hk0 : Keeps [] w (w.alloc (.map #[] 0)) := (Keeps.refl [] w).alloc _
  go_loopw [13] (fun i wr => ∃ k : Nat, k ≤ l.length ∧ i = .int .i64 k ∧ IsSet wr w.heap.size ((l.take k).map (·.1)) ∧ Keeps [] w wr ∧ Hid (chkAX (l.drop k) ((l.take k).map (·.1)) = R)) (fun i _ => l.length - (intOf i).toNat)
  case atStart => exact ⟨0, Nat.zero_le _, rfl, hset0, hk0, HR⟩
  case round =>
    obtain ⟨k, hk, rfl, hset, hkw, hC⟩ := hrel
    clear HR hset0 hk0
    by_cases hlt : k < l.length
    · obtain ⟨g, x, rfl, hc⟩ := (hv.keeps hkw).addr (by omega)
      have a0 := hc _ _ (pair_at0 l k hlt)
      have a1 := hc _ _ (pair_at1 l k hlt)
      rw [← Nat.add_assoc] at a1
      have hC1 := hC.out
      rw [chkAX_drop l k hlt] at hC1
      have hfk : l[k].1.length ≤ maxLen := hf _ (List.getElem_mem hlt)
      have hts : (l.take (k + 1)).map (·.1) = (l.take k).map (·.1) ++ [l[k].1] := by rw [List.take_succ_eq_append_getElem hlt, List.map_append]; rfl
      have hml : ((l.take k).map (·.1)).length < maxLen := by simp; unfold maxLen; omega
      have HC1 := hide hC1
      clear hC hC1 hc
      generalize (l.take k).map (·.1) = met at *
      have HTS := hide hts
      clear hts
      generalize l[k] = p at *
      obtain ⟨n, v⟩ := p
      have hA : IsPair (wr.alloc (.cells #[.string ⟨n.toArray⟩, .string ⟨v.toArray⟩] 52)) wr.heap.size ⟨n.toArray⟩ ⟨v.toArray⟩ := heap_alloc_new wr _
      have hkA : Keeps [] wr (wr.alloc (.cells #[.string ⟨n.toArray⟩, .string ⟨v.toArray⟩] 52)) := (Keeps.refl [] wr).alloc _
      have hsetA := hide (hset.keeps hkA List.not_mem_nil)
      have hkwA := hide (hkw.trans hkA)
      have HA := hide hA
      have hnm := hide (fun w => isTitle_any ⟨n.toArray⟩ w (by rw [str_size]; exact hfk))
      rw [str_list] at hnm
      simp only at a0 a1
      clear hA hkA
      go_wp2_with fail
      refine (hnm.out _).mono ?_
      rintro e w3 ⟨rfl, hk3⟩
      clear a0 a1 hset
      have hset3 := hsetA.out.keeps hk3 List.not_mem_nil
      have hA3 := HA.out.keeps hk3 List.not_mem_nil
      have hkw3 := hkwA.out.trans hk3
      have c0 := hA3.cell0
      clear hk3
      cases hin : isTitleL n
      · have hR1 : R = 1 := by rw [← HC1.out]; simp [hin]
        subst hR1
        go_wp2_with fail
        go_ret
        exact ⟨rfl, hkw3⟩
      · by_cases hmt : n ∈ met
        · have hR6 : R = 6 := by rw [← HC1.out]; simp [hin, hmt]
          subst hR6
          have hd : decide (n ∈ met) = true := by simpa using hmt
          have hlook := hset3.look n hfk
          rw [hd] at hlook
          go_wp2_with fail
          go_ret
          exact ⟨rfl, hkw3.alloc _⟩
        · have hd : decide (n ∈ met) = false := by simpa using hmt
          have hlook := hset3.look n hfk
          rw [hd] at hlook
          have hk2 : Keeps [] w3 (w3.alloc (.cells #[] 182)) := (Keeps.refl [] w3).alloc _
          obtain ⟨w6, hup, hset6, hk6⟩ := (hset3.keeps hk2 List.not_mem_nil).add n hfk hml
          have c0' := (hA3.keeps ((Keeps.refl [] _).alloc (.cells #[] 182)) List.not_mem_nil).cell0
          have HC2 : Hid (chkAX (l.drop (k + 1)) ((l.take (k + 1)).map (·.1)) = R) := by
            rw [HTS.out]
            have := HC1.out
            simp [hin, hmt] at this
            exact this
          have hkw6 : Keeps [] w w6 := ((hkw3.trans hk2).up.trans hk6).mono fun i hi hlt => by simp at hi; omega
          have hset7 : IsSet w6 w.heap.size ((l.take (k + 1)).map (·.1)) := by rw [HTS.out]; exact hset6
          clear HC1
          go_wp2_with fail
          go_roundw
          case rel => exact ⟨k + 1, by omega, by go_num, hset7, hkw6, HC2⟩
          case measure => simp [intOf]; omega
    · have hRR : R = 0 := by
        rw [← hC.out, List.drop_eq_nil_of_le (by omega)]
        rfl
      subst hRR
      go_wp2_with fail
      go_ret
      exact ⟨rfl, hkw⟩
def chkNodeXOf (n : Nd) (b : List Nd) (i : Nat) (ar : List Nd) : Int :=
  if (n.name.isEmpty && decide (0 < ar.length)) = true then chkText b i else if (!n.text.isEmpty || !isTitleL n.name) = true then 1 else chkAX n.attrs []
def chkNodeX (b : List Nd) (i : Nat) (ar : List Nd) : Int :=
  match b[i]? with
  | none => 0
  | some n => chkNodeXOf n b i ar
set_option maxRecDepth 4000 in
set_option maxHeartbeats 4000000 in
theorem checkNodeX_any (w : World) (P : Nat → Prop) (B1 : Nat) (v : Value) (ns : List Nd) (i : Nat) (av : Value) (pl : List Pn) (hN : Ns w P v ns) (hF : FitsNs ns) (hi : i < ns.length) (hrow : w.ownsRow B1 45 4 av pl.length (pnsCells pl)) (hpl : pl.length ≤ 2000000) :
    Calls Tryz.prog 184 #[v, .int .i64 i, av] w fun e w' => e = .returned (.int .i64 (chkNodeX ns i (pl.map Pn.nd))) ∧ Keeps [] w w' := by
  have hct := hide (fun (W : World) (hk : Keeps [] w W) => checkText_any W P v ns i (hN.keeps0 hk) hi)
  have hc0 : chkNodeX ns i (pl.map Pn.nd) = chkNodeXOf ns[i] ns i (pl.map Pn.nd) := by
    unfold chkNodeX
    rw [List.getElem?_eq_getElem hi]
  rw [hc0]
  have hfit := (fits_mem hF (List.getElem_mem hi)).1
  cases hN with
  | mk _ l _ hns hl ha hk =>
  obtain ⟨o, c', rfl, h1, h2⟩ := hl.lies.form
  obtain ⟨ao, ac, hav9⟩ := row_form hrow
  subst hav9
  have hil : i < l.length := by rw [← hns, List.length_map] at hi; exact hi
  have hni : ns[i] = l[i].nd := by subst hns; simp
  obtain ⟨g, x, rfl, hcl⟩ := hl.lies.addr (by omega)
  obtain ⟨a0, a1, a2, a3⟩ := lies_pn hcl i hil
  have hat := ha l[i] (List.getElem_mem hil)
  obtain ⟨oa, ca, hav⟩ := hat.form
  obtain ⟨ok, ck, hkv⟩ := (hk l[i] (List.getElem_mem hil)).form
  rw [hav] at a1 hat
  rw [hkv] at a3
  rw [hni] at hfit ⊢
  unfold chkNodeXOf
  clear hcl hav hkv ha hk hl hc0 hni hF
  simp only [List.length_map]
  generalize l[i].nd = nd at *
  generalize chkText ns i = CT at *
  have hti := hide (fun W => isTitle_any ⟨nd.name.toArray⟩ W (by rw [str_size]; exact hfit.1))
  rw [str_list] at hti
  have hka : Keeps [] w (w.alloc (.cells #[.string ⟨nd.name.toArray⟩, .slice oa nd.attrs.length ca, .string ⟨nd.text.toArray⟩, .slice ok nd.kids.length ck] 45)) := (Keeps.refl [] w).alloc _
  have hca := hide (fun (W : World) (hk : Keeps [] w W) => checkAttrsX_any W _ nd.attrs (hat.lies.keeps hk) hfit.2)
  generalize chkAX nd.attrs [] = E at *
  generalize isTitleL nd.name = TN at *
  clear hat hfit hrow
  generalize nd.attrs.length = na at *
  generalize nd.kids.length = nk at *
  generalize nd.name = nm at *
  generalize nd.text = tx at *
  unfold maxLen at h2
  clear hns hi
  obtain ⟨W1, hW1⟩ : ∃ W1, w.alloc (.cells #[.string ⟨nm.toArray⟩, .slice oa na ca, .string ⟨tx.toArray⟩, .slice ok nk ck] 45) = W1 := ⟨_, rfl⟩
  have hbx : W1.heap[w.heap.size]? = some (.cells #[.string ⟨nm.toArray⟩, .slice oa na ca, .string ⟨tx.toArray⟩, .slice ok nk ck] 45 (0, 0)) := by rw [← hW1]; exact heap_alloc_new w _
  rw [hW1] at hka
  have HW1 := hide hW1
  have HBX := hide hbx
  have HKA := hide hka
  have k0 : W1.cell? ⟨w.heap.size, 0, none⟩ = some (.string ⟨nm.toArray⟩) := cell_blk hbx 0
  have k2 : W1.cell? ⟨w.heap.size, 2, none⟩ = some (.string ⟨tx.toArray⟩) := cell_blk hbx 2
  have k1 : W1.cell? ⟨w.heap.size, 1, none⟩ = some (.slice oa na ca) := cell_blk hbx 1
  clear hW1 hbx hka
  have ways : (nm.isEmpty && decide (0 < pl.length)) = true ∨ (nm.isEmpty = false ∨ nm.isEmpty = true ∧ pl = []) := by
    cases hq : nm.isEmpty
    · exact .inr (.inl rfl)
    · by_cases h0 : pl.length = 0
      · exact .inr (.inr ⟨rfl, List.length_eq_zero_iff.1 h0⟩)
      · exact .inl (by simp; omega)
  -- behind the first test
  rcases ways with hw | hw
  · rw [if_pos hw]
    simp only [Bool.and_eq_true, decide_eq_true_eq] at hw
    obtain ⟨hw1, hw2⟩ := hw
    have hb2 : decide ((0 : Int) < (pl.length : Int)) = true := by simp; omega
    go_enter Tryz.func184, Tryz.ntmps184
    go_upto_region 2 with fail
    rw [HW1.out]
    go_wp2_with fail
    refine (hct.out _ HKA.out).mono ?_
    rintro e w2 ⟨rfl, hk2⟩
    go_wp2_with fail
    go_ret
    exact ⟨rfl, HKA.out.trans hk2⟩
  · rcases hw with hw | ⟨hw, hw2⟩
    · rw [if_neg (by simp [hw])]
      cases ht : tx.isEmpty
      · simp only [Bool.not_false, Bool.true_or, if_true]
        go_enter Tryz.func184, Tryz.ntmps184
        go_upto_region 2 with fail
        rw [HW1.out]
        go_wp2_with fail
        go_ret
        exact ⟨rfl, HKA.out⟩
      · simp only [Bool.not_true, Bool.false_or]
        cases TN
        · simp only [Bool.not_false, if_true]
          go_enter Tryz.func184, Tryz.ntmps184
          go_upto_region 2 with fail
          rw [HW1.out]
          go_wp2_with fail
          refine (hti.out _).mono ?_
          rintro e w2 ⟨rfl, hk2⟩
          go_wp2_with fail
          go_ret
          exact ⟨rfl, HKA.out.trans hk2⟩
        · simp only [Bool.not_true, Bool.false_eq_true, if_false]
          go_enter Tryz.func184, Tryz.ntmps184
          go_upto_region 2 with fail
          rw [HW1.out]
          go_wp2_with fail
          refine (hti.out _).mono ?_
          rintro e w2 ⟨rfl, hk2⟩
          have hb2' := (hk2.block _ (lt_of_block HBX.out) List.not_mem_nil).trans HBX.out
          have m1 : w2.cell? ⟨w.heap.size, 1, none⟩ = some (.slice oa na ca) := cell_blk hb2' 1
          clear hb2'
          go_wp2_with fail
          refine (hca.out _ (HKA.out.trans hk2)).mono ?_
          rintro e w3 ⟨rfl, hk3⟩
          go_wp2_with fail
          go_ret
          exact ⟨rfl, (HKA.out.trans hk2).trans hk3⟩
    · subst hw2
      simp only [List.length_nil]
      rw [if_neg (by simp [hw])]
      cases ht : tx.isEmpty
      · simp only [Bool.not_false, Bool.true_or, if_true]
        go_enter Tryz.func184, Tryz.ntmps184
        go_upto_region 2 with fail
        rw [HW1.out]
        go_wp2_with fail
        go_ret
        exact ⟨rfl, HKA.out⟩
      · simp only [Bool.not_true, Bool.false_or]
        cases TN
        · simp only [Bool.not_false, if_true]
          go_enter Tryz.func184, Tryz.ntmps184
          go_upto_region 2 with fail
          rw [HW1.out]
          go_wp2_with fail
          refine (hti.out _).mono ?_
          rintro e w2 ⟨rfl, hk2⟩
          go_wp2_with fail
          go_ret
          exact ⟨rfl, HKA.out.trans hk2⟩
        · simp only [Bool.not_true, Bool.false_eq_true, if_false]
          go_enter Tryz.func184, Tryz.ntmps184
          go_upto_region 2 with fail
          rw [HW1.out]
          go_wp2_with fail
          refine (hti.out _).mono ?_
          rintro e w2 ⟨rfl, hk2⟩
          have hb2' := (hk2.block _ (lt_of_block HBX.out) List.not_mem_nil).trans HBX.out
          have m1 : w2.cell? ⟨w.heap.size, 1, none⟩ = some (.slice oa na ca) := cell_blk hb2' 1
          clear hb2'
          go_wp2_with fail
          refine (hca.out _ (HKA.out.trans hk2)).mono ?_
          rintro e w3 ⟨rfl, hk3⟩
          go_wp2_with fail
          go_ret
          exact ⟨rfl, (HKA.out.trans hk2).trans hk3⟩
end Go.Proofs.YtlcljanibjdejaaGreat
namespace Go.Proofs.YtlcljanibjdejaaGreat
open Go.RowKit Go.Maps
theorem enters184 : Enters 184 := enters_of Tryz.func184 (by kernel_rfl) (by kernel_rfl)
def nodeXF (_ : Int) (b : List Nd) (i : Nat) (ar : List Nd) : Int × Bool := (chkNodeX b i ar, chkNodeX b i ar == 0)
def IsFnX (w : World) (b : Nat) : Prop := w.heap[b]? = some (.cells #[.func (.func 184) #[] #[]] 129 (0, 0))
theorem IsFnX.keeps {S : List Nat} {w w' : World} {b : Nat} (h : IsFnX w b) (hk : Keeps S w w') (hb : b ∉ S) : IsFnX w' b := by
  unfold IsFnX at *
  rw [hk.block b (lt_of_block h) hb]; exact h
set_option maxRecDepth 4000 in
set_option maxHeartbeats 2000000 in
theorem check1X_any (P : Nat → Prop) (B1 b c : Nat) (s : Int) (w : World) (v : Value) (ns : List Nd) (i : Nat) (av : Value) (pl : List Pn) (hbc : b ≠ c) (hf : IsFnX w b) (hI : IsNum w c 22 s) (hN : Ns w P v ns) (hF : FitsNs ns) (hi : i < ns.length) (hrow : w.ownsRow B1 45 4 av pl.length (pnsCells pl)) (hpl : pl.length ≤ 2000000) :
    Calls Tryz.prog 182 #[v, .int .i64 i, av, .pointer (some ⟨b, 0, none⟩), .pointer (some ⟨c, 0, none⟩)] w fun e w' => e = .returned (.bool (chkNodeX ns i (pl.map Pn.nd) == 0)) ∧ (IsFnX w' b ∧ IsNum w' c 22 (chkNodeX ns i (pl.map Pn.nd))) ∧ Keeps [c] w w' := by
  have hcn := hide (checkNodeX_any w P B1 v ns i av pl hN hF hi hrow hpl)
  generalize chkNodeX ns i (pl.map Pn.nd) = E at *
  obtain ⟨o, c', hv⟩ := hN.form
  subst hv
  obtain ⟨ao, ac, hav⟩ := row_form hrow
  subst hav
  have k0 : w.cell? ⟨b, 0, none⟩ = some (.func (.func 184) #[] #[]) := cell_blk hf 0
  have hE := enters184
  unfold Enters at hE
  clear hN hrow hF
  go_enter Tryz.func182, Tryz.ntmps182
  go_wp2_with fail
  refine hcn.out.mono ?_
  rintro e w1 ⟨rfl, hk1⟩
  have hf1 := hf.keeps hk1 List.not_mem_nil
  have hI1 := hI.keeps hk1 List.not_mem_nil
  have n0 : w1.cell? ⟨c, 0, none⟩ = some (.int .i64 s) := cell_blk hI1 0
  have n1 : w1.frozen? ⟨c, 0, none⟩ = false := free_blk hI1 0
  clear hcn
  go_wp2_with fail
  go_ret
  have hks : Keeps [c] w1 (w1.setCell ⟨c, 0, none⟩ (.int .i64 E)) := (Keeps.refl [c] w1).setCell (.inl (by simp)) _
  exact ⟨rfl, ⟨hf1.keeps hks (by simpa using hbc), hI1.set E⟩, keeps_within (hk1.to (T := [c]) (by simp)) hks (fun g hg _ => hg)⟩
theorem checkX_vis (b c B1 : Nat) (hb : b < c) (h : c < B1) : Vis 182 #[.pointer (some ⟨b, 0, none⟩), .pointer (some ⟨c, 0, none⟩)] nodeXF (fun s w => IsFnX w b ∧ IsNum w c 22 s) [c] B1 (fun g => g < b) FitsNs where
  call s w v ns i av pl hI hN hF hi hrow hpl _ := check1X_any _ B1 b c s w v ns i av pl (by omega) hI.1 hI.2 hN hF hi hrow hpl
  stable s w w' L hL hI hk := ⟨hI.1.keeps hk (fun hm => by have := hL b hm; omega), hI.2.keeps hk (fun hm => by have := hL c hm; omega)⟩
  down ns hF n hn := (fits_mem hF hn).2
  low g hg := by simp at hg; omega
  enters := enters182
  part g hg := ⟨by omega, by simp; omega⟩
/-- What nodes.Check answers of a strict tree. -/
def chkXs (ns : List Nd) : Int := if (walkL fitsF ns ns 0 [] 0).2 = true then (walkL nodeXF ns ns 0 [] 0).1 else 2
set_option maxRecDepth 4000 in
set_option maxHeartbeats 2000000 in
theorem nodesCheckX_any (w : World) (P : Nat → Prop) (v : Value) (ns : List Nd) (h : Ns w P v ns) (hsz : sizeNs ns ≤ 2000000) (hF : FitsNs ns) :
    Calls Tryz.prog 93 #[v, .func (.func 184) #[] #[]] w fun e w' => e = .returned (.int .i64 (chkXs ns)) ∧ Keeps [] w w' := by
  unfold chkXs
  have hka : Keeps [] w (w.alloc (.cells #[.func (.func 184) #[] #[]] 129)) := (Keeps.refl [] w).alloc _
  have hbx : IsFnX (w.alloc (.cells #[.func (.func 184) #[] #[]] 129)) w.heap.size := heap_alloc_new w _
  obtain ⟨W, hW⟩ : ∃ W, w.alloc (.cells #[.func (.func 184) #[] #[]] 129) = W := ⟨_, rfl⟩
  rw [hW] at hka hbx
  have HW := hide hW
  clear hW
  have hfi := hide (fits_any W P v ns (h.keeps0 hka) hsz)
  have hlow : Ns w (fun g => g < w.heap.size) v ns := h.lt
  have hlt : w.heap.size < W.heap.size := lt_of_block hbx
  have hwk := hide (fun (W1 : World) (hk1 : Keeps [] W W1) => Walk_any (checkX_vis w.heap.size W1.heap.size (W1.heap.size + 1) (Nat.lt_of_lt_of_le hlt hk1.size) (by omega)) (W1.alloc (.cells #[.int .i64 0] 22)) v ns (hlow.keeps0 ((hka.trans hk1).alloc _)) 0 ⟨(hbx.keeps hk1 List.not_mem_nil).keeps ((Keeps.refl [] W1).alloc _) List.not_mem_nil, heap_alloc_new W1 _⟩ (by simp) hsz hF)
  generalize walkL nodeXF ns ns 0 [] 0 = R at *
  obtain ⟨o, c', hv⟩ := h.form
  subst hv
  clear hlow h
  cases hb : (walkL fitsF ns ns 0 [] 0).2
  · rw [hb] at hfi
    rw [if_neg (by simp)]
    clear hb hwk
    go_enter Tryz.func93, Tryz.ntmps93
    go_wp2_with fail
    rw [HW.out]
    refine hfi.out.mono ?_
    rintro e w1 ⟨rfl, hk1⟩
    go_wp2_with fail
    go_ret
    exact ⟨rfl, hka.trans hk1⟩
  · rw [hb] at hfi
    rw [if_pos rfl]
    clear hb
    go_enter Tryz.func93, Tryz.ntmps93
    go_wp2_with fail
    rw [HW.out]
    refine hfi.out.mono ?_
    rintro e w1 ⟨rfl, hk1⟩
    go_wp2_with fail
    refine (hwk.out w1 hk1).mono ?_
    rintro e w2 ⟨rfl, ⟨_, hn2⟩, hk2⟩
    have n0 : w2.cell? ⟨w1.heap.size, 0, none⟩ = some (.int .i64 R.1) := cell_blk hn2 0
    go_wp2_with fail
    go_ret
    refine ⟨rfl, keeps_within ((hka.trans hk1).alloc _) hk2 (fun g hg hlt2 => ?_)⟩
    simp at hg
    have := hka.size
    have := hk1.size
    omega
def chkXml (n : Nd) : Int := chkXs [n]
/-- A node by itself, as an argument. -/
def NdVal (w : World) (P : Nat → Prop) (n : Nd) (v : Value) : Prop :=
  ∃ oa ca ok ck, v = .agg #[.string ⟨n.name.toArray⟩, .slice oa n.attrs.length ca, .string ⟨n.text.toArray⟩, .slice ok n.kids.length ck] ∧ LiesP w P (.slice oa n.attrs.length ca) n.attrs.length 2 (pairCells n.attrs) ∧ Ns w P (.slice ok n.kids.length ck) n.kids
theorem NdVal.keeps {w w' : World} {P : Nat → Prop} {n : Nd} {v : Value} {S : List Nat} (h : NdVal w P n v) (hk : Keeps S w w') (hS : ∀ g, P g → g ∉ S) : NdVal w' P n v := by
  obtain ⟨oa, ca, ok, ck, h1, h2, h3⟩ := h
  exact ⟨oa, ca, ok, ck, h1, h2.keeps hk hS, h3.keeps hk hS⟩
theorem NdVal.keeps0 {w w' : World} {P : Nat → Prop} {n : Nd} {v : Value} (h : NdVal w P n v) (hk : Keeps [] w w') : NdVal w' P n v := h.keeps hk (fun _ _ => List.not_mem_nil)
theorem NdVal.mono {w : World} {P Q : Nat → Prop} {n : Nd} {v : Value} (h : NdVal w P n v) (hPQ : ∀ g, g < w.heap.size → P g → Q g) : NdVal w Q n v := by
  obtain ⟨oa, ca, ok, ck, h1, h2, h3⟩ := h
  exact ⟨oa, ca, ok, ck, h1, h2.mono hPQ, h3.mono hPQ⟩
/-- One node, laid in a row of its own. -/
theorem ns_one (w : World) (P : Nat → Prop) (n : Nd) (av kv : Value) (ha : LiesP w P av n.attrs.length 2 (pairCells n.attrs)) (hk : Ns w P kv n.kids) (hP : P w.heap.size) :
    Ns (w.alloc (.cells #[.string ⟨n.name.toArray⟩, av, .string ⟨n.text.toArray⟩, kv] 45)) P (.slice (some ⟨w.heap.size, 0, none⟩) 1 1) [n] := by
  refine .mk _ [⟨n, av, kv⟩] _ rfl ⟨by simp [pnsCells, pnCells], .inr ⟨w.heap.size, 0, 1, rfl, Nat.le_refl _, by simp [maxLen], by simp, hP, fun j u hj => ?_⟩⟩ (fun p hp => ?_) (fun p hp => ?_)
  · have := lit_cells w #[.string ⟨n.name.toArray⟩, av, .string ⟨n.text.toArray⟩, kv] 45 j u (by simpa [pnsCells, pnCells] using hj)
    rw [add_zero] at this
    rw [Nat.zero_add]
    exact this
  · simp at hp; subst hp
    exact ha.keeps ((Keeps.refl [] w).alloc _) (fun _ _ => List.not_mem_nil)
  · simp at hp; subst hp
    exact hk.keeps0 ((Keeps.refl [] w).alloc _)
set_option maxRecDepth 4000 in
set_option maxHeartbeats 2000000 in
theorem xmlCheck_any (w : World) (P : Nat → Prop) (n : Nd) (v : Value) (h : NdVal w P n v) (hsz : sizeNs [n] ≤ 2000000) (hF : FitsNs [n]) :
    Calls Tryz.prog 96 #[v] w fun e w' => e = .returned (.int .i64 (chkXml n)) ∧ Keeps [] w w' := by
  obtain ⟨oa, ca, ok, ck, rfl, hA, hK⟩ := h
  obtain ⟨W1, hW1⟩ : ∃ W1, w.alloc (.cells #[.string ⟨n.name.toArray⟩, .slice oa n.attrs.length ca, .string ⟨n.text.toArray⟩, .slice ok n.kids.length ck] 45) = W1 := ⟨_, rfl⟩
  obtain ⟨W2, hW2⟩ : ∃ W2, W1.alloc (.cells #[.string ⟨n.name.toArray⟩, .slice oa n.attrs.length ca, .string ⟨n.text.toArray⟩, .slice ok n.kids.length ck] 45) = W2 := ⟨_, rfl⟩
  have hk1 : Keeps [] w W1 := by rw [← hW1]; exact (Keeps.refl [] w).alloc _
  have b1 := blk_new rfl hW1
  have hN2 := ns_one W1 (fun _ => True) n _ _ ((hA.mono (Q := fun _ => True) (fun _ _ _ => trivial)).keeps hk1 (fun _ _ => List.not_mem_nil)) ((hK.mono (Q := fun _ => True) (fun _ _ _ => trivial)).keeps0 hk1) trivial
  rw [hW2, b1.2] at hN2
  have hk2 : Keeps [] w W2 := by rw [← hW2]; exact hk1.alloc _
  have hck := hide (nodesCheckX_any W2 _ _ [n] hN2 hsz hF)
  have c0 : W1.cell? ⟨w.heap.size, 0, none⟩ = some (.string ⟨n.name.toArray⟩) := cell_blk b1.1 0
  have c1 : W1.cell? ⟨w.heap.size, 1, none⟩ = some (.slice oa n.attrs.length ca) := cell_blk b1.1 1
  have c2 : W1.cell? ⟨w.heap.size, 2, none⟩ = some (.string ⟨n.text.toArray⟩) := cell_blk b1.1 2
  have c3 : W1.cell? ⟨w.heap.size, 3, none⟩ = some (.slice ok n.kids.length ck) := cell_blk b1.1 3
  have HW1 := hide hW1
  have HW2 := hide hW2
  have HK2 := hide hk2
  have hbsz := b1.2
  have e0 : chkXml n = chkXs [n] := rfl
  rw [e0]
  generalize chkXs [n] = R at *
  clear hW1 hW2 hk1 hk2 hN2 hA hK hsz hF b1 e0
  go_enter Tryz.func96, Tryz.ntmps96
  go_upto_region 1 with fail
  rw [HW1.out]
  go_wp2_with fail
  rw [HW2.out]
  refine hck.out.mono ?_
  rintro e w3 ⟨rfl, hk3⟩
  go_wp2_with fail
  go_ret
  exact ⟨rfl, HK2.out.trans hk3⟩
def RnX : Bool → Bool → List Nd → Prop
  | _, _, [] => True
  | ins, prev, .mk n a t k :: r =>
    if n = [] ∧ ins = true then t ≠ [] ∧ a = [] ∧ k = [] ∧ prev = false ∧ RnX ins true r
    else t = [] ∧ isTitleL n = true ∧ chkAX a [] = 0 ∧ RnX true false k ∧ RnX ins false r
theorem RnX_nil (ins prev : Bool) : RnX ins prev [] := by rw [RnX]; trivial
theorem chkAX_ne (a : List Pair) (m : List (List UInt8)) : chkAX a m = 0 ∨ chkAX a m ≠ 0 := by omega
theorem nodeXF_walk : ∀ (r pre : List Nd) (ar : List Nd), ((walkL nodeXF (pre ++ r) r pre.length ar 0) = (0, true) ∧ RnX (!ar.isEmpty) (endsText pre) r) ∨ ((walkL nodeXF (pre ++ r) r pre.length ar 0).2 = false ∧ (walkL nodeXF (pre ++ r) r pre.length ar 0).1 ≠ 0 ∧ ¬ RnX (!ar.isEmpty) (endsText pre) r)
  | [], pre, ar => .inl ⟨by rw [walkL], RnX_nil _ _⟩
  | .mk n a t k :: r, pre, ar => by
    have ihk := nodeXF_walk k [] (ar ++ [.mk n a t k])
    have ihr := nodeXF_walk r (pre ++ [.mk n a t k]) ar
    have hem : (ar ++ [Nd.mk n a t k]).isEmpty = false := by simp
    rw [hem] at ihk
    simp only [List.append_assoc, List.singleton_append, List.length_append, List.length_singleton, List.nil_append, List.length_nil, endsText_snoc, Bool.not_false] at ihk ihr
    have hk0 : endsText ([] : List Nd) = false := rfl
    rw [hk0] at ihk
    have hchk : chkNodeX (pre ++ .mk n a t k :: r) pre.length ar = chkNodeXOf (.mk n a t k) (pre ++ .mk n a t k :: r) pre.length ar := by unfold chkNodeX; rw [getElem_mid]
    have har : decide (0 < ar.length) = !ar.isEmpty := by cases ar <;> simp
    rw [walkL]
    have hR : RnX (!ar.isEmpty) (endsText pre) (.mk n a t k :: r) ↔ if n = [] ∧ (!ar.isEmpty) = true then t ≠ [] ∧ a = [] ∧ k = [] ∧ endsText pre = false ∧ RnX (!ar.isEmpty) true r else t = [] ∧ isTitleL n = true ∧ chkAX a [] = 0 ∧ RnX true false k ∧ RnX (!ar.isEmpty) false r := by rw [RnX]
    clear hem
    simp only [nodeXF, hchk]
    by_cases hn : n = [] ∧ (!ar.isEmpty) = true
    · have hn2 := hn.2
      rw [if_pos hn] at hR
      obtain ⟨rfl, _⟩ := hn
      rw [hR]
      clear hR
      have hcn : chkNodeXOf (.mk [] a t k) (pre ++ .mk [] a t k :: r) pre.length ar = chkTextOf t a k (endsText pre) := by
        simp only [chkNodeXOf, Nd.name, List.isEmpty_nil, Bool.true_and, har, hn2, if_true, chkText]
        rw [getElem_mid, prev_mid]
        rfl
      rw [hcn]
      have hname : (Nd.name (.mk [] a t k) == []) = true := rfl
      rw [hname] at ihr
      by_cases hbad : t.isEmpty = true ∨ 0 < a.length ∨ 0 < k.length
      · right
        rw [show chkTextOf t a k (endsText pre) = 1 from by unfold chkTextOf; rw [if_pos hbad]]
        refine ⟨rfl, by simp, fun h => ?_⟩
        rcases hbad with h1 | h1 | h1
        · simp at h1; exact h.1 h1
        · rw [h.2.1] at h1; simp at h1
        · rw [h.2.2.1] at h1; simp at h1
      · have hb2 : t ≠ [] ∧ a = [] ∧ k = [] := by
          simp only [not_or, List.isEmpty_iff] at hbad
          exact ⟨hbad.1, List.eq_nil_of_length_eq_zero (by omega), List.eq_nil_of_length_eq_zero (by omega)⟩
        obtain ⟨ht, rfl, rfl⟩ := hb2
        cases hp : endsText pre
        · rw [show chkTextOf t [] [] false = 0 from by unfold chkTextOf; rw [if_neg hbad, if_neg (by simp)]]
          have hw : walkL nodeXF [] [] 0 (ar ++ [.mk [] [] t []]) 0 = (0, true) := by rw [walkL]
          simp only [hw, beq_self_eq_true, if_true]
          rcases ihr with ⟨h1, h2⟩ | ⟨h1, h2, h3⟩
          · exact .inl ⟨h1, ht, trivial, trivial, trivial, h2⟩
          · exact .inr ⟨h1, h2, fun h => h3 h.2.2.2.2⟩
        · rw [show chkTextOf t [] [] true = 4 from by unfold chkTextOf; rw [if_neg hbad, if_pos rfl]]
          exact .inr ⟨rfl, by simp, fun h => by simp at h⟩
    · rw [if_neg hn] at hR
      rw [hR]
      clear hR
      have hcond : (n.isEmpty && decide (0 < ar.length)) = false := by
        rw [har]
        cases h9 : n.isEmpty
        · rfl
        · have : n = [] := by simpa using h9
          cases h8 : (!ar.isEmpty)
          · rfl
          · exact absurd ⟨this, h8⟩ hn
      have hcn : chkNodeXOf (.mk n a t k) (pre ++ .mk n a t k :: r) pre.length ar = if (!t.isEmpty || !isTitleL n) = true then 1 else chkAX a [] := by
        unfold chkNodeXOf
        simp only [Nd.name, Nd.attrs, Nd.text, hcond]
        rfl
      rw [hcn]
      by_cases h2 : (!t.isEmpty || !isTitleL n) = true
      · right
        rw [if_pos h2]
        refine ⟨rfl, by simp, fun h => ?_⟩
        rw [h.1, h.2.1] at h2
        simp at h2
      · rw [if_neg h2]
        have h2' : t = [] ∧ isTitleL n = true := by
          simp at h2
          exact h2
        have hnn : n ≠ [] := by rintro rfl; have := h2'.2; simp [isTitleL] at this
        have hname : (Nd.name (.mk n a t k) == []) = false := by simpa [Nd.name] using hnn
        rw [hname] at ihr
        rcases chkAX_ne a [] with h3 | h3
        · rw [h3]
          simp only [beq_self_eq_true, if_true]
          rcases ihk with ⟨k1, k2⟩ | ⟨k1, k2, k3⟩
          · rw [k1]
            simp only [if_true]
            rcases ihr with ⟨r1, r2⟩ | ⟨r1, r2, r3⟩
            · exact .inl ⟨r1, h2'.1, h2'.2, trivial, k2, r2⟩
            · exact .inr ⟨r1, r2, fun h => r3 h.2.2.2.2⟩
          · rw [if_neg (by rw [k1]; simp)]
            exact .inr ⟨rfl, k2, fun h => k3 h.2.2.2.1⟩
        · have hb : (chkAX a [] == 0) = false := by simpa using h3
          rw [hb]
          exact .inr ⟨rfl, h3, fun h => h3 h.2.2.1⟩
theorem RtX_iff : ∀ (r : List Nd) (d : Nat) (prev : Bool), d ≤ 8 → (RtX (8 - d) prev r ↔ RnX true prev r ∧ Dp d r)
  | [], d, prev, _ => by rw [RtX]; exact ⟨fun _ => ⟨RnX_nil _ _, Dp_nil _⟩, fun _ => trivial⟩
  | .mk n a t k :: r, d, prev, hd => by
    have i1 := RtX_iff r d true hd
    have i2 := RtX_iff r d false hd
    rw [RtX, RnX, Dp, i1, i2]
    by_cases hn : n = []
    · simp only [hn, if_true, true_and, true_or]
      constructor
      · rintro ⟨h1, h2, rfl, h4, h5, h6⟩
        exact ⟨⟨h1, h2, rfl, h4, h5⟩, Dp_nil _, h6⟩
      · rintro ⟨⟨h1, h2, h3, h4, h5⟩, _, h6⟩
        exact ⟨h1, h2, h3, h4, h5, h6⟩
    · simp only [hn, if_false, false_and, false_or]
      by_cases h8 : d < 8
      · have i3 := RtX_iff k (d + 1) false (by omega)
        rw [show 8 - d - 1 = 8 - (d + 1) from by omega, i3]
        constructor
        · rintro ⟨h1, h2, h3, _, ⟨h4, h5⟩, h6, h7⟩
          exact ⟨⟨h1, h2, h3, h4, h6⟩, h8, h5, h7⟩
        · rintro ⟨⟨h1, h2, h3, h4, h6⟩, _, h5, h7⟩
          exact ⟨h1, h2, h3, by omega, ⟨h4, h5⟩, h6, h7⟩
      · constructor
        · rintro ⟨_, _, _, h, _⟩; omega
        · rintro ⟨_, h, _⟩; omega
theorem chkXml_ok (n : Nd) : chkXml n = 0 ↔ sizeNs [n] ≤ 3000 ∧ n.name ≠ [] ∧ RtX 8 false [n] := by
  have h1 := fitsF_walk [n] [] [] 0 (by omega)
  have h2 := nodeXF_walk [n] [] []
  have h3 := RtX_iff [n] 0 false (by omega)
  simp only [List.nil_append, List.length_nil, List.isEmpty_nil, Bool.not_true] at h1 h2
  have he : endsText ([] : List Nd) = false := rfl
  have h0 : ((0 : Nat) : Int) = 0 := rfl
  rw [he] at h2
  rw [h0, Nat.zero_add] at h1
  have key : RnX false false [n] ↔ n.name ≠ [] ∧ RnX true false [n] := by
    obtain ⟨m, a, t, k⟩ := n
    simp only [Nd.name]
    have e1 : RnX false false [.mk m a t k] ↔ t = [] ∧ isTitleL m = true ∧ chkAX a [] = 0 ∧ RnX true false k := by rw [RnX]; simp [RnX_nil]
    rw [e1]
    by_cases hm : m = []
    · subst hm; simp [isTitleL]
    · have e2 : RnX true false [.mk m a t k] ↔ t = [] ∧ isTitleL m = true ∧ chkAX a [] = 0 ∧ RnX true false k := by rw [RnX]; simp [hm, RnX_nil]
      rw [e2]
      simp [hm]
  rw [show (8 : Nat) = 8 - 0 from rfl, h3]
  unfold chkXml chkXs
  rcases h1 with ⟨a1, a2, a3⟩ | ⟨a1, a2⟩
  · rw [a1]
    simp only [if_true]
    rcases h2 with ⟨b1, b2⟩ | ⟨b1, b2, b3⟩
    · rw [b1]
      have := key.1 b2
      exact ⟨fun _ => ⟨a2, this.1, this.2, a3⟩, fun _ => rfl⟩
    · exact ⟨fun h => absurd h b2, fun h => absurd (key.2 ⟨h.2.1, h.2.2.1⟩) b3⟩
  · rw [if_neg (by rw [a1]; simp)]
    exact ⟨fun h => by simp at h, fun h => absurd ⟨h.1, h.2.2.2⟩ a2⟩
end Go.Proofs.YtlcljanibjdejaaGreat
namespace Go.Proofs.YtlcljanibjdejaaGreat
open Go.RowKit Go.Maps
set_option maxHeartbeats 2000000 in
theorem putX_any (t : List UInt8) (w : World) (ht : t.length ≤ 30000000) :
    Calls Tryz.prog 185 #[.string ⟨t.toArray⟩] w fun e w' => e = .returned (.string ⟨(putL t).toArray⟩) ∧ Keeps [] w w' := by
  by_cases h0 : t = []
  · subst h0
    go_enter Tryz.func185, Tryz.ntmps185
    go_wp2_with fail
    go_ret
    exact ⟨rfl, Keeps.refl _ _⟩
  · have hne : t.isEmpty = false := by simpa using h0
    obtain ⟨W1, hW1⟩ : ∃ W1, w.alloc (.cells #[.int .i64 1, .string ⟨#[]⟩, .slice none 0 0, .string ⟨t.toArray⟩] 117) = W1 := ⟨_, rfl⟩
    have hk1 : Keeps [] w W1 := by rw [← hW1]; exact (Keeps.refl [] w).alloc _
    have hT : Toks W1 (.slice (some ⟨w.heap.size, 0, none⟩) 1 1) [⟨1, [], [], t⟩] := by
      rw [← hW1]
      exact ⟨[(⟨1, [], [], t⟩, .slice none 0 0)], rfl, lies_new w _ 117 1 4 (by decide) rfl, by intro p hp; simp at hp; subst hp; exact ⟨rfl, .inl ⟨rfl, rfl⟩⟩⟩
    have hc : chkL [⟨1, [], [], t⟩] = 0 := by simp [chkL, chkFrom, chkT, h0]
    have hpr := hide (print_all W1 _ _ hT (by simp [bulkL, bulkT, bulkP]; omega) hc)
    have hb : toksP [⟨1, [], [], t⟩] = putL t := by simp [toksP, tokP]
    rw [hb] at hpr
    have HW1 := hide hW1
    clear hT hc hb hW1
    go_enter Tryz.func185, Tryz.ntmps185
    go_wp2_with fail
    rw [HW1.out]
    refine hpr.out.mono ?_
    rintro e w2 ⟨rfl, hk2⟩
    go_wp2_with fail
    go_ret
    exact ⟨rfl, hk1.trans hk2⟩
mutual
theorem printX_len : ∀ n : Nd, (printX n).length ≤ 8 * bulkNs [n]
  | .mk n a t k => by
    have h1 := putL_le t
    have h2 := pairsP_le8 a a.length
    rw [List.take_length] at h2
    have h3 := printXs_len k
    have h4 := bulkNs_cons (.mk n a t k) []
    simp only [Nd.name, Nd.text, Nd.attrs, Nd.kids] at h4
    have h5 : bulkNs [] = 0 := by simp [bulkNs]
    rw [printX]
    split
    · omega
    · split
      · simp; omega
      · simp; omega
theorem printXs_len : ∀ ks : List Nd, (printXs ks).length ≤ 8 * bulkNs ks
  | [] => by simp [printXs]
  | n :: r => by
    have h1 := printX_len n
    have h2 := printXs_len r
    have h3 := bulkNs_append [n] r
    simp only [List.singleton_append] at h3
    rw [printXs, List.length_append]
    omega
end
theorem printXs_take (ks : List Nd) (k : Nat) (hk : k < ks.length) : printXs (ks.take (k + 1)) = printXs (ks.take k) ++ printX ks[k] := by
  induction ks generalizing k with
  | nil => simp at hk
  | cons n r ih =>
    cases k with
    | zero => simp [printXs]
    | succ k =>
      have := ih k (by simpa using hk)
      simp only [List.take_succ_cons, printXs, List.getElem_cons_succ]
      rw [this, List.append_assoc]
theorem bulk_take (ks : List Nd) (k : Nat) (hk : k < ks.length) : bulkNs (ks.take k) + bulkNs [ks[k]] ≤ bulkNs ks := by
  have e := List.take_append_drop k ks
  have h1 := bulkNs_append (ks.take k) (ks.drop k)
  rw [e, List.drop_eq_getElem_cons hk] at h1
  have h2 := bulkNs_append [ks[k]] (ks.drop (k + 1))
  simp only [List.singleton_append] at h2
  omega
theorem KeepsB.node {B b : Nat} {w w' : World} {g : Nat} {cs : Array Value} {ty : TypeId} (h : KeepsB B b w w') (ht : w.heap[g]? = some (.cells cs ty (0, 0))) (hty : ty ≠ 5) (hg : g ≠ b) : w'.heap[g]? = some (.cells cs ty (0, 0)) := by
  rw [h.block g (lt_of_block ht) hg (.inr (fun cs f e => by rw [ht] at e; simp at e; exact hty e.2.1))]; exact ht
theorem Ns.len_le {w : World} {P : Nat → Prop} {v : Value} {ns : List Nd} (h : Ns w P v ns) : ns.length ≤ maxLen := by
  cases h with
  | mk _ l _ hns hl ha hk =>
    obtain ⟨o, c, _, h1, h2⟩ := hl.lies.form
    subst hns
    simp
    omega
theorem enters185 : Enters 185 := enters_of Tryz.func185 (by kernel_rfl) (by kernel_rfl)
theorem enters144 : Enters 144 := enters_of Tryz.func144 (by kernel_rfl) (by kernel_rfl)
set_option maxRecDepth 4000 in
set_option maxHeartbeats 16000000 in
/-- One node, of whose kids printing is known. -/
theorem printNode97 (w0 : World) (B b : Nat) (P : Nat → Prop) (hB0 : w0.heap.size ≤ B) (n : Nd) (v : Value) (hV : NdVal w0 P n v) (hbk : bulkNs [n] ≤ 3000000)
    (hkids : ∀ (q : Nd) (qv : Value), q ∈ n.kids → NdVal w0 P q qv → ∀ (w : World) (L : List UInt8), Keeps [] w0 w → IsBld B b L w → B ≤ w.heap.size → L.length + 8 * bulkNs [q] ≤ 300000000 → Calls Tryz.prog 97 #[.pointer (some ⟨b, 0, none⟩), qv] w fun e w' => e = .returned (.tuple #[]) ∧ IsBld B b (L ++ printX q) w' ∧ KeepsB B b w w')
    (w : World) (L : List UInt8) (hw0 : Keeps [] w0 w) (h : IsBld B b L w) (hBw : B ≤ w.heap.size) (hL : L.length + 8 * bulkNs [n] ≤ 300000000) :
    Calls Tryz.prog 97 #[.pointer (some ⟨b, 0, none⟩), v] w fun e w' => e = .returned (.tuple #[]) ∧ IsBld B b (L ++ printX n) w' ∧ KeepsB B b w w' := by
  obtain ⟨oa, ca, ok, ck, rfl, hA, hK⟩ := hV
  obtain ⟨nm, la, tx, ks⟩ := n
  simp only [Nd.name, Nd.attrs, Nd.text, Nd.kids] at hA hK hkids ⊢
  have hbl := bulkNs_cons (.mk nm la tx ks) []
  simp only [Nd.name, Nd.attrs, Nd.text, Nd.kids] at hbl
  have hb0 : bulkNs [] = 0 := by simp [bulkNs]
  have hla := bulkP_len1 la
  have hpl := pairsP_le8 la la.length
  rw [List.take_length] at hpl
  have hkl := printXs_len ks
  have hBb : B ≤ b := by rcases h with h | h <;> exact h.1
  have hbw : b < w.heap.size := by rcases h with ⟨_, v, hb, _⟩ | ⟨_, v, hb, _⟩ <;> exact lt_of_block hb
  obtain ⟨W, hW⟩ : ∃ W, w.alloc (.cells #[.string ⟨nm.toArray⟩, .slice oa la.length ca, .string ⟨tx.toArray⟩, .slice ok ks.length ck] 45) = W := ⟨_, rfl⟩
  have hkW : Keeps [] w W := by rw [← hW]; exact (Keeps.refl [] w).alloc _
  have hbx := blk_new rfl hW
  have hg := hide hbx.1
  have n0 : W.cell? ⟨w.heap.size, 0, none⟩ = some (.string ⟨nm.toArray⟩) := cell_blk hbx.1 0
  have n2 : W.cell? ⟨w.heap.size, 2, none⟩ = some (.string ⟨tx.toArray⟩) := cell_blk hbx.1 2
  have HWb := hide (h.keeps hkW)
  have HKW := hide (KeepsB.of (B := B) (b := b) hkW)
  have hBW : B ≤ W.heap.size := Nat.le_trans hBw hkW.size
  have HW := hide hW
  have hkal : ks.length ≤ 9223372036854775807 := by have := hK.len_le; unfold maxLen at this; exact this
  have hlal : la.length ≤ 9223372036854775807 := by omega
  clear hW hbx hkW h
  by_cases hn : nm = []
  · have hne : nm.isEmpty = true := by simpa using hn
    have hp : printX (.mk nm la tx ks) = putL tx := by rw [printX, if_pos hn]
    rw [hp]
    have hptl := putL_le tx
    have hpu := hide (putX_any tx W (by omega))
    have hwr := hide (fun w1 h1 h2 => write_all B b L (putL tx) w1 h1 (by omega) h2)
    clear hn hp hkids hA hK
    go_enter Tryz.func97, Tryz.ntmps97
    go_upto_region 1 with fail
    rw [HW.out]
    go_wp2_with fail
    refine hpu.out.mono ?_
    rintro e w1 ⟨rfl, hk1⟩
    go_wp2_with fail
    refine (hwr.out _ (HWb.out.keeps hk1) (Nat.le_trans hBW hk1.size)).mono ?_
    rintro e w2 ⟨rfl, hb2, hk2⟩
    go_wp2_with fail
    refine bodyPost_ret (v := .tuple #[]) (by simp [results, Tryz.results97]) rfl ?_
    exact ⟨rfl, hb2, (HKW.out.trans (KeepsB.of hk1)).trans hk2⟩
  · have hne : nm.isEmpty = false := by simpa using hn
    have hp : L ++ printX (.mk nm la tx ks) = (L ++ ([60] ++ nm)) ++ pairsP la ++ (if ks.isEmpty = true then [47, 62] else [62] ++ (printXs ks ++ ([60, 47] ++ (nm ++ [62])))) := by rw [printX, if_neg hn]; simp
    rw [hp]
    have hsum : ¬ 9223372036854775807 < 1 + nm.length := by omega
    have hstr : (⟨#[60]⟩ : ByteArray) ++ ⟨nm.toArray⟩ = ⟨([60] ++ nm).toArray⟩ := app2 [60] nm
    have hw1 := hide (write_all B b L ([60] ++ nm) W HWb.out (by simp; omega) hBW)
    obtain ⟨Z, hZ⟩ : ∃ Z, L ++ ([60] ++ nm) = Z := ⟨_, rfl⟩
    have hZl : Z.length = L.length + 1 + nm.length := by rw [← hZ]; simp; omega
    rw [hZ] at hw1 ⊢
    obtain ⟨Z2, hZ2⟩ : ∃ Z2, Z ++ pairsP la = Z2 := ⟨_, rfl⟩
    have hZ2l : Z2.length ≤ L.length + 1 + nm.length + 8 * bulkP la := by rw [← hZ2]; simp; omega
    rw [hZ2]
    have HZ2 := hide hZ2
    obtain ⟨TL, hTL⟩ : ∃ TL, (if ks.isEmpty = true then ([47, 62] : List UInt8) else [62] ++ (printXs ks ++ ([60, 47] ++ (nm ++ [62])))) = TL := ⟨_, rfl⟩
    rw [hTL]
    have HTL := hide hTL
    clear hTL
    clear hZ hp hn hZ2
    have HA := hide hA
    have HK := hide hK
    have HKD := hide hkids
    have HW0 := hide hw0
    clear hA hK hkids hw0
    go_enter Tryz.func97, Tryz.ntmps97
    go_upto_region 1 with fail
    rw [HW.out]
    go_wp2_with fail
    refine hw1.out.mono ?_
    rintro e w2 ⟨rfl, hb2, hk2⟩
    have hg2 := hk2.node hg.out (by decide) (by omega)
    have x1 : w2.cell? ⟨w.heap.size, 1, none⟩ = some (.slice oa la.length ca) := cell_blk hg2 1
    have HB2 := hide hb2
    have HK2 := hide (HKW.out.trans hk2)
    clear hw1 hstr hsum hb2 hk2 n0 n2
    go_wp2_with fail
    go_loopw [24] (fun i wr => ∃ k : Nat, k ≤ la.length ∧ i = .int .i64 k ∧ Hid (IsBld B b (Z ++ pairsP (la.take k)) wr) ∧ Hid (KeepsB B b w wr) ∧ Hid (wr.heap[w.heap.size]? = some (.cells #[.string ⟨nm.toArray⟩, .slice oa la.length ca, .string ⟨tx.toArray⟩, .slice ok ks.length ck] 45 (0, 0)))) (fun i _ => la.length - (intOf i).toNat)
    case atStart => exact ⟨0, Nat.zero_le _, rfl, hide (by simpa [pairsP] using HB2.out), HK2, hg2⟩
    case round =>
      obtain ⟨k, hk, rfl, hbk, hkw, hgr⟩ := hrel
      clear HB2 hg2 x1
      have hBr := Nat.le_trans hBw hkw.out.size
      by_cases hlt : k < la.length
      · obtain ⟨g, x, rfl, hc⟩ := (HA.out.lies.keeps (KeepsB.nil HW0.out hkw.out hB0 hBb)).addr (by omega)
        have a0 := hc _ _ (pair_at0 la k hlt)
        have a1 := hc _ _ (pair_at1 la k hlt)
        rw [← Nat.add_assoc] at a1
        have hfk := bulkP_mem (List.getElem_mem hlt)
        have hplk := pairsP_le8 la k
        have hts := pairsP_take la k hlt
        generalize pairsP (la.take k) = Y at *
        have HTS := hide hts
        clear hts hc
        generalize la[k] = p at *
        obtain ⟨m, u⟩ := p
        simp only at a0 a1 hfk
        obtain ⟨V, hV⟩ : ∃ V, wr.alloc (.cells #[.string ⟨m.toArray⟩, .string ⟨u.toArray⟩] 52) = V := ⟨_, rfl⟩
        have hkV : Keeps [] wr V := by rw [← hV]; exact (Keeps.refl [] wr).alloc _
        have hbV := blk_new rfl hV
        have HBV := hide hbV.1
        have v0 : V.cell? ⟨wr.heap.size, 0, none⟩ = some (.string ⟨m.toArray⟩) := cell_blk hbV.1 0
        have v1 : V.cell? ⟨wr.heap.size, 1, none⟩ = some (.string ⟨u.toArray⟩) := cell_blk hbV.1 1
        have hgV := hide ((hkV.block _ (lt_of_block hgr.out) List.not_mem_nil).trans hgr.out)
        have HbV := hide (hbk.out.keeps hkV)
        have HkV := hide (hkw.out.trans (KeepsB.of hkV))
        have hBV : B ≤ V.heap.size := Nat.le_trans hBr hkV.size
        have hpu := hide (fun w1 => putX_any u w1 (by omega))
        have hpt := putL_le u
        obtain ⟨S1, h1⟩ : ∃ S, (⟨#[32]⟩ : ByteArray) ++ ⟨m.toArray⟩ = S := ⟨_, rfl⟩
        obtain ⟨S2, h2⟩ : ∃ S, S1 ++ ⟨#[61, 34]⟩ = S := ⟨_, rfl⟩
        obtain ⟨S3, h3⟩ : ∃ S, S2 ++ ⟨(putL u).toArray⟩ = S := ⟨_, rfl⟩
        obtain ⟨S4, h4⟩ : ∃ S, S3 ++ ⟨#[34]⟩ = S := ⟨_, rfl⟩
        have e1 : S1 = ⟨([32] ++ m).toArray⟩ := by rw [← h1]; exact app2 [32] m
        have e2 : S2 = ⟨([32] ++ m ++ [61, 34]).toArray⟩ := by rw [← h2, e1]; exact app2 ([32] ++ m) [61, 34]
        have e3 : S3 = ⟨([32] ++ m ++ [61, 34] ++ putL u).toArray⟩ := by rw [← h3, e2]; exact app2 ([32] ++ m ++ [61, 34]) (putL u)
        have e4 : S4 = ⟨(pairP (m, u)).toArray⟩ := by rw [← h4, e3]; exact app2 ([32] ++ m ++ [61, 34] ++ putL u) [34]
        have z1 : S1.size = 1 + m.length := by rw [e1, str_size]; simp; omega
        have z2 : S2.size = 3 + m.length := by rw [e2, str_size]; simp; omega
        have z3 : S3.size = 3 + m.length + (putL u).length := by rw [e3, str_size]; simp; omega
        have q1 : ¬ 9223372036854775807 < 1 + m.length := by omega
        have q2 : ¬ 9223372036854775807 < 1 + m.length + 2 := by omega
        have q3 : ¬ 9223372036854775807 < 3 + m.length + (putL u).length := by omega
        have q4 : ¬ 9223372036854775807 < 3 + m.length + (putL u).length + 1 := by omega
        have hwr := hide (fun w1 h1 h2 => write_all B b (Z ++ Y) (pairP (m, u)) w1 h1 (by simp [pairP]; omega) h2)
        rw [← e4] at hwr
        have E1 := hide e1
        have hV' := hide hV
        clear e1 e2 e3 e4 hV hkV hbV
        go_upto_region 7 with fail
        rw [hV'.out]
        go_region_law (first
          | (refine step_call rfl 185 _ _ rfl enters185 #[.string ⟨u.toArray⟩] (by first | (simp [Act.eval]; done) | (simp [Act.eval, Act.put]; done) | kernel_rfl) (hpu.out _) ?_; rintro e w3 ⟨rfl, hk3⟩; refine ⟨_, rfl, ?_⟩; have hk3' : Keeps [] V w3 := keeps_drew hk3; have y0 : w3.cell? ⟨wr.heap.size, 0, none⟩ = some (.string ⟨m.toArray⟩) := cell_keeps hk3' v0)
          | (refine step_call rfl 144 _ _ rfl enters144 #[.pointer (some ⟨b, 0, none⟩), .string S4] (by first | (simp [Act.eval]; done) | (simp [Act.eval, Act.put]; done) | kernel_rfl) (hwr.out _ (HbV.out.keeps hk3') (Nat.le_trans hBV hk3'.size)) ?_; rintro e w4 ⟨rfl, hb4, hk4⟩; refine ⟨_, rfl, ?_⟩))
        all_goals have hb5 : Hid (IsBld B b (Z ++ pairsP (la.take (k + 1))) w4) := hide (by rw [HTS.out, ← List.append_assoc]; exact hb4)
        all_goals have hkw5 := hide ((HkV.out.trans (KeepsB.of hk3')).trans hk4)
        all_goals have hg5 := hide (hk4.node ((hk3'.block _ (lt_of_block hgV.out) List.not_mem_nil).trans hgV.out) (by decide) (by omega))
        all_goals clear hb4 hk4 hk3 hk3'
        all_goals go_wp2_with fail
        all_goals exact ⟨⟨k + 1, by omega, by go_num, hb5.out, hkw5.out, hg5.out⟩, by simp [intOf]; omega⟩
      · have hall : la.take k = la := List.take_of_length_le (by omega)
        rw [hall] at hbk
        have n3 : wr.cell? ⟨w.heap.size, 3, none⟩ = some (.slice ok ks.length ck) := cell_blk hgr.out 3
        have n0 : wr.cell? ⟨w.heap.size, 0, none⟩ = some (.string ⟨nm.toArray⟩) := cell_blk hgr.out 0
        rw [HZ2.out] at hbk
        clear hall
        obtain ⟨wo, hwo⟩ : ∃ wo, wo = wr := ⟨_, rfl⟩
        subst hwo
        have hwA := hide (fun t (ht : t = [47, 62] ∨ t = [62]) => write_all B b Z2 t wo hbk.out (by rcases ht with rfl | rfl <;> simp <;> omega) hBr)
        cases hks : ks with
        | nil =>
          subst hks
          simp only [List.length_nil] at n3
          go_wp2_with fail
          refine (hwA.out [47, 62] (.inl rfl)).mono ?_
          rintro e w3 ⟨rfl, hb3, hk3⟩
          go_wp2_with fail
          refine bodyPost_ret (v := .tuple #[]) (by simp [results, Tryz.results97]) rfl ?_
          have h9 := HTL.out
          simp only [List.isEmpty_nil, if_true] at h9
          rw [← h9]
          exact ⟨rfl, hb3, hkw.out.trans hk3⟩
        | cons k0 ksr =>
          have hie : ks.isEmpty = false := by rw [hks]; rfl
          have hkpos : 0 < ks.length := by rw [hks]; simp
          have HIE := hide hie
          clear hks hie
          have hklb : ((ks.length : Int) == 0) = false := by rw [beq_eq_false_iff_ne]; omega
          have hKK := HK.out
          cases hKK with
          | mk _ l _ hns hl ha hk2 =>
          have hll : l.length = ks.length := by rw [← hns]; simp
          have HL := hide hl
          have HAA := hide ha
          have HKK := hide hk2
          have HNS := hide hns
          clear hl ha hk2 hns
          go_wp2_with fail
          refine (hwA.out [62] (.inr rfl)).mono ?_
          rintro e w3 ⟨rfl, hb3, hk3⟩
          have hg3 := hk3.node hgr.out (by decide) (by omega)
          have x3 : w3.cell? ⟨w.heap.size, 3, none⟩ = some (.slice ok ks.length ck) := cell_blk hg3 3
          have HB3 := hide hb3
          have HG3 := hide hg3
          have HK3 := hide (hkw.out.trans hk3)
          clear hb3 hk3 hg3 n3 n0
          go_wp2_with fail
          go_loopw [51] (fun i wr => ∃ j : Nat, j ≤ ks.length ∧ i = .int .i64 j ∧ Hid (IsBld B b (Z2 ++ [62] ++ printXs (ks.take j)) wr) ∧ Hid (KeepsB B b w wr) ∧ Hid (wr.heap[w.heap.size]? = some (.cells #[.string ⟨nm.toArray⟩, .slice oa la.length ca, .string ⟨tx.toArray⟩, .slice ok ks.length ck] 45 (0, 0)))) (fun i _ => ks.length - (intOf i).toNat)
          case atStart => exact ⟨0, Nat.zero_le _, rfl, hide (by simpa [printXs] using HB3.out), HK3, HG3⟩
          case round =>
            obtain ⟨j, hj, rfl, hbj, hkj, hgj⟩ := hrel
            clear HB3 HG3 x3
            have hBj := Nat.le_trans hBw hkj.out.size
            by_cases hjl : j < ks.length
            · have hjl2 : j < l.length := by omega
              obtain ⟨g, x, rfl, hcl⟩ := (HL.out.lies.keeps (KeepsB.nil HW0.out hkj.out hB0 hBb)).addr (by omega)
              obtain ⟨a0, a1, a2, a3⟩ := lies_pn hcl j hjl2
              have hm := List.getElem_mem hjl2
              have hqa := HAA.out _ hm
              have hqk := HKK.out _ hm
              have hq : ks[j] = l[j].nd := by have h9 := HNS.out; subst h9; simp
              obtain ⟨qo, qc, hqav⟩ := hqa.form
              obtain ⟨ro, rc, hqkv⟩ := hqk.form
              rw [hqav] at a1 hqa
              rw [hqkv] at a3 hqk
              have hts := printXs_take ks j hjl
              have hbt := bulk_take ks j hjl
              have hpx := printXs_len (ks.take j)
              have hmem : ks[j] ∈ ks := List.getElem_mem hjl
              rw [hq] at hts hbt hmem
              have hV : NdVal w0 P l[j].nd (.agg #[.string ⟨l[j].nd.name.toArray⟩, .slice qo l[j].nd.attrs.length qc, .string ⟨l[j].nd.text.toArray⟩, .slice ro l[j].nd.kids.length rc]) := ⟨qo, qc, ro, rc, rfl, hqa, hqk⟩
              have HTS := hide hts
              clear hts hcl hm hqav hqkv hqa hqk hq
              generalize l[j].nd = q at *
              obtain ⟨V2, hV2⟩ : ∃ V2, wr.alloc (.cells #[.string ⟨q.name.toArray⟩, .slice qo q.attrs.length qc, .string ⟨q.text.toArray⟩, .slice ro q.kids.length rc] 45) = V2 := ⟨_, rfl⟩
              have hkV2 : Keeps [] wr V2 := by rw [← hV2]; exact (Keeps.refl [] wr).alloc _
              have hbV2 := blk_new rfl hV2
              have v0 : V2.cell? ⟨wr.heap.size, 0, none⟩ = some (.string ⟨q.name.toArray⟩) := cell_blk hbV2.1 0
              have v1 : V2.cell? ⟨wr.heap.size, 1, none⟩ = some (.slice qo q.attrs.length qc) := cell_blk hbV2.1 1
              have v2 : V2.cell? ⟨wr.heap.size, 2, none⟩ = some (.string ⟨q.text.toArray⟩) := cell_blk hbV2.1 2
              have v3 : V2.cell? ⟨wr.heap.size, 3, none⟩ = some (.slice ro q.kids.length rc) := cell_blk hbV2.1 3
              have hgV2 := hide ((hkV2.block _ (lt_of_block hgj.out) List.not_mem_nil).trans hgj.out)
              have HkV2 := hide (hkj.out.trans (KeepsB.of hkV2))
              have hcal := hide (HKD.out q _ hmem hV V2 (Z2 ++ [62] ++ printXs (ks.take j)) ((KeepsB.nil HW0.out hkj.out hB0 hBb).trans hkV2) (hbj.out.keeps hkV2) (Nat.le_trans hBj hkV2.size) (by simp; omega))
              have HV2 := hide hV2
              clear hV2 hbV2 hkV2 hV hmem
              go_upto_region 15 with fail
              rw [HV2.out]
              go_wp2_with fail
              refine hcal.out.mono ?_
              rintro e w5 ⟨rfl, hb5, hk5⟩
              have hb6 : Hid (IsBld B b (Z2 ++ [62] ++ printXs (ks.take (j + 1))) w5) := hide (by rw [HTS.out, ← List.append_assoc]; exact hb5)
              have hkw6 := hide (HkV2.out.trans hk5)
              have hg6 := hide (hk5.node hgV2.out (by decide) (by omega))
              clear hb5 hk5
              go_wp2_with fail
              exact ⟨⟨j + 1, by omega, by go_num, hb6.out, hkw6.out, hg6.out⟩, by simp [intOf]; omega⟩
            · have hall : ks.take j = ks := List.take_of_length_le (by omega)
              rw [hall] at hbj
              have n0 : wr.cell? ⟨w.heap.size, 0, none⟩ = some (.string ⟨nm.toArray⟩) := cell_blk hgj.out 0
              obtain ⟨S1, h1⟩ : ∃ S, (⟨#[60, 47]⟩ : ByteArray) ++ ⟨nm.toArray⟩ = S := ⟨_, rfl⟩
              obtain ⟨S2, h2⟩ : ∃ S, S1 ++ ⟨#[62]⟩ = S := ⟨_, rfl⟩
              have e1 : S1 = ⟨([60, 47] ++ nm).toArray⟩ := by rw [← h1]; exact app2 [60, 47] nm
              have e2 : S2 = ⟨([60, 47] ++ nm ++ [62]).toArray⟩ := by rw [← h2, e1]; exact app2 ([60, 47] ++ nm) [62]
              have z1 : S1.size = 2 + nm.length := by rw [e1, str_size]; simp; omega
              have q1 : ¬ 9223372036854775807 < 2 + nm.length := by omega
              have q2 : ¬ 9223372036854775807 < 2 + nm.length + 1 := by omega
              have hwE := hide (write_all B b (Z2 ++ [62] ++ printXs ks) ([60, 47] ++ nm ++ [62]) wr hbj.out (by simp; omega) hBj)
              rw [← e2] at hwE
              clear hall e1 e2
              go_wp2_with fail
              refine hwE.out.mono ?_
              rintro e w5 ⟨rfl, hb5, hk5⟩
              have HF : Hid (IsBld B b (Z2 ++ ([62] ++ (printXs ks ++ ([60, 47] ++ (nm ++ [62]))))) w5) := hide (by simpa using hb5)
              clear hb5
              go_wp2_with fail
              go_end0
              have h9 := HTL.out
              rw [HIE.out] at h9
              simp only [Bool.false_eq_true, if_false] at h9
              rw [← h9]
              exact ⟨rfl, HF.out, hkj.out.trans hk5⟩
end Go.Proofs.YtlcljanibjdejaaGreat
namespace Go.Proofs.YtlcljanibjdejaaGreat
open Go.RowKit Go.Maps
theorem bulk_mem {q : Nd} {ks : List Nd} (h : q ∈ ks) : bulkNs [q] ≤ bulkNs ks := by
  obtain ⟨k, hk, rfl⟩ := List.getElem_of_mem h
  have := bulk_take ks k hk
  omega
theorem size_mem {q : Nd} : ∀ {ks : List Nd}, q ∈ ks → sizeNs [q] ≤ sizeNs ks
  | m :: r, h => by
    have h1 := sizeNs_cons m r
    have h2 := sizeNs_cons q []
    have h3 : sizeNs [] = 0 := by simp [sizeNs]
    rcases List.mem_cons.1 h with rfl | h
    · omega
    · have := size_mem h
      omega
theorem printNode_all (w0 : World) (B b : Nat) (P : Nat → Prop) (hB0 : w0.heap.size ≤ B) : ∀ (m : Nat) (n : Nd) (v : Value), sizeNs [n] ≤ m → NdVal w0 P n v → bulkNs [n] ≤ 3000000 → ∀ (w : World) (L : List UInt8), Keeps [] w0 w → IsBld B b L w → B ≤ w.heap.size → L.length + 8 * bulkNs [n] ≤ 300000000 →
    Calls Tryz.prog 97 #[.pointer (some ⟨b, 0, none⟩), v] w fun e w' => e = .returned (.tuple #[]) ∧ IsBld B b (L ++ printX n) w' ∧ KeepsB B b w w' := by
  intro m
  induction m with
  | zero =>
    intro n v hm
    have := sizeNs_cons n []
    omega
  | succ m ih =>
    intro n v hm hV hbk w L hw0 h hBw hL
    have h1 := sizeNs_cons n []
    have h2 := bulkNs_cons n []
    refine printNode97 w0 B b P hB0 n v hV hbk (fun q qv hq hqv w L hw0 h hBw hL => ?_) w L hw0 h hBw hL
    have h3 := size_mem hq
    have h4 := bulk_mem hq
    exact ih q qv (by omega) hqv (by omega) w L hw0 h hBw hL
set_option maxRecDepth 4000 in
set_option maxHeartbeats 4000000 in
theorem xmlPrint_any (w : World) (P : Nat → Prop) (n : Nd) (v : Value) (h : NdVal w P n v) (hbk : bulkNs [n] ≤ 1100000) :
    Calls Tryz.prog 29 #[v] w fun e w' => e = .returned (.tuple #[.string ⟨(if chkXml n = 0 then printX n else []).toArray⟩, .int .i64 (chkXml n)]) ∧ Keeps [] w w' := by
  have hV := hide h
  obtain ⟨oa, ca, ok, ck, rfl, hA, hK⟩ := h
  have hsz := bulkNs_size [n]
  have hfit := bulkNs_fits [n] hbk
  obtain ⟨W, hW⟩ : ∃ W, w.alloc (.cells #[.string ⟨n.name.toArray⟩, .slice oa n.attrs.length ca, .string ⟨n.text.toArray⟩, .slice ok n.kids.length ck] 45) = W := ⟨_, rfl⟩
  have hkW : Keeps [] w W := by rw [← hW]; exact (Keeps.refl [] w).alloc _
  have hbx := blk_new rfl hW
  have hg := hide hbx.1
  have n0 : W.cell? ⟨w.heap.size, 0, none⟩ = some (.string ⟨n.name.toArray⟩) := cell_blk hbx.1 0
  have n1 : W.cell? ⟨w.heap.size, 1, none⟩ = some (.slice oa n.attrs.length ca) := cell_blk hbx.1 1
  have n2 : W.cell? ⟨w.heap.size, 2, none⟩ = some (.string ⟨n.text.toArray⟩) := cell_blk hbx.1 2
  have n3 : W.cell? ⟨w.heap.size, 3, none⟩ = some (.slice ok n.kids.length ck) := cell_blk hbx.1 3
  have hck := hide (xmlCheck_any W P n _ (hV.out.keeps0 hkW) (by omega) hfit.1)
  have HKW := hide hkW
  have HW := hide hW
  have hpr := hide (fun (w1 : World) (hk : Keeps [] w w1) => printNode_all w1 w1.heap.size w1.heap.size P (Nat.le_refl _) _ n _ (Nat.le_refl _) (hV.out.keeps0 hk) (by omega) (w1.alloc (.cells #[.pointer none, .slice none 0 0] 134)) [] ((Keeps.refl [] w1).alloc _) (bld_new w1) (by simp) (by simp; omega))
  clear hA hK hW hbx hkW hfit
  generalize chkXml n = C at *
  by_cases hC : C = 0
  · subst hC
    rw [if_pos rfl]
    go_enter Tryz.func29, Tryz.ntmps29
    go_upto_region 1 with fail
    rw [HW.out]
    go_wp2_with fail
    refine hck.out.mono ?_
    rintro e w1 ⟨rfl, hk1⟩
    have hg1 := (hk1.block _ (lt_of_block hg.out) List.not_mem_nil).trans hg.out
    have hlt1 := lt_of_block hg1
    have hka : Keeps [] w1 (w1.alloc (.cells #[.pointer none, .slice none 0 0] 134)) := (Keeps.refl [] w1).alloc _
    have hg2 := (hka.block _ hlt1 List.not_mem_nil).trans hg1
    have m0 : (w1.alloc (.cells #[.pointer none, .slice none 0 0] 134)).cell? ⟨w.heap.size, 0, none⟩ = some (.string ⟨n.name.toArray⟩) := cell_blk hg2 0
    have m1 : (w1.alloc (.cells #[.pointer none, .slice none 0 0] 134)).cell? ⟨w.heap.size, 1, none⟩ = some (.slice oa n.attrs.length ca) := cell_blk hg2 1
    have m2 : (w1.alloc (.cells #[.pointer none, .slice none 0 0] 134)).cell? ⟨w.heap.size, 2, none⟩ = some (.string ⟨n.text.toArray⟩) := cell_blk hg2 2
    have m3 : (w1.alloc (.cells #[.pointer none, .slice none 0 0] 134)).cell? ⟨w.heap.size, 3, none⟩ = some (.slice ok n.kids.length ck) := cell_blk hg2 3
    have hk01 := HKW.out.trans hk1
    have hp1 := hide (hpr.out w1 hk01)
    have HK01 := hide hk01
    have HKA := hide hka
    clear n0 n1 n2 n3 hg1 hg2 hka hk1 hk01
    go_wp2_with fail
    refine hp1.out.mono ?_
    rintro e w2 ⟨rfl, hb2, hk2⟩
    have hB2 : w1.heap.size ≤ w2.heap.size := Nat.le_trans (HKA.out).size hk2.size
    have hst := hide (Tryz.Builder_String_any w1.heap.size w1.heap.size ([] ++ printX n) w2 hb2 hB2)
    rw [List.nil_append] at hst
    have HK2 := hide (KeepsB.nil HKA.out hk2 (Nat.le_refl _) (Nat.le_refl _))
    clear hb2 hk2 m0 m1 m2 m3
    go_wp2_with fail
    refine hst.out.mono ?_
    rintro e w3 ⟨rfl, hbl⟩
    go_wp2_with fail
    go_ret2
    have hK := HK01.out.trans HK2.out
    exact ⟨rfl, hbl.os.trans hK.os, hbl.tape.trans hK.tape, hbl.output.trans hK.output, Nat.le_trans hK.size hbl.size, fun i hi _ => (hbl.block i (Nat.lt_of_lt_of_le hi HK01.out.size)).trans (hK.block i hi List.not_mem_nil)⟩
  · rw [if_neg hC]
    have hCb : (C != 0) = true := by simpa using hC
    go_enter Tryz.func29, Tryz.ntmps29
    go_upto_region 1 with fail
    rw [HW.out]
    go_wp2_with fail
    refine hck.out.mono ?_
    rintro e w1 ⟨rfl, hk1⟩
    go_wp2_with fail
    go_ret2
    exact ⟨rfl, HKW.out.trans hk1⟩
end Go.Proofs.YtlcljanibjdejaaGreat
