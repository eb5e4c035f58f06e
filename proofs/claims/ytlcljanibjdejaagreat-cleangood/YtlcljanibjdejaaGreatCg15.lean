/- CleanGood holds: for every input the law returns true, and each argument reads behind the call as it read before; no condition. A part of its proof. -/
import Derived.Test.YtlcljanibjdejaaGreatCg14
namespace Go.Proofs.YtlcljanibjdejaaGreat
open Go.RowKit Go.Maps
def PutsFrom (base : List UInt8) (B0 : Nat) (w0 : World) (v : Value) (ns : List Nd) : Prop := ∀ w, Below B0 w0 w → B0 ≤ w.heap.size → HasMax w → PutsAt base B0 v ns w
theorem stp_below {w w' : World} {T T' : List Nat} {B0 B : Nat} (h : Stp w T w' T') (hT : ∀ g, g ∈ T → B ≤ g) (hB : B0 ≤ B) (hw : B0 ≤ w.heap.size) : Below B0 w w' := h.below (fun g hg => Nat.le_trans hB (hT g hg)) hw
set_option maxRecDepth 8000 in
set_option maxHeartbeats 8000000 in
theorem cleanPut_all (base : List UInt8) (hb : base.length ≤ 3000) (B0 : Nat) (h0 : 0 < B0) (w0 : World) (v : Value) (ns : List Nd) (h : Ns w0 (fun g => g < B0) v ns) : ValNs ns → PutsFrom base B0 w0 v ns := by
  induction h with
  | mk v l ns hns hl ha hk ih =>
    intro hV w hbw hBw hM B r s T hB h hw
    show Calls Tryz.prog 179 #[.agg #[.string ⟨base.toArray⟩], .pointer (some ⟨r, 0, none⟩), v] w fun e w' => e = .returned (.tuple #[]) ∧ ∃ T', LsT w' B r (cleanIn base s ns) T' ∧ Stp w T w' T'
    obtain ⟨R, hR⟩ : ∃ R, cleanIn base s ns = R := ⟨_, rfl⟩
    rw [hR]
    subst hns
    obtain ⟨o, c, hvv, h1, h2⟩ := hl.lies.form
    subst hvv
    unfold maxLen at h2
    have hvl : ∀ p ∈ l, p.nd.attrs.length ≤ 1000000 ∧ (∀ q ∈ p.nd.attrs, q.2.length ≤ maxLen) ∧ ValNs p.nd.kids := fun p hp => ValNs.at hV (List.mem_map_of_mem hp)
    have hka : ∀ p ∈ l, ∃ o n c, p.av = .slice o n c := fun p hp => by obtain ⟨o, c, h⟩ := (ha p hp).form; exact ⟨o, _, c, h⟩
    have hkk : ∀ p ∈ l, ∃ o n c, p.kv = .slice o n c := fun p hp => by obtain ⟨o, c, h⟩ := (hk p hp).form; exact ⟨o, _, c, h⟩
    have hih : ∀ p ∈ l, PutsFrom base B0 w0 p.kv p.nd.kids := fun p hp => ih p hp (hvl p hp).2.2
    obtain ⟨W, hW⟩ : ∃ W, (w.alloc (.cells #[.string ⟨base.toArray⟩] 126)).alloc (.cells #[.pointer (some ⟨r, 0, none⟩)] 201) = W := ⟨_, rfl⟩
    have hkW : Keeps [] w W := by rw [← hW]; exact ((Keeps.refl [] w).alloc _).alloc _
    have s1 : (w.alloc (.cells #[.string ⟨base.toArray⟩] 126)).heap.size = w.heap.size + 1 := by simp
    have s2 : W.heap.size = w.heap.size + 1 + 1 := by rw [← hW]; simp
    have hb0 : W.heap[w.heap.size]? = some (.cells #[.string ⟨base.toArray⟩] 126 (0, 0)) := by
      rw [← hW, Below.heap_alloc _ _ _ (by rw [s1]; omega)]
      exact heap_alloc_new w _
    have hb1 : W.heap[w.heap.size + 1]? = some (.cells #[.pointer (some ⟨r, 0, none⟩)] 201 (0, 0)) := by
      rw [← hW, ← s1]
      exact heap_alloc_new _ _
    have hT := h.ge
    have HT := hide hT
    have HLW := hide (h.keepsNil hkW)
    have HBW := hide (show Below B0 w0 W from hbw.trans (hkW.nil_below.mono hBw))
    have HMW := hide (hM.keeps hkW List.not_mem_nil)
    have HB0 := hide hb0
    have HB1 := hide hb1
    have HL := hide hl
    have HA := hide ha
    have HVL := hide hvl
    have HKA := hide hka
    have HKK := hide hkk
    have HIH := hide hih
    have HR := hide hR
    have HWG := hide hw
    have HS2 := hide s2
    have HB := hide hB
    have HBWs := hide hBw
    have HKW := hide hkW
    clear hV hT h hbw hM hb0 hb1 hl ha hvl hka hkk hih ih hk hR hw s1 s2 hB hBw hkW
    have hmf : ∀ (fn : Fn) (first cap : Array Value) (w : World), (Instr.makeFunc fn first cap).run Tryz.prog w = .ok (.func fn first cap) w := fun _ _ _ _ => rfl
    have HW := hide hW
    clear hW
    go_enter Tryz.func179, Tryz.ntmps179
    go_upto_region 1 with fail
    rw [HW.out]
    go_wp2_with fail
    go_loopw [10] (fun i wr => ∃ (k : Nat) (s' : Lst), k ≤ l.length ∧ i = .int .i64 k ∧ Hid (∃ T', LsT wr B r s' T' ∧ Stp W T wr T') ∧ Hid (cleanIn base s' ((l.drop k).map Pn.nd) = R) ∧ Hid (s'.weight + szNs ((l.drop k).map Pn.nd) ≤ 3000000)) (fun i _ => l.length - (intOf i).toNat)
    case atStart => exact ⟨0, s, Nat.zero_le _, rfl, ⟨T, HLW.out, Stp.refl _ _⟩, HR, HWG⟩
    case round =>
      obtain ⟨k, s', hk, rfl, hX, hC, hG⟩ := hrel
      clear HLW HR HWG
      obtain ⟨T', hL', hS'⟩ := hX.out
      have hTW : ∀ g, g ∈ T → g < W.heap.size ∧ g < w.heap.size ∧ B ≤ g := fun g hg => by
        have := HT.out.1 g hg
        have := HS2.out
        exact ⟨by omega, by omega, by omega⟩
      have hbr : Below B0 w0 wr := HBW.out.trans (stp_below hS' (fun g hg => (hTW g hg).2.2) HB.out (Nat.le_trans HBWs.out HKW.out.size))
      have hW0 : ∀ g, w.heap.size ≤ g → g < W.heap.size → wr.heap[g]? = W.heap[g]? := fun g h1 h2 => hS'.1.block g h2 (fun hm => by have := (hTW g hm).2.1; omega)
      have e0 := (hW0 _ (Nat.le_refl _) (lt_of_block HB0.out)).trans HB0.out
      have e1 := (hW0 _ (by omega) (lt_of_block HB1.out)).trans HB1.out
      have c0 : wr.cell? ⟨w.heap.size, 0, none⟩ = some (.string ⟨base.toArray⟩) := cell_blk e0 0
      have c1 : wr.cell? ⟨w.heap.size + 1, 0, none⟩ = some (.pointer (some ⟨r, 0, none⟩)) := cell_blk e1 0
      have HE0 := hide e0
      have HE1 := hide e1
      have HBR := hide hbr
      have HL' := hide hL'
      have HS' := hide hS'
      have HMR := hide (HMW.out.keeps hS'.1 (fun hm => by have := (hTW 0 hm).2.2; have := HB.out; omega))
      clear e0 e1 hbr hL' hS' hX hTW hW0
      by_cases hlt : k < l.length
      · obtain ⟨g, x, rfl, hcl⟩ := (HL.out.belowB HBR.out).lies.addr (by omega)
        obtain ⟨a0, a1, a2, a3⟩ := lies_pn hcl k hlt
        have hm := List.getElem_mem hlt
        obtain ⟨ao, an, ac, hav⟩ := HKA.out _ hm
        obtain ⟨ko, kn, kc, hkv⟩ := HKK.out _ hm
        have hva := HVL.out _ hm
        have hla := (HA.out _ hm).belowB HBR.out
        have hpf := HIH.out _ hm
        have hC1 := hC.out
        have hG1 := hG.out
        rw [List.drop_eq_getElem_cons hlt, List.map_cons] at hC1 hG1
        rw [cleanIn_cons] at hC1
        rw [szNs_cons] at hG1
        have hwt := stepC_weight base s' l[k].nd
        clear hcl hC hG hm
        generalize l[k] = p at *
        obtain ⟨⟨nm, at', tx, ks⟩, av, kv⟩ := p
        simp only [Nd.name, Nd.attrs, Nd.text, Nd.kids] at a0 a1 a2 a3 hav hkv hva hla hpf hG1 hwt
        subst hav hkv
        have HC1 := hide hC1
        have HG1 := hide hG1
        have HWT := hide hwt
        have HVA := hide hva
        have HLA := hide hla
        have HPF := hide hpf
        clear hC1 hG1 hwt hva hla hpf
        obtain ⟨W1, hW1⟩ : ∃ W1, wr.alloc (.cells #[.string ⟨nm.toArray⟩, .slice ao an ac, .string ⟨tx.toArray⟩, .slice ko kn kc] 45) = W1 := ⟨_, rfl⟩
        have hk1 : Keeps [] wr W1 := by rw [← hW1]; exact (Keeps.refl [] wr).alloc _
        have hbx : W1.heap[wr.heap.size]? = some (.cells #[.string ⟨nm.toArray⟩, .slice ao an ac, .string ⟨tx.toArray⟩, .slice ko kn kc] 45 (0, 0)) := by rw [← hW1]; exact heap_alloc_new wr _
        have hnx : Hid (∀ s2, stepC base s' (.mk nm at' tx ks) = s2 → cleanIn base s2 ((l.drop (k + 1)).map Pn.nd) = R ∧ s2.weight + szNs ((l.drop (k + 1)).map Pn.nd) ≤ 3000000) := fun s2 h9 => by
          have := HC1.out
          have := HG1.out
          have := HWT.out
          subst h9
          exact ⟨by assumption, by omega⟩
        have HL1 := hide (HL'.out.keepsNil hk1)
        have N0 : W1.cell? ⟨wr.heap.size, 0, none⟩ = some (.string ⟨nm.toArray⟩) := cell_blk hbx 0
        have N1 : W1.cell? ⟨wr.heap.size, 1, none⟩ = some (.slice ao an ac) := cell_blk hbx 1
        have N2 : W1.cell? ⟨wr.heap.size, 2, none⟩ = some (.string ⟨tx.toArray⟩) := cell_blk hbx 2
        have N3 : W1.cell? ⟨wr.heap.size, 3, none⟩ = some (.slice ko kn kc) := cell_blk hbx 3
        have d0 := cell_keeps hk1 c0
        have d1 := cell_keeps hk1 c1
        have nn : ∀ g, g ∉ ([] : List Nat) := fun _ => List.not_mem_nil
        have HD0 := hide ((hk1.block _ (lt_of_block HE0.out) (nn _)).trans HE0.out)
        have HD1 := hide ((hk1.block _ (lt_of_block HE1.out) (nn _)).trans HE1.out)
        have HBX := hide hbx
        have HK1 := hide hk1
        have HM1 := hide (HMR.out.keeps hk1 (nn _))
        have HB1' := hide (show Below B0 w0 W1 from HBR.out.trans (hk1.nil_below.mono (Nat.le_trans HBWs.out (Nat.le_trans HKW.out.size HS'.out.1.size))))
        have HSZ := hide (show B0 ≤ W1.heap.size from Nat.le_trans HBWs.out (Nat.le_trans HKW.out.size (Nat.le_trans HS'.out.1.size hk1.size)))
        have hgs := hide (fun w => goes_any nm w)
        have hal := hide (fun w => isAllowed_any nm w)
        have hsW := HG1.out
        clear hbx hk1 nn
        cases q0 : nm.isEmpty
        · cases q1 : goneN nm
          · rw [q1] at hgs
            cases q2 : allowedN nm
            · rw [q2] at hal
              have hst : stepC base s' (.mk nm at' tx ks) = cleanIn base s' ks := by
                unfold stepC
                rw [if_neg (show ¬ (Nd.mk nm at' tx ks).name.isEmpty = true from by rw [show (Nd.mk nm at' tx ks).name = nm from rfl, q0]; simp), if_neg (show ¬ goneN (Nd.mk nm at' tx ks).name = true from by rw [show (Nd.mk nm at' tx ks).name = nm from rfl, q1]; simp), if_pos (show allowedN (Nd.mk nm at' tx ks).name = false from q2)]
                rfl
              have hrec := hide (HPF.out W1 HB1'.out HSZ.out HM1.out B r s' T' HB.out HL1.out (by omega))
              have HST := hide hst
              clear hst hsW
              go_wp2_with fail
              refine (hgs.out _).mono ?_
              rintro e w3 ⟨rfl, h9⟩
              obtain rfl : W1 = w3 := h9.symm
              go_wp2_with fail
              refine (hal.out _).mono ?_
              rintro e w3 ⟨rfl, h9⟩
              obtain rfl : W1 = w3 := h9.symm
              go_wp2_with fail
              refine hrec.out.mono ?_
              rintro e w3 ⟨rfl, T3, h3, hs3⟩
              clear a0 a1 a2 a3 N0 N1 N2 N3 c0 c1 d0 d1 hW1
              go_wp2_with fail
              go_roundw
              case rel => exact ⟨k + 1, _, by omega, by go_num, ⟨T3, h3, HS'.out.trans ((Stp.nil HK1.out T').trans hs3)⟩, hnx.out _ HST.out⟩
              case measure => simp [intOf]; omega
            · rw [q2] at hal
              have hst : stepC base s' (.mk nm at' tx ks) = if standE nm (keptA base nm at') = 0 then s'.put (.mk nm (keptA base nm at') [] (cleanL base ks)) else s' := by
                unfold stepC
                rw [if_neg (show ¬ (Nd.mk nm at' tx ks).name.isEmpty = true from by rw [show (Nd.mk nm at' tx ks).name = nm from rfl, q0]; simp), if_neg (show ¬ goneN (Nd.mk nm at' tx ks).name = true from by rw [show (Nd.mk nm at' tx ks).name = nm from rfl, q1]; simp), if_neg (show ¬ allowedN (Nd.mk nm at' tx ks).name = false from by rw [show (Nd.mk nm at' tx ks).name = nm from rfl, q2]; simp)]
                rfl
              have hcau := hide (put1_caught base nm tx (keptA base nm at') (cleanL base ks) B r (w.heap.size + 1) w.heap.size wr.heap.size s' T' _ _ W1 HL1.out (by omega) HD1.out HD0.out HBX.out
                (fun w2 hk2 => element_any base nm tx at' ks ao ko an ac kn kc (fun g => g < B0) w2 (HM1.out.keeps hk2 List.not_mem_nil) hb HVA.out.1 ((HLA.out.keeps HK1.out (fun _ _ => List.not_mem_nil)).keeps hk2 (fun _ _ => List.not_mem_nil)) HVA.out.2.1
                  (fun w3 hk3 => cleaned_of base ko kn kc ks w3 B0 (Nat.le_trans HSZ.out (Nat.le_trans hk2.size hk3.size)) (by omega)
                    (fun w4 hk4 => HPF.out w4 (HB1'.out.trans (((hk2.trans hk3).trans hk4).nil_below.mono HSZ.out)) (Nat.le_trans HSZ.out ((hk2.trans hk3).trans hk4).size) (HM1.out.keeps ((hk2.trans hk3).trans hk4) List.not_mem_nil)))))
              have HST := hide hst
              clear hst hsW
              go_wp2_with fail
              refine (hgs.out _).mono ?_
              rintro e w3 ⟨rfl, h9⟩
              obtain rfl : W1 = w3 := h9.symm
              go_wp2_with fail
              refine (hal.out _).mono ?_
              rintro e w3 ⟨rfl, h9⟩
              obtain rfl : W1 = w3 := h9.symm
              go_wp2_with fail
              refine hcau.out.mono ?_
              rintro e w3 ⟨⟨x9, rfl⟩, T3, h3, hs3⟩
              clear a0 a1 a2 a3 N0 N1 N2 N3 c0 c1 d0 d1 hW1
              go_wp2_with fail
              go_roundw
              case rel => exact ⟨k + 1, _, by omega, by go_num, ⟨T3, h3, HS'.out.trans ((Stp.nil HK1.out T').trans hs3)⟩, hnx.out _ HST.out⟩
              case measure => simp [intOf]; omega
          · rw [q1] at hgs
            have hst : stepC base s' (.mk nm at' tx ks) = s' := by
              unfold stepC
              rw [if_neg (show ¬ (Nd.mk nm at' tx ks).name.isEmpty = true from by rw [show (Nd.mk nm at' tx ks).name = nm from rfl, q0]; simp), if_pos (show goneN (Nd.mk nm at' tx ks).name = true from q1)]
            have HST := hide hst
            clear hst hsW
            go_wp2_with fail
            refine (hgs.out _).mono ?_
            rintro e w3 ⟨rfl, h9⟩
            obtain rfl : W1 = w3 := h9.symm
            clear a0 a1 a2 a3 N0 N1 N2 N3 c0 c1 d0 d1 hW1
            go_wp2_with fail
            go_roundw
            case rel => exact ⟨k + 1, _, by omega, by go_num, ⟨T', HL1.out, HS'.out.trans (Stp.nil HK1.out T')⟩, hnx.out _ HST.out⟩
            case measure => simp [intOf]; omega
        · have hst : stepC base s' (.mk nm at' tx ks) = s'.put (.mk nm at' tx ks) := by
            unfold stepC
            rw [if_pos (show (Nd.mk nm at' tx ks).name.isEmpty = true from q0)]
          have hcall := hide (putL_any B r s' T' (W1.alloc (.cells #[.string ⟨nm.toArray⟩, .slice ao an ac, .string ⟨tx.toArray⟩, .slice ko kn kc] 45)) (HL1.out.keepsNil ((Keeps.refl [] W1).alloc _)) nm tx at' ks (by omega) ao ko an ac kn kc W1.heap.size (IsNd.of (heap_alloc_new W1 _)) (fun h9 => absurd (by simpa using q0) h9))
          have HST := hide hst
          clear hst hsW
          go_wp2_with fail
          refine hcall.out.mono ?_
          rintro e w3 ⟨rfl, T3, h3, hs3⟩
          clear a0 a1 a2 a3 N0 N1 N2 N3 c0 c1 d0 d1 hW1
          go_wp2_with fail
          go_roundw
          case rel => exact ⟨k + 1, _, by omega, by go_num, ⟨T3, h3, HS'.out.trans ((Stp.nil (HK1.out.alloc _) T').trans hs3)⟩, hnx.out _ HST.out⟩
          case measure => simp [intOf]; omega
      · have hRe : s' = R := by
          have := hC.out
          rw [List.drop_eq_nil_of_le (by omega), List.map_nil, cleanIn] at this
          exact this
        subst hRe
        go_wp2_with fail
        go_end0
        exact ⟨rfl, T', HL'.out, (Stp.nil HKW.out T).trans HS'.out⟩
def isE : List Nd → Int
  | [] => 0
  | .mk n a _ k :: r => if standE n a = 0 then (if isE k = 0 then isE r else isE k) else standE n a
theorem isE_cons (n : Nd) (r : List Nd) : isE (n :: r) = if standE n.name n.attrs = 0 then (if isE n.kids = 0 then isE r else isE n.kids) else standE n.name n.attrs := by
  obtain ⟨n, a, t, k⟩ := n
  rw [isE]
  rfl
theorem isE_stands : ∀ l : List Nd, isE l = 0 ↔ AllSt l
  | [] => by simp [isE, AllSt]
  | .mk n a _ k :: r => by
    rw [isE, AllSt, ← isE_stands k, ← isE_stands r]
    by_cases h1 : standE n a = 0
    · rw [if_pos h1]
      by_cases h2 : isE k = 0
      · rw [if_pos h2]; simp [h1, h2]
      · rw [if_neg h2]; simp [h2]
    · rw [if_neg h1]; simp [h1]
theorem step_callv_no {ops : Array Oper} {o : Oper} {a : Act} {w : World} {K : Act → World → Prop} {Q : Exit → Act → World → Prop} {E : Prop} (hg : Region.wanted o (yielded ops a.tmps) = true)
    (c : Operand) (xs : Array Operand) (ts : Array TypeId) (hop : o.op = .call { callee := .value c, args := xs, argTypes := ts }) (f : FuncId) (caps : Array Value) (hc : a.eval c = .func (.func f) #[] caps) (hE : Enters f) (args : Array Value) (hxs : xs.map a.eval = args)
    {R : Ending → World → Prop} (hcl : Calls Tryz.prog f (args ++ caps) w R) (hK : ∀ e w', R e w' → ∃ ch, e = .panicked ch ∧ Q (.panic ch) a w') :
    if Region.wanted o (yielded ops a.tmps) = true then Oper.wp Tryz.prog o a w K Q else E := by
  rw [if_pos hg]
  have hr : (execOp a.eval o).run Tryz.prog w = .ok (.enter f (args ++ caps)) w := by
    have hE' := hE (args ++ caps) w
    simp [execOp, hop, resolve, invoke, hc, Deferred.ofValue, hxs, hE']
  unfold Oper.wp
  rw [hr, Oper.upon_enter]
  refine hcl.mono fun e w' h => ?_
  obtain ⟨v, rfl, hk⟩ := hK e w' h
  exact hk
theorem enters88 : Enters 88 := enters_of Tryz.func88 (by kernel_rfl) (by kernel_rfl)
set_option maxRecDepth 4000 in
set_option maxHeartbeats 4000000 in
theorem stand1_any (w : World) (P : Nat → Prop) (v : Value) (ns : List Nd) (i : Nat) (av : Value) (hM : HasMax w) (hN : Ns w P v ns) (hi : i < ns.length) (hV : ValNs ns) :
    Calls Tryz.prog 88 #[v, .int .i64 i, av] w fun e w' => (standE ns[i].name ns[i].attrs = 0 ∧ e = .returned (.bool true) ∨ standE ns[i].name ns[i].attrs ≠ 0 ∧ e = .panicked (stopped (standE ns[i].name ns[i].attrs))) ∧ Keeps [] w w' := by
  cases hN with
  | mk _ l _ hns hl ha hk =>
  subst hns
  rw [List.length_map] at hi
  obtain ⟨o, c', rfl, h1, h2⟩ := hl.lies.form
  obtain ⟨g, x, rfl, hcl⟩ := hl.lies.addr (by omega)
  obtain ⟨a0, a1, a2, a3⟩ := lies_pn hcl i hi
  have hm := List.getElem_mem hi
  have hla := (ha _ hm).lies
  obtain ⟨oa, ca, hav⟩ := (ha _ hm).form
  obtain ⟨ok, ck, hkv⟩ := (hk _ hm).form
  have hv := (ValNs.at hV (List.mem_map_of_mem (f := Pn.nd) hm)).2.1
  rw [hav] at a1 hla
  rw [hkv] at a3
  rw [List.getElem_map]
  clear hcl hav hkv ha hk hl hm hV
  generalize l[i].nd = nd at *
  have hms := hide (mustStand_any nd.name nd.text nd.attrs oa nd.attrs.length ca (.slice ok nd.kids.length ck) w hM hla hv ⟨_, _, _, rfl⟩)
  clear hla hv
  generalize standE nd.name nd.attrs = E at *
  unfold maxLen at h2
  go_enter Tryz.func88, Tryz.ntmps88
  go_wp2_with fail
  refine hms.out.mono ?_
  rintro e w1 ⟨⟨hE, rfl⟩ | ⟨hE, rfl⟩, hk1⟩
  · go_wp2_with fail
    go_ret
    first | exact ⟨.inl ⟨hE, rfl⟩, hk1⟩ | exact ⟨.inl ⟨trivial, rfl⟩, hk1⟩
  · exact ⟨rfl, .inr ⟨hE, rfl⟩, hk1⟩
set_option maxRecDepth 8000 in
set_option maxHeartbeats 8000000 in
theorem walkE_all (P : Nat → Prop) (B1 : Nat) (h0 : 0 < B1) (hP : ∀ g, P g → g < B1) (w0 : World) (v : Value) (ns : List Nd) (h : Ns w0 P v ns) : ∀ (w : World) (L : List Nat), Keeps L w0 w → (∀ g, P g → g ∉ L) → HasMax w → ∀ (av : Value) (pl : List Pn), w.ownsRow B1 45 4 av pl.length (pnsCells pl) → B1 ≤ w.heap.size → pl.length + sizeNs ns ≤ 2000000 → ValNs ns →
    Calls Tryz.prog 171 #[v, av, .func (.func 88) #[] #[]] w fun e w' => (isE ns = 0 ∧ e = .returned (.bool true) ∨ isE ns ≠ 0 ∧ e = .panicked (stopped (isE ns))) ∧ w'.ownsRow B1 45 4 av pl.length (pnsCells pl) ∧ Keeps av.ownBlock.toList w w' := by
  induction h with
  | mk v l ns hns hl ha hk ih =>
    intro w L hkw hPL hM av pl hrow hB1 hsz hF
    have hNs : Ns w P v ns := (Ns.mk v l ns hns hl ha hk).keeps hkw hPL
    obtain ⟨R, hR⟩ : ∃ R, isE ns = R := ⟨_, rfl⟩
    rw [hR]
    have hlw := hl.keeps hkw hPL
    obtain ⟨o, c, rfl, h1, h2⟩ := hlw.lies.form
    obtain ⟨ao, ac, hav⟩ := row_form hrow
    subst hav
    unfold maxLen at h2
    have hll : l.length = ns.length := by rw [← hns, List.length_map]
    have hE := enters88
    unfold Enters at hE
    obtain ⟨i0, hi, hz0, hz1, hz2⟩ := info_parts info79
    have hpl : pl.length ≤ 2000000 := by omega
    have HNs := hide hNs
    have HL := hide hlw
    have HI := hide ih
    have HKW := hide hkw
    have HR := hide hR
    have Hns := hide hns
    have Hll := hide hll
    have Hsz := hide hsz
    have HF := hide hF
    have HA := hide ha
    have HPL := hide hPL
    have HKD := hide hk
    have HP := hide hP
    have HM := hide hM
    clear hNs hlw ih hkw hR hns hll hsz hl ha hk hPL hF hP hM
    go_enter Tryz.func171, Tryz.ntmps171
    go_wp2_with fail
    go_loopw [11] (fun i wr => ∃ (k : Nat), k ≤ l.length ∧ i = .int .i64 k ∧ Hid (wr.ownsRow B1 45 4 (.slice ao pl.length ac) pl.length (pnsCells pl)) ∧ Hid (Keeps (Value.slice ao pl.length ac).ownBlock.toList w wr) ∧ Hid (isE (ns.drop k) = R)) (fun i _ => l.length - (intOf i).toNat)
    case atStart => exact ⟨0, Nat.zero_le _, rfl, hrow, Keeps.refl _ _, HR⟩
    case round =>
      obtain ⟨k, hk, rfl, hrow', hkr, hW⟩ := hrel
      clear HR hrow
      have hPc : ∀ g, P g → g ∉ (Value.slice ao pl.length ac).ownBlock.toList := fun g hg hm => by
        have := (hrow'.out.lt g (by simpa using hm)).1
        have := HP.out g hg
        omega
      have HMr := hide (HM.out.keeps hkr.out (fun hm => by have := (hrow'.out.lt 0 (by simpa using hm)).1; omega))
      by_cases hlt : k < l.length
      · obtain ⟨g, x, hoo, hcl⟩ := (HL.out.keeps hkr.out hPc).lies.addr (by omega)
        subst hoo
        obtain ⟨a0, a1, a2, a3⟩ := lies_pn hcl k hlt
        have hkn : k < ns.length := by rw [← Hll.out]; exact hlt
        have hpn : l[k].nd = ns[k] := by
          have h9 : (l.map Pn.nd)[k]? = ns[k]? := by rw [Hns.out]
          simpa [List.getElem?_eq_getElem hlt, List.getElem?_eq_getElem hkn] using h9
        have hW1 := hW.out
        rw [List.drop_eq_getElem_cons hkn, isE_cons, ← hpn] at hW1
        have hpk := HI.out l[k] (List.getElem_mem hlt)
        have hak := (((HA.out l[k] (List.getElem_mem hlt)).keeps HKW.out HPL.out).keeps hkr.out hPc)
        have hszk : sizeNs l[k].nd.kids < sizeNs ns := sizeNs_mem (by rw [hpn]; exact List.getElem_mem hkn)
        have hFk := (ValNs.at HF.out (show l[k].nd ∈ ns from by rw [hpn]; exact List.getElem_mem hkn)).2.2
        have hkf := (HKD.out l[k] (List.getElem_mem hlt)).form
        have hvis0 : ∀ (W' : World), Keeps [] wr W' → Calls Tryz.prog 88 #[.slice (some ⟨g, x, none⟩) l.length c, .int .i64 k, .slice ao pl.length ac] W' fun e w' => (standE l[k].nd.name l[k].nd.attrs = 0 ∧ e = .returned (.bool true) ∨ standE l[k].nd.name l[k].nd.attrs ≠ 0 ∧ e = .panicked (stopped (standE l[k].nd.name l[k].nd.attrs))) ∧ Keeps [] W' w' := fun W' hkk => by
          rw [hpn]
          exact stand1_any W' P _ ns k _ (HMr.out.keeps hkk List.not_mem_nil) ((HNs.out.keeps hkr.out hPc).keeps0 hkk) hkn HF.out
        clear hcl hW
        generalize l[k] = p at *
        obtain ⟨nd, pav, pkv⟩ := p
        simp only at a0 a1 a2 a3 hpn hW1 hpk hak hszk hkf hFk hvis0
        clear hpn
        obtain ⟨qo, qc, hq⟩ := hak.form
        subst hq
        obtain ⟨ko, kc, hkv⟩ := hkf
        subst hkv
        obtain ⟨Wb, hWb⟩ : ∃ Wb, wr.alloc (.cells #[.string ⟨nd.name.toArray⟩, .slice qo nd.attrs.length qc, .string ⟨nd.text.toArray⟩, .slice ko nd.kids.length kc] 45) = Wb := ⟨_, rfl⟩
        have hka : Keeps [] wr Wb := by rw [← hWb]; exact (Keeps.refl [] wr).alloc _
        have hbx : Wb.heap[wr.heap.size]? = some (.cells #[.string ⟨nd.name.toArray⟩, .slice qo nd.attrs.length qc, .string ⟨nd.text.toArray⟩, .slice ko nd.kids.length kc] 45 (0, 0)) := by rw [← hWb]; exact heap_alloc_new wr _
        have hBr : B1 ≤ wr.heap.size := Nat.le_trans hB1 hkr.out.size
        have hbl : wr.heap.size < Wb.heap.size := lt_of_block hbx
        have hrb : ∀ g, (Value.slice ao pl.length ac).ownBlock = some g → g < wr.heap.size := fun g hg => (hrow'.out.lt g hg).2
        have hend := hide (fun (Wx : World) (hkx : Keeps [] wr Wx) {W2 : World} (hS2 : Keeps [] Wx W2) => (⟨hS2.owns (hkx.owns hrow'.out (fun _ _ => List.not_mem_nil)) (fun _ _ => List.not_mem_nil), keeps_within (keeps_within hkr.out hkx (by simp)) hS2 (by simp)⟩ : W2.ownsRow B1 45 4 (.slice ao pl.length ac) pl.length (pnsCells pl) ∧ Keeps (Value.slice ao pl.length ac).ownBlock.toList w W2))
        obtain ⟨D1, hD1⟩ : ∃ D1, standE nd.name nd.attrs = D1 := ⟨_, rfl⟩
        obtain ⟨D2, hD2⟩ : ∃ D2, isE nd.kids = D2 := ⟨_, rfl⟩
        rw [hD1] at hvis0
        rw [hD1, hD2] at hW1
        rw [hD2] at hpk
        clear hD1 hD2
        by_cases hd1 : D1 = 0
        · have hvis := hide (fun (W' : World) (hkk : Keeps [] Wb W') => (hvis0 W' (hka.trans hkk)).mono (R' := fun e w' => e = .returned (.bool true) ∧ Keeps [] W' w') (fun e w' h => ⟨h.1.elim (fun h => h.2) (fun h => absurd hd1 h.1), h.2⟩))
          rw [if_pos hd1] at hW1
          have hin := hide (fun (W' : World) (L' : List Nat) (hkk : Keeps L' w0 W') (hPL' : ∀ g, P g → g ∉ L') (hM' : HasMax W') (av' : Value) (hrow9 : W'.ownsRow B1 45 4 av' (pl ++ [(⟨nd, .slice qo nd.attrs.length qc, .slice ko nd.kids.length kc⟩ : Pn)]).length (pnsCells (pl ++ [(⟨nd, .slice qo nd.attrs.length qc, .slice ko nd.kids.length kc⟩ : Pn)]))) (hB9 : B1 ≤ W'.heap.size) => hpk W' L' hkk hPL' hM' av' (pl ++ [(⟨nd, .slice qo nd.attrs.length qc, .slice ko nd.kids.length kc⟩ : Pn)]) hrow9 hB9 (by have := Hsz.out; simp; omega) hFk)
          simp only [List.length_append, List.length_singleton] at hin
          have e0 : pnsCells (pl ++ [(⟨nd, .slice qo nd.attrs.length qc, .slice ko nd.kids.length kc⟩ : Pn)]) = pnsCells pl ++ pnCells ⟨nd, .slice qo nd.attrs.length qc, .slice ko nd.kids.length kc⟩ := by simp [pnsCells]
          rw [e0] at hin
          clear e0 hpk hvis0 hd1
          by_cases hd2 : D2 = 0
          · rw [if_pos hd2] at hW1
            have HW := hide hW1
            have HD0 := hide hd2
            clear hW1 hd2
            go_upto_region 4 with fail
            refine wp_region_any (by kernel_rfl) ?_
            change wpAny _ _ _ _ _ _ _ (World.drew _)
            refine wpAny_take (i := 0) (v := .func (.func 88) #[] #[]) rfl (by kernel_rfl) (by kernel_rfl) (by kernel_rfl) (fun _ _ _ h => h) (Or.inl ⟨by rfl, by intro w; go_simp⟩) ?_
            simp only [List.getElem_toArray, List.getElem_cons_zero, Act.put, List.setIfInBounds_toArray, List.set]
            refine wpAny_take (i := 1) (v := .slice (some ⟨g, x, none⟩) l.length c) rfl (by kernel_rfl) (by kernel_rfl) (by kernel_rfl) (fun _ _ _ h => h) (Or.inl ⟨by rfl, by intro w; go_simp⟩) ?_
            simp only [List.getElem_toArray, List.getElem_cons_zero, List.getElem_cons_succ, Act.put, List.setIfInBounds_toArray, List.set]
            refine wpAny_take (i := 2) (v := .int .i64 k) rfl (by kernel_rfl) (by kernel_rfl) (by kernel_rfl) (fun _ _ _ h => h) (Or.inl ⟨by rfl, by intro w; go_simp⟩) ?_
            simp only [List.getElem_toArray, List.getElem_cons_zero, List.getElem_cons_succ, Act.put, List.setIfInBounds_toArray, List.set]
            refine wpAny_take (i := 3) (v := .slice ao pl.length ac) rfl (by kernel_rfl) (by kernel_rfl) (by kernel_rfl) (fun _ _ _ h => h) (Or.inl ⟨by rfl, by intro w; go_simp⟩) ?_
            simp only [List.getElem_toArray, List.getElem_cons_zero, List.getElem_cons_succ, Act.put, List.setIfInBounds_toArray, List.set]
            refine wpAny_ready (rs := [4]) (by kernel_rfl) (by simp) ?_
            refine AllReady.cons rfl (fun K9 hK9 => ?_) AllReady.nil
            refine step_callv (by simp [Region.wanted]) (.tmp 16) _ _ rfl 88 #[] rfl enters88 #[.slice (some ⟨g, x, none⟩) l.length c, .int .i64 k, .slice ao pl.length ac] (by first | (simp [Act.eval]; done) | (simp [Act.eval, Act.put]; done)) (hvis.out _ ((Keeps.refl [] _).drew)) ?_
            rintro e w2 ⟨rfl, hS2⟩
            refine ⟨_, rfl, ?_⟩
            refine hK9 _ _ ?_
            clear hK9 K9
            simp only [List.getElem_toArray, List.getElem_cons_zero, List.getElem_cons_succ, Act.put, List.setIfInBounds_toArray, List.set]
            have hbx2 : w2.heap[wr.heap.size]? = some (.cells #[.string ⟨nd.name.toArray⟩, .slice qo nd.attrs.length qc, .string ⟨nd.text.toArray⟩, .slice ko nd.kids.length kc] 45 (0, 0)) := (hS2.block _ hbl List.not_mem_nil).trans hbx
            have hrow2 := (hend.out _ (hka.trans ((Keeps.refl [] _).drew)) hS2).1
            have hkp2 := (hend.out _ (hka.trans ((Keeps.refl [] _).drew)) hS2).2
            have hM2 : HasMax w2 := (HMr.out.keeps hka List.not_mem_nil).keeps (((Keeps.refl [] _).drew).trans hS2) List.not_mem_nil
            have k0 : w2.cell? ⟨wr.heap.size, 0, none⟩ = some (.string ⟨nd.name.toArray⟩) := cell_blk hbx2 0
            have k1 : w2.cell? ⟨wr.heap.size, 1, none⟩ = some (.slice qo nd.attrs.length qc) := cell_blk hbx2 1
            have k2 : w2.cell? ⟨wr.heap.size, 2, none⟩ = some (.string ⟨nd.text.toArray⟩) := cell_blk hbx2 2
            have k3 : w2.cell? ⟨wr.heap.size, 3, none⟩ = some (.slice ko nd.kids.length kc) := cell_blk hbx2 3
            have hbl2 : wr.heap.size < w2.heap.size := lt_of_block hbx2
            have k3a : ∀ o', (w2.alloc o').cell? ⟨wr.heap.size, 3, none⟩ = some (.slice ko nd.kids.length kc) := fun o' => (cell_past (a := ⟨wr.heap.size, 3, none⟩) hbl2 o').trans k3
            have hB2 : B1 ≤ w2.heap.size := by omega
            refine wpAny_take (i := 5) (v := .bool false) rfl (by kernel_rfl) (by kernel_rfl) (by kernel_rfl) (fun _ _ _ h => h) (Or.inl ⟨by rfl, by intro w; go_simp⟩) ?_
            simp only [List.getElem_toArray, List.getElem_cons_zero, List.getElem_cons_succ, Act.put, List.setIfInBounds_toArray, List.set]
            refine wpAny_take (i := 6) (v := .bool false) rfl (by kernel_rfl) (by kernel_rfl) (by kernel_rfl) (fun _ _ _ h => h) (Or.inl ⟨by rfl, by intro w; go_simp⟩) ?_
            simp only [List.getElem_toArray, List.getElem_cons_zero, List.getElem_cons_succ, Act.put, List.setIfInBounds_toArray, List.set]
            refine wpAny_take (i := 7) (v := .pointer (some ⟨wr.heap.size, 3, none⟩)) rfl (by kernel_rfl) (by kernel_rfl) (by kernel_rfl) (fun _ _ _ h => h) (Or.inl ⟨wanted_yes rfl rfl rfl rfl, by intro w; go_simp⟩) ?_
            simp only [List.getElem_toArray, List.getElem_cons_zero, List.getElem_cons_succ, Act.put, List.setIfInBounds_toArray, List.set]
            refine wpAny_take (i := 9) (v := .slice ao pl.length ac) rfl (by kernel_rfl) (by kernel_rfl) (by kernel_rfl) (fun _ _ _ h => h) (Or.inl ⟨wanted_yes rfl rfl rfl rfl, by intro w; go_simp⟩) ?_
            simp only [List.getElem_toArray, List.getElem_cons_zero, List.getElem_cons_succ, Act.put, List.setIfInBounds_toArray, List.set]
            refine wpAny_take (i := 13) (v := .func (.func 88) #[] #[]) rfl (by kernel_rfl) (by kernel_rfl) (by kernel_rfl) (fun _ _ _ h => h) (Or.inl ⟨wanted_yes rfl rfl rfl rfl, by intro w; go_simp⟩) ?_
            simp only [List.getElem_toArray, List.getElem_cons_zero, List.getElem_cons_succ, Act.put, List.setIfInBounds_toArray, List.set]
            have hdeep : Hid (∀ (w4 : World) (o4 : Option Addr) (c4 : Nat), w4.ownsRow B1 45 4 (.slice o4 (pl.length + 1) c4) (pl.length + 1) (pnsCells pl ++ pnCells (⟨nd, .slice qo nd.attrs.length qc, .slice ko nd.kids.length kc⟩ : Pn)) → (w2.alloc (.cells #[.string ⟨nd.name.toArray⟩, .slice qo nd.attrs.length qc, .string ⟨nd.text.toArray⟩, .slice ko nd.kids.length kc] 45)).grownBy w4 (Value.slice ao pl.length ac).ownBlock → ((∃ g cap, Value.slice ao pl.length ac = .slice (some ⟨g, 0, none⟩) pl.length cap ∧ Value.slice o4 (pl.length + 1) c4 = .slice (some ⟨g, 0, none⟩) (pl.length + 1) cap) ∨ ((Value.slice o4 (pl.length + 1) c4).ownBlock = some (w2.alloc (.cells #[.string ⟨nd.name.toArray⟩, .slice qo nd.attrs.length qc, .string ⟨nd.text.toArray⟩, .slice ko nd.kids.length kc] 45)).heap.size ∧ Keeps [] (w2.alloc (.cells #[.string ⟨nd.name.toArray⟩, .slice qo nd.attrs.length qc, .string ⟨nd.text.toArray⟩, .slice ko nd.kids.length kc] 45)) w4)) → Calls Tryz.prog 171 (#[.slice ko nd.kids.length kc, .slice o4 (pl.length + 1) c4, .func (.func 88) #[] #[]] ++ #[]) w4 fun e w5 => e = .returned (.bool true) ∧ w5.ownsRow B1 45 4 (.slice ao pl.length ac) pl.length (pnsCells pl) ∧ Keeps (Value.slice ao pl.length ac).ownBlock.toList w w5) := by
              intro w4 o4 c4 ho4 hg4 hc4
              have hk4 : Keeps (Value.slice ao pl.length ac).ownBlock.toList w2 w4 := ((Keeps.refl _ w2).alloc _).grown hg4 (fun i e => .inl (by simp [e]))
              have hk24 : Keeps (Value.slice ao pl.length ac).ownBlock.toList w w4 := hkp2.trans hk4
              have hM4 : HasMax w4 := hM2.keeps hk4 (fun hm => by have := (hrow2.lt 0 (by simpa using hm)).1; omega)
              refine (hin.out w4 (L ++ (Value.slice ao pl.length ac).ownBlock.toList) ((HKW.out.to (fun g hg => List.mem_append_left _ hg)).trans (hk24.to (fun g hg => List.mem_append_right _ hg))) (fun g hg hm => (List.mem_append.1 hm).elim (HPL.out g hg) (hPc g hg)) hM4 (.slice o4 (pl.length + 1) c4) ho4 (Nat.le_trans hB2 hk4.size)).mono ?_
              rintro e w5 ⟨h9, hrow5, hk5⟩
              have h8 := h9.elim (fun h => h.2) (fun h => absurd HD0.out h.1)
              clear h9
              subst h8
              rcases hc4 with ⟨g4, cap4, e1, e2⟩ | ⟨e1, hk34⟩
              · rw [e1]
                rw [e2] at hrow5 hk5
                rw [e1] at hk24
                refine ⟨rfl, row_shrink (pnsCells_len pl) hrow5, keeps_within hk24 hk5 (fun g hg _ => ?_)⟩
                exact hg
              · have hr4 := hk34.owns (hrow2.alloc (.cells #[.string ⟨nd.name.toArray⟩, .slice qo nd.attrs.length qc, .string ⟨nd.text.toArray⟩, .slice ko nd.kids.length kc] 45)) (fun _ _ => List.not_mem_nil)
                have hsz9 : (w2.alloc (.cells #[.string ⟨nd.name.toArray⟩, .slice qo nd.attrs.length qc, .string ⟨nd.text.toArray⟩, .slice ko nd.kids.length kc] 45)).heap.size = w2.heap.size + 1 := by simp
                rw [hsz9] at e1
                refine ⟨rfl, hk5.owns hr4 (fun g hg hm => ?_), keeps_within hk24 hk5 (fun g hg hlt => ?_)⟩
                · rw [e1] at hm
                  simp at hm
                  have := (hrow2.lt g hg).2
                  omega
                · rw [e1] at hg
                  simp at hg
                  have := hkp2.size
                  omega
            refine wpAny_ready (rs := [8, 10]) (by kernel_rfl) (by simp) ?_
            refine AllReady.cons rfl (fun K9 hK9 => ?_) (AllReady.cons rfl (fun K9 hK9 => ?_) AllReady.nil)
            · refine step_run (v := .slice ko nd.kids.length kc) (w' := w2) (wanted_yes rfl rfl rfl rfl) (by go_simp) ?_
              refine hK9 _ _ ?_
              clear hK9 K9
              simp only [List.getElem_toArray, List.getElem_cons_zero, List.getElem_cons_succ, Act.put, List.setIfInBounds_toArray, List.set]
              refine wpAny_ready (rs := [10]) (by kernel_rfl) (by simp) ?_
              refine AllReady.cons rfl (fun K9 hK9 => ?_) AllReady.nil
              · refine step_run (v := .agg #[.string ⟨nd.name.toArray⟩, .slice qo nd.attrs.length qc, .string ⟨nd.text.toArray⟩, .slice ko nd.kids.length kc]) (w' := w2) (wanted_yes rfl rfl rfl rfl) (by go_simp) ?_
                refine hK9 _ _ ?_
                clear hK9 K9
                simp only [List.getElem_toArray, List.getElem_cons_zero, List.getElem_cons_succ, Act.put, List.setIfInBounds_toArray, List.set]
                refine wpAny_ready (rs := [11]) (by kernel_rfl) (by simp) ?_
                refine AllReady.cons rfl (fun K9 hK9 => ?_) AllReady.nil
                · refine step_run (v := .slice (some ⟨w2.heap.size, 0, none⟩) 1 1) (w' := w2.alloc (.cells #[.string ⟨nd.name.toArray⟩, .slice qo nd.attrs.length qc, .string ⟨nd.text.toArray⟩, .slice ko nd.kids.length kc] 45)) (wanted_yes rfl rfl rfl rfl) (by go_simp) ?_
                  refine hK9 _ _ ?_
                  clear hK9 K9
                  simp only [List.getElem_toArray, List.getElem_cons_zero, List.getElem_cons_succ, Act.put, List.setIfInBounds_toArray, List.set]
                  refine wpAny_ready (rs := [12]) (by kernel_rfl) (by simp) ?_
                  refine AllReady.cons rfl (fun K9 hK9 => ?_) AllReady.nil
                  · refine step_keep (wanted_yes rfl rfl rfl rfl) _ _ 29 rfl B1 45 i0 _ 4 80 Tryz.underlying29 hi hz0 hz1 hz2 (by kernel_rfl) (by decide) (.slice ao pl.length ac) pl.length (pnsCells pl) rfl (hrow2.alloc _) ⟨w2.heap.size, 0, none⟩ 1 (pnCells (⟨nd, .slice qo nd.attrs.length qc, .slice ko nd.kids.length kc⟩ : Pn)) rfl rfl (lit_cells w2 _ 45) pn_one (by unfold maxLen; omega) (by omega) (Nat.le_trans hB2 (by simp)) ?_
                    intro v4 w4 ho4 hg4 hc4
                    obtain ⟨o4, c4, hv4⟩ := row_form ho4
                    subst hv4
                    have hk4 : Keeps (Value.slice ao pl.length ac).ownBlock.toList w2 w4 := ((Keeps.refl _ w2).alloc _).grown hg4 (fun i e => .inl (by simp [e]))
                    have k3b := cell_keepsS hk4 (a := ⟨wr.heap.size, 3, none⟩) (fun hm => by have := hrb _ (by simpa using hm); simp at this) k3
                    refine hK9 _ _ ?_
                    clear hK9 K9
                    simp only [List.getElem_toArray, List.getElem_cons_zero, List.getElem_cons_succ, Act.put, List.setIfInBounds_toArray, List.set]
                    refine wpAny_ready (rs := [14]) (by kernel_rfl) (by simp) ?_
                    refine AllReady.cons rfl (fun K9 hK9 => ?_) AllReady.nil
                    · refine step_callv (wanted_yes rfl rfl rfl rfl) (.func 171) _ _ rfl 171 #[] rfl enters171 #[.slice ko nd.kids.length kc, .slice o4 (pl.length + 1) c4, .func (.func 88) #[] #[]] (by simp [Act.eval]) (hdeep.out w4 _ _ ho4 hg4 hc4) ?_
                      rintro e w5 ⟨rfl, hrow5, hk5⟩
                      refine ⟨_, rfl, ?_⟩
                      refine hK9 _ _ ?_
                      clear hK9 K9
                      simp only [List.getElem_toArray, List.getElem_cons_zero, List.getElem_cons_succ, Act.put, List.setIfInBounds_toArray, List.set]
                      refine wpAny_take (i := 15) (v := .bool false) rfl (by kernel_rfl) (by kernel_rfl) (by kernel_rfl) (fun _ _ _ h => h) (Or.inl ⟨wanted_yes rfl rfl rfl rfl, by intro w; go_simp⟩) ?_
                      simp only [List.getElem_toArray, List.getElem_cons_zero, List.getElem_cons_succ, Act.put, List.setIfInBounds_toArray, List.set]
                      refine wpAny_take (i := 16) (v := .bool false) rfl (by kernel_rfl) (by kernel_rfl) (by kernel_rfl) (fun _ _ _ h => h) (Or.inl ⟨by rfl, by intro w; go_simp⟩) ?_
                      simp only [List.getElem_toArray, List.getElem_cons_zero, List.getElem_cons_succ, Act.put, List.setIfInBounds_toArray, List.set]
                      refine wpAny_done (by kernel_rfl) ?_ _
                      go_wp2_with fail
                      go_roundw
                      case rel => exact ⟨k + 1, by omega, by go_num, hrow5, hk5, HW.out⟩
                      case measure => simp [intOf]; omega
            · refine step_run (v := .agg #[.string ⟨nd.name.toArray⟩, .slice qo nd.attrs.length qc, .string ⟨nd.text.toArray⟩, .slice ko nd.kids.length kc]) (w' := w2) (wanted_yes rfl rfl rfl rfl) (by go_simp) ?_
              refine hK9 _ _ ?_
              clear hK9 K9
              simp only [List.getElem_toArray, List.getElem_cons_zero, List.getElem_cons_succ, Act.put, List.setIfInBounds_toArray, List.set]
              refine wpAny_ready (rs := [8, 11]) (by kernel_rfl) (by simp) ?_
              refine AllReady.cons rfl (fun K9 hK9 => ?_) (AllReady.cons rfl (fun K9 hK9 => ?_) AllReady.nil)
              · refine step_run (v := .slice ko nd.kids.length kc) (w' := w2) (wanted_yes rfl rfl rfl rfl) (by go_simp) ?_
                refine hK9 _ _ ?_
                clear hK9 K9
                simp only [List.getElem_toArray, List.getElem_cons_zero, List.getElem_cons_succ, Act.put, List.setIfInBounds_toArray, List.set]
                refine wpAny_ready (rs := [11]) (by kernel_rfl) (by simp) ?_
                refine AllReady.cons rfl (fun K9 hK9 => ?_) AllReady.nil
                · refine step_run (v := .slice (some ⟨w2.heap.size, 0, none⟩) 1 1) (w' := w2.alloc (.cells #[.string ⟨nd.name.toArray⟩, .slice qo nd.attrs.length qc, .string ⟨nd.text.toArray⟩, .slice ko nd.kids.length kc] 45)) (wanted_yes rfl rfl rfl rfl) (by go_simp) ?_
                  refine hK9 _ _ ?_
                  clear hK9 K9
                  simp only [List.getElem_toArray, List.getElem_cons_zero, List.getElem_cons_succ, Act.put, List.setIfInBounds_toArray, List.set]
                  refine wpAny_ready (rs := [12]) (by kernel_rfl) (by simp) ?_
                  refine AllReady.cons rfl (fun K9 hK9 => ?_) AllReady.nil
                  · refine step_keep (wanted_yes rfl rfl rfl rfl) _ _ 29 rfl B1 45 i0 _ 4 80 Tryz.underlying29 hi hz0 hz1 hz2 (by kernel_rfl) (by decide) (.slice ao pl.length ac) pl.length (pnsCells pl) rfl (hrow2.alloc _) ⟨w2.heap.size, 0, none⟩ 1 (pnCells (⟨nd, .slice qo nd.attrs.length qc, .slice ko nd.kids.length kc⟩ : Pn)) rfl rfl (lit_cells w2 _ 45) pn_one (by unfold maxLen; omega) (by omega) (Nat.le_trans hB2 (by simp)) ?_
                    intro v4 w4 ho4 hg4 hc4
                    obtain ⟨o4, c4, hv4⟩ := row_form ho4
                    subst hv4
                    have hk4 : Keeps (Value.slice ao pl.length ac).ownBlock.toList w2 w4 := ((Keeps.refl _ w2).alloc _).grown hg4 (fun i e => .inl (by simp [e]))
                    have k3b := cell_keepsS hk4 (a := ⟨wr.heap.size, 3, none⟩) (fun hm => by have := hrb _ (by simpa using hm); simp at this) k3
                    refine hK9 _ _ ?_
                    clear hK9 K9
                    simp only [List.getElem_toArray, List.getElem_cons_zero, List.getElem_cons_succ, Act.put, List.setIfInBounds_toArray, List.set]
                    refine wpAny_ready (rs := [14]) (by kernel_rfl) (by simp) ?_
                    refine AllReady.cons rfl (fun K9 hK9 => ?_) AllReady.nil
                    · refine step_callv (wanted_yes rfl rfl rfl rfl) (.func 171) _ _ rfl 171 #[] rfl enters171 #[.slice ko nd.kids.length kc, .slice o4 (pl.length + 1) c4, .func (.func 88) #[] #[]] (by simp [Act.eval]) (hdeep.out w4 _ _ ho4 hg4 hc4) ?_
                      rintro e w5 ⟨rfl, hrow5, hk5⟩
                      refine ⟨_, rfl, ?_⟩
                      refine hK9 _ _ ?_
                      clear hK9 K9
                      simp only [List.getElem_toArray, List.getElem_cons_zero, List.getElem_cons_succ, Act.put, List.setIfInBounds_toArray, List.set]
                      refine wpAny_take (i := 15) (v := .bool false) rfl (by kernel_rfl) (by kernel_rfl) (by kernel_rfl) (fun _ _ _ h => h) (Or.inl ⟨wanted_yes rfl rfl rfl rfl, by intro w; go_simp⟩) ?_
                      simp only [List.getElem_toArray, List.getElem_cons_zero, List.getElem_cons_succ, Act.put, List.setIfInBounds_toArray, List.set]
                      refine wpAny_take (i := 16) (v := .bool false) rfl (by kernel_rfl) (by kernel_rfl) (by kernel_rfl) (fun _ _ _ h => h) (Or.inl ⟨by rfl, by intro w; go_simp⟩) ?_
                      simp only [List.getElem_toArray, List.getElem_cons_zero, List.getElem_cons_succ, Act.put, List.setIfInBounds_toArray, List.set]
                      refine wpAny_done (by kernel_rfl) ?_ _
                      go_wp2_with fail
                      go_roundw
                      case rel => exact ⟨k + 1, by omega, by go_num, hrow5, hk5, HW.out⟩
                      case measure => simp [intOf]; omega
              · refine step_run (v := .slice (some ⟨w2.heap.size, 0, none⟩) 1 1) (w' := w2.alloc (.cells #[.string ⟨nd.name.toArray⟩, .slice qo nd.attrs.length qc, .string ⟨nd.text.toArray⟩, .slice ko nd.kids.length kc] 45)) (wanted_yes rfl rfl rfl rfl) (by go_simp) ?_
                refine hK9 _ _ ?_
                clear hK9 K9
                simp only [List.getElem_toArray, List.getElem_cons_zero, List.getElem_cons_succ, Act.put, List.setIfInBounds_toArray, List.set]
                refine wpAny_ready (rs := [8, 12]) (by kernel_rfl) (by simp) ?_
                refine AllReady.cons rfl (fun K9 hK9 => ?_) (AllReady.cons rfl (fun K9 hK9 => ?_) AllReady.nil)
                · refine step_run (v := .slice ko nd.kids.length kc) (w' := w2.alloc (.cells #[.string ⟨nd.name.toArray⟩, .slice qo nd.attrs.length qc, .string ⟨nd.text.toArray⟩, .slice ko nd.kids.length kc] 45)) (wanted_yes rfl rfl rfl rfl) (by go_simp) ?_
                  refine hK9 _ _ ?_
                  clear hK9 K9
                  simp only [List.getElem_toArray, List.getElem_cons_zero, List.getElem_cons_succ, Act.put, List.setIfInBounds_toArray, List.set]
                  refine wpAny_ready (rs := [12]) (by kernel_rfl) (by simp) ?_
                  refine AllReady.cons rfl (fun K9 hK9 => ?_) AllReady.nil
                  · refine step_keep (wanted_yes rfl rfl rfl rfl) _ _ 29 rfl B1 45 i0 _ 4 80 Tryz.underlying29 hi hz0 hz1 hz2 (by kernel_rfl) (by decide) (.slice ao pl.length ac) pl.length (pnsCells pl) rfl (hrow2.alloc _) ⟨w2.heap.size, 0, none⟩ 1 (pnCells (⟨nd, .slice qo nd.attrs.length qc, .slice ko nd.kids.length kc⟩ : Pn)) rfl rfl (lit_cells w2 _ 45) pn_one (by unfold maxLen; omega) (by omega) (Nat.le_trans hB2 (by simp)) ?_
                    intro v4 w4 ho4 hg4 hc4
                    obtain ⟨o4, c4, hv4⟩ := row_form ho4
                    subst hv4
                    have hk4 : Keeps (Value.slice ao pl.length ac).ownBlock.toList w2 w4 := ((Keeps.refl _ w2).alloc _).grown hg4 (fun i e => .inl (by simp [e]))
                    have k3b := cell_keepsS hk4 (a := ⟨wr.heap.size, 3, none⟩) (fun hm => by have := hrb _ (by simpa using hm); simp at this) k3
                    refine hK9 _ _ ?_
                    clear hK9 K9
                    simp only [List.getElem_toArray, List.getElem_cons_zero, List.getElem_cons_succ, Act.put, List.setIfInBounds_toArray, List.set]
                    refine wpAny_ready (rs := [14]) (by kernel_rfl) (by simp) ?_
                    refine AllReady.cons rfl (fun K9 hK9 => ?_) AllReady.nil
                    · refine step_callv (wanted_yes rfl rfl rfl rfl) (.func 171) _ _ rfl 171 #[] rfl enters171 #[.slice ko nd.kids.length kc, .slice o4 (pl.length + 1) c4, .func (.func 88) #[] #[]] (by simp [Act.eval]) (hdeep.out w4 _ _ ho4 hg4 hc4) ?_
                      rintro e w5 ⟨rfl, hrow5, hk5⟩
                      refine ⟨_, rfl, ?_⟩
                      refine hK9 _ _ ?_
                      clear hK9 K9
                      simp only [List.getElem_toArray, List.getElem_cons_zero, List.getElem_cons_succ, Act.put, List.setIfInBounds_toArray, List.set]
                      refine wpAny_take (i := 15) (v := .bool false) rfl (by kernel_rfl) (by kernel_rfl) (by kernel_rfl) (fun _ _ _ h => h) (Or.inl ⟨wanted_yes rfl rfl rfl rfl, by intro w; go_simp⟩) ?_
                      simp only [List.getElem_toArray, List.getElem_cons_zero, List.getElem_cons_succ, Act.put, List.setIfInBounds_toArray, List.set]
                      refine wpAny_take (i := 16) (v := .bool false) rfl (by kernel_rfl) (by kernel_rfl) (by kernel_rfl) (fun _ _ _ h => h) (Or.inl ⟨by rfl, by intro w; go_simp⟩) ?_
                      simp only [List.getElem_toArray, List.getElem_cons_zero, List.getElem_cons_succ, Act.put, List.setIfInBounds_toArray, List.set]
                      refine wpAny_done (by kernel_rfl) ?_ _
                      go_wp2_with fail
                      go_roundw
                      case rel => exact ⟨k + 1, by omega, by go_num, hrow5, hk5, HW.out⟩
                      case measure => simp [intOf]; omega
                · refine step_keep (wanted_yes rfl rfl rfl rfl) _ _ 29 rfl B1 45 i0 _ 4 80 Tryz.underlying29 hi hz0 hz1 hz2 (by kernel_rfl) (by decide) (.slice ao pl.length ac) pl.length (pnsCells pl) rfl (hrow2.alloc _) ⟨w2.heap.size, 0, none⟩ 1 (pnCells (⟨nd, .slice qo nd.attrs.length qc, .slice ko nd.kids.length kc⟩ : Pn)) rfl rfl (lit_cells w2 _ 45) pn_one (by unfold maxLen; omega) (by omega) (Nat.le_trans hB2 (by simp)) ?_
                  intro v4 w4 ho4 hg4 hc4
                  obtain ⟨o4, c4, hv4⟩ := row_form ho4
                  subst hv4
                  have hk4 : Keeps (Value.slice ao pl.length ac).ownBlock.toList w2 w4 := ((Keeps.refl _ w2).alloc _).grown hg4 (fun i e => .inl (by simp [e]))
                  have k3b := cell_keepsS hk4 (a := ⟨wr.heap.size, 3, none⟩) (fun hm => by have := hrb _ (by simpa using hm); simp at this) k3
                  refine hK9 _ _ ?_
                  clear hK9 K9
                  simp only [List.getElem_toArray, List.getElem_cons_zero, List.getElem_cons_succ, Act.put, List.setIfInBounds_toArray, List.set]
                  refine wpAny_ready (rs := [8]) (by kernel_rfl) (by simp) ?_
                  refine AllReady.cons rfl (fun K9 hK9 => ?_) AllReady.nil
                  · refine step_run (v := .slice ko nd.kids.length kc) (w' := w4) (wanted_yes rfl rfl rfl rfl) (by go_simp) ?_
                    refine hK9 _ _ ?_
                    clear hK9 K9
                    simp only [List.getElem_toArray, List.getElem_cons_zero, List.getElem_cons_succ, Act.put, List.setIfInBounds_toArray, List.set]
                    refine wpAny_ready (rs := [14]) (by kernel_rfl) (by simp) ?_
                    refine AllReady.cons rfl (fun K9 hK9 => ?_) AllReady.nil
                    · refine step_callv (wanted_yes rfl rfl rfl rfl) (.func 171) _ _ rfl 171 #[] rfl enters171 #[.slice ko nd.kids.length kc, .slice o4 (pl.length + 1) c4, .func (.func 88) #[] #[]] (by simp [Act.eval]) (hdeep.out w4 _ _ ho4 hg4 hc4) ?_
                      rintro e w5 ⟨rfl, hrow5, hk5⟩
                      refine ⟨_, rfl, ?_⟩
                      refine hK9 _ _ ?_
                      clear hK9 K9
                      simp only [List.getElem_toArray, List.getElem_cons_zero, List.getElem_cons_succ, Act.put, List.setIfInBounds_toArray, List.set]
                      refine wpAny_take (i := 15) (v := .bool false) rfl (by kernel_rfl) (by kernel_rfl) (by kernel_rfl) (fun _ _ _ h => h) (Or.inl ⟨wanted_yes rfl rfl rfl rfl, by intro w; go_simp⟩) ?_
                      simp only [List.getElem_toArray, List.getElem_cons_zero, List.getElem_cons_succ, Act.put, List.setIfInBounds_toArray, List.set]
                      refine wpAny_take (i := 16) (v := .bool false) rfl (by kernel_rfl) (by kernel_rfl) (by kernel_rfl) (fun _ _ _ h => h) (Or.inl ⟨by rfl, by intro w; go_simp⟩) ?_
                      simp only [List.getElem_toArray, List.getElem_cons_zero, List.getElem_cons_succ, Act.put, List.setIfInBounds_toArray, List.set]
                      refine wpAny_done (by kernel_rfl) ?_ _
                      go_wp2_with fail
                      go_roundw
                      case rel => exact ⟨k + 1, by omega, by go_num, hrow5, hk5, HW.out⟩
                      case measure => simp [intOf]; omega
          · rw [if_neg hd2] at hW1
            have HDR := hide hW1
            have HR0 := hide (show R ≠ 0 from by rw [← hW1]; exact hd2)
            have HD0 := hide hd2
            clear hW1 hd2
            go_upto_region 4 with fail
            refine wp_region_any (by kernel_rfl) ?_
            change wpAny _ _ _ _ _ _ _ (World.drew _)
            refine wpAny_take (i := 0) (v := .func (.func 88) #[] #[]) rfl (by kernel_rfl) (by kernel_rfl) (by kernel_rfl) (fun _ _ _ h => h) (Or.inl ⟨by rfl, by intro w; go_simp⟩) ?_
            simp only [List.getElem_toArray, List.getElem_cons_zero, Act.put, List.setIfInBounds_toArray, List.set]
            refine wpAny_take (i := 1) (v := .slice (some ⟨g, x, none⟩) l.length c) rfl (by kernel_rfl) (by kernel_rfl) (by kernel_rfl) (fun _ _ _ h => h) (Or.inl ⟨by rfl, by intro w; go_simp⟩) ?_
            simp only [List.getElem_toArray, List.getElem_cons_zero, List.getElem_cons_succ, Act.put, List.setIfInBounds_toArray, List.set]
            refine wpAny_take (i := 2) (v := .int .i64 k) rfl (by kernel_rfl) (by kernel_rfl) (by kernel_rfl) (fun _ _ _ h => h) (Or.inl ⟨by rfl, by intro w; go_simp⟩) ?_
            simp only [List.getElem_toArray, List.getElem_cons_zero, List.getElem_cons_succ, Act.put, List.setIfInBounds_toArray, List.set]
            refine wpAny_take (i := 3) (v := .slice ao pl.length ac) rfl (by kernel_rfl) (by kernel_rfl) (by kernel_rfl) (fun _ _ _ h => h) (Or.inl ⟨by rfl, by intro w; go_simp⟩) ?_
            simp only [List.getElem_toArray, List.getElem_cons_zero, List.getElem_cons_succ, Act.put, List.setIfInBounds_toArray, List.set]
            refine wpAny_ready (rs := [4]) (by kernel_rfl) (by simp) ?_
            refine AllReady.cons rfl (fun K9 hK9 => ?_) AllReady.nil
            refine step_callv (by simp [Region.wanted]) (.tmp 16) _ _ rfl 88 #[] rfl enters88 #[.slice (some ⟨g, x, none⟩) l.length c, .int .i64 k, .slice ao pl.length ac] (by first | (simp [Act.eval]; done) | (simp [Act.eval, Act.put]; done)) (hvis.out _ ((Keeps.refl [] _).drew)) ?_
            rintro e w2 ⟨rfl, hS2⟩
            refine ⟨_, rfl, ?_⟩
            refine hK9 _ _ ?_
            clear hK9 K9
            simp only [List.getElem_toArray, List.getElem_cons_zero, List.getElem_cons_succ, Act.put, List.setIfInBounds_toArray, List.set]
            have hbx2 : w2.heap[wr.heap.size]? = some (.cells #[.string ⟨nd.name.toArray⟩, .slice qo nd.attrs.length qc, .string ⟨nd.text.toArray⟩, .slice ko nd.kids.length kc] 45 (0, 0)) := (hS2.block _ hbl List.not_mem_nil).trans hbx
            have hrow2 := (hend.out _ (hka.trans ((Keeps.refl [] _).drew)) hS2).1
            have hkp2 := (hend.out _ (hka.trans ((Keeps.refl [] _).drew)) hS2).2
            have hM2 : HasMax w2 := (HMr.out.keeps hka List.not_mem_nil).keeps (((Keeps.refl [] _).drew).trans hS2) List.not_mem_nil
            have k0 : w2.cell? ⟨wr.heap.size, 0, none⟩ = some (.string ⟨nd.name.toArray⟩) := cell_blk hbx2 0
            have k1 : w2.cell? ⟨wr.heap.size, 1, none⟩ = some (.slice qo nd.attrs.length qc) := cell_blk hbx2 1
            have k2 : w2.cell? ⟨wr.heap.size, 2, none⟩ = some (.string ⟨nd.text.toArray⟩) := cell_blk hbx2 2
            have k3 : w2.cell? ⟨wr.heap.size, 3, none⟩ = some (.slice ko nd.kids.length kc) := cell_blk hbx2 3
            have hbl2 : wr.heap.size < w2.heap.size := lt_of_block hbx2
            have k3a : ∀ o', (w2.alloc o').cell? ⟨wr.heap.size, 3, none⟩ = some (.slice ko nd.kids.length kc) := fun o' => (cell_past (a := ⟨wr.heap.size, 3, none⟩) hbl2 o').trans k3
            have hB2 : B1 ≤ w2.heap.size := by omega
            refine wpAny_take (i := 5) (v := .bool false) rfl (by kernel_rfl) (by kernel_rfl) (by kernel_rfl) (fun _ _ _ h => h) (Or.inl ⟨by rfl, by intro w; go_simp⟩) ?_
            simp only [List.getElem_toArray, List.getElem_cons_zero, List.getElem_cons_succ, Act.put, List.setIfInBounds_toArray, List.set]
            refine wpAny_take (i := 6) (v := .bool false) rfl (by kernel_rfl) (by kernel_rfl) (by kernel_rfl) (fun _ _ _ h => h) (Or.inl ⟨by rfl, by intro w; go_simp⟩) ?_
            simp only [List.getElem_toArray, List.getElem_cons_zero, List.getElem_cons_succ, Act.put, List.setIfInBounds_toArray, List.set]
            refine wpAny_take (i := 7) (v := .pointer (some ⟨wr.heap.size, 3, none⟩)) rfl (by kernel_rfl) (by kernel_rfl) (by kernel_rfl) (fun _ _ _ h => h) (Or.inl ⟨wanted_yes rfl rfl rfl rfl, by intro w; go_simp⟩) ?_
            simp only [List.getElem_toArray, List.getElem_cons_zero, List.getElem_cons_succ, Act.put, List.setIfInBounds_toArray, List.set]
            refine wpAny_take (i := 9) (v := .slice ao pl.length ac) rfl (by kernel_rfl) (by kernel_rfl) (by kernel_rfl) (fun _ _ _ h => h) (Or.inl ⟨wanted_yes rfl rfl rfl rfl, by intro w; go_simp⟩) ?_
            simp only [List.getElem_toArray, List.getElem_cons_zero, List.getElem_cons_succ, Act.put, List.setIfInBounds_toArray, List.set]
            refine wpAny_take (i := 13) (v := .func (.func 88) #[] #[]) rfl (by kernel_rfl) (by kernel_rfl) (by kernel_rfl) (fun _ _ _ h => h) (Or.inl ⟨wanted_yes rfl rfl rfl rfl, by intro w; go_simp⟩) ?_
            simp only [List.getElem_toArray, List.getElem_cons_zero, List.getElem_cons_succ, Act.put, List.setIfInBounds_toArray, List.set]
            have hdeep : Hid (∀ (w4 : World) (o4 : Option Addr) (c4 : Nat), w4.ownsRow B1 45 4 (.slice o4 (pl.length + 1) c4) (pl.length + 1) (pnsCells pl ++ pnCells (⟨nd, .slice qo nd.attrs.length qc, .slice ko nd.kids.length kc⟩ : Pn)) → (w2.alloc (.cells #[.string ⟨nd.name.toArray⟩, .slice qo nd.attrs.length qc, .string ⟨nd.text.toArray⟩, .slice ko nd.kids.length kc] 45)).grownBy w4 (Value.slice ao pl.length ac).ownBlock → ((∃ g cap, Value.slice ao pl.length ac = .slice (some ⟨g, 0, none⟩) pl.length cap ∧ Value.slice o4 (pl.length + 1) c4 = .slice (some ⟨g, 0, none⟩) (pl.length + 1) cap) ∨ ((Value.slice o4 (pl.length + 1) c4).ownBlock = some (w2.alloc (.cells #[.string ⟨nd.name.toArray⟩, .slice qo nd.attrs.length qc, .string ⟨nd.text.toArray⟩, .slice ko nd.kids.length kc] 45)).heap.size ∧ Keeps [] (w2.alloc (.cells #[.string ⟨nd.name.toArray⟩, .slice qo nd.attrs.length qc, .string ⟨nd.text.toArray⟩, .slice ko nd.kids.length kc] 45)) w4)) → Calls Tryz.prog 171 (#[.slice ko nd.kids.length kc, .slice o4 (pl.length + 1) c4, .func (.func 88) #[] #[]] ++ #[]) w4 fun e w5 => e = .panicked (stopped R) ∧ w5.ownsRow B1 45 4 (.slice ao pl.length ac) pl.length (pnsCells pl) ∧ Keeps (Value.slice ao pl.length ac).ownBlock.toList w w5) := by
              intro w4 o4 c4 ho4 hg4 hc4
              have hk4 : Keeps (Value.slice ao pl.length ac).ownBlock.toList w2 w4 := ((Keeps.refl _ w2).alloc _).grown hg4 (fun i e => .inl (by simp [e]))
              have hk24 : Keeps (Value.slice ao pl.length ac).ownBlock.toList w w4 := hkp2.trans hk4
              have hM4 : HasMax w4 := hM2.keeps hk4 (fun hm => by have := (hrow2.lt 0 (by simpa using hm)).1; omega)
              refine (hin.out w4 (L ++ (Value.slice ao pl.length ac).ownBlock.toList) ((HKW.out.to (fun g hg => List.mem_append_left _ hg)).trans (hk24.to (fun g hg => List.mem_append_right _ hg))) (fun g hg hm => (List.mem_append.1 hm).elim (HPL.out g hg) (hPc g hg)) hM4 (.slice o4 (pl.length + 1) c4) ho4 (Nat.le_trans hB2 hk4.size)).mono ?_
              rintro e w5 ⟨h9, hrow5, hk5⟩
              have h8 := h9.elim (fun h => absurd h.1 HD0.out) (fun h => h.2.trans (by rw [HDR.out]))
              clear h9
              subst h8
              rcases hc4 with ⟨g4, cap4, e1, e2⟩ | ⟨e1, hk34⟩
              · rw [e1]
                rw [e2] at hrow5 hk5
                rw [e1] at hk24
                refine ⟨rfl, row_shrink (pnsCells_len pl) hrow5, keeps_within hk24 hk5 (fun g hg _ => ?_)⟩
                exact hg
              · have hr4 := hk34.owns (hrow2.alloc (.cells #[.string ⟨nd.name.toArray⟩, .slice qo nd.attrs.length qc, .string ⟨nd.text.toArray⟩, .slice ko nd.kids.length kc] 45)) (fun _ _ => List.not_mem_nil)
                have hsz9 : (w2.alloc (.cells #[.string ⟨nd.name.toArray⟩, .slice qo nd.attrs.length qc, .string ⟨nd.text.toArray⟩, .slice ko nd.kids.length kc] 45)).heap.size = w2.heap.size + 1 := by simp
                rw [hsz9] at e1
                refine ⟨rfl, hk5.owns hr4 (fun g hg hm => ?_), keeps_within hk24 hk5 (fun g hg hlt => ?_)⟩
                · rw [e1] at hm
                  simp at hm
                  have := (hrow2.lt g hg).2
                  omega
                · rw [e1] at hg
                  simp at hg
                  have := hkp2.size
                  omega
            refine wpAny_ready (rs := [8, 10]) (by kernel_rfl) (by simp) ?_
            refine AllReady.cons rfl (fun K9 hK9 => ?_) (AllReady.cons rfl (fun K9 hK9 => ?_) AllReady.nil)
            · refine step_run (v := .slice ko nd.kids.length kc) (w' := w2) (wanted_yes rfl rfl rfl rfl) (by go_simp) ?_
              refine hK9 _ _ ?_
              clear hK9 K9
              simp only [List.getElem_toArray, List.getElem_cons_zero, List.getElem_cons_succ, Act.put, List.setIfInBounds_toArray, List.set]
              refine wpAny_ready (rs := [10]) (by kernel_rfl) (by simp) ?_
              refine AllReady.cons rfl (fun K9 hK9 => ?_) AllReady.nil
              · refine step_run (v := .agg #[.string ⟨nd.name.toArray⟩, .slice qo nd.attrs.length qc, .string ⟨nd.text.toArray⟩, .slice ko nd.kids.length kc]) (w' := w2) (wanted_yes rfl rfl rfl rfl) (by go_simp) ?_
                refine hK9 _ _ ?_
                clear hK9 K9
                simp only [List.getElem_toArray, List.getElem_cons_zero, List.getElem_cons_succ, Act.put, List.setIfInBounds_toArray, List.set]
                refine wpAny_ready (rs := [11]) (by kernel_rfl) (by simp) ?_
                refine AllReady.cons rfl (fun K9 hK9 => ?_) AllReady.nil
                · refine step_run (v := .slice (some ⟨w2.heap.size, 0, none⟩) 1 1) (w' := w2.alloc (.cells #[.string ⟨nd.name.toArray⟩, .slice qo nd.attrs.length qc, .string ⟨nd.text.toArray⟩, .slice ko nd.kids.length kc] 45)) (wanted_yes rfl rfl rfl rfl) (by go_simp) ?_
                  refine hK9 _ _ ?_
                  clear hK9 K9
                  simp only [List.getElem_toArray, List.getElem_cons_zero, List.getElem_cons_succ, Act.put, List.setIfInBounds_toArray, List.set]
                  refine wpAny_ready (rs := [12]) (by kernel_rfl) (by simp) ?_
                  refine AllReady.cons rfl (fun K9 hK9 => ?_) AllReady.nil
                  · refine step_keep (wanted_yes rfl rfl rfl rfl) _ _ 29 rfl B1 45 i0 _ 4 80 Tryz.underlying29 hi hz0 hz1 hz2 (by kernel_rfl) (by decide) (.slice ao pl.length ac) pl.length (pnsCells pl) rfl (hrow2.alloc _) ⟨w2.heap.size, 0, none⟩ 1 (pnCells (⟨nd, .slice qo nd.attrs.length qc, .slice ko nd.kids.length kc⟩ : Pn)) rfl rfl (lit_cells w2 _ 45) pn_one (by unfold maxLen; omega) (by omega) (Nat.le_trans hB2 (by simp)) ?_
                    intro v4 w4 ho4 hg4 hc4
                    obtain ⟨o4, c4, hv4⟩ := row_form ho4
                    subst hv4
                    have hk4 : Keeps (Value.slice ao pl.length ac).ownBlock.toList w2 w4 := ((Keeps.refl _ w2).alloc _).grown hg4 (fun i e => .inl (by simp [e]))
                    have k3b := cell_keepsS hk4 (a := ⟨wr.heap.size, 3, none⟩) (fun hm => by have := hrb _ (by simpa using hm); simp at this) k3
                    refine hK9 _ _ ?_
                    clear hK9 K9
                    simp only [List.getElem_toArray, List.getElem_cons_zero, List.getElem_cons_succ, Act.put, List.setIfInBounds_toArray, List.set]
                    refine wpAny_ready (rs := [14]) (by kernel_rfl) (by simp) ?_
                    refine AllReady.cons rfl (fun K9 hK9 => ?_) AllReady.nil
                    · refine step_callv_no (wanted_yes rfl rfl rfl rfl) (.func 171) _ _ rfl 171 #[] rfl enters171 #[.slice ko nd.kids.length kc, .slice o4 (pl.length + 1) c4, .func (.func 88) #[] #[]] (by simp [Act.eval]) (hdeep.out w4 _ _ ho4 hg4 hc4) ?_
                      rintro e w5 ⟨rfl, hrow5, hk5⟩
                      refine ⟨_, rfl, ?_⟩
                      simp only [Exit.inBlock, Exit.then]
                      exact ⟨rfl, .inr ⟨HR0.out, rfl⟩, hrow5, hk5⟩
            · refine step_run (v := .agg #[.string ⟨nd.name.toArray⟩, .slice qo nd.attrs.length qc, .string ⟨nd.text.toArray⟩, .slice ko nd.kids.length kc]) (w' := w2) (wanted_yes rfl rfl rfl rfl) (by go_simp) ?_
              refine hK9 _ _ ?_
              clear hK9 K9
              simp only [List.getElem_toArray, List.getElem_cons_zero, List.getElem_cons_succ, Act.put, List.setIfInBounds_toArray, List.set]
              refine wpAny_ready (rs := [8, 11]) (by kernel_rfl) (by simp) ?_
              refine AllReady.cons rfl (fun K9 hK9 => ?_) (AllReady.cons rfl (fun K9 hK9 => ?_) AllReady.nil)
              · refine step_run (v := .slice ko nd.kids.length kc) (w' := w2) (wanted_yes rfl rfl rfl rfl) (by go_simp) ?_
                refine hK9 _ _ ?_
                clear hK9 K9
                simp only [List.getElem_toArray, List.getElem_cons_zero, List.getElem_cons_succ, Act.put, List.setIfInBounds_toArray, List.set]
                refine wpAny_ready (rs := [11]) (by kernel_rfl) (by simp) ?_
                refine AllReady.cons rfl (fun K9 hK9 => ?_) AllReady.nil
                · refine step_run (v := .slice (some ⟨w2.heap.size, 0, none⟩) 1 1) (w' := w2.alloc (.cells #[.string ⟨nd.name.toArray⟩, .slice qo nd.attrs.length qc, .string ⟨nd.text.toArray⟩, .slice ko nd.kids.length kc] 45)) (wanted_yes rfl rfl rfl rfl) (by go_simp) ?_
                  refine hK9 _ _ ?_
                  clear hK9 K9
                  simp only [List.getElem_toArray, List.getElem_cons_zero, List.getElem_cons_succ, Act.put, List.setIfInBounds_toArray, List.set]
                  refine wpAny_ready (rs := [12]) (by kernel_rfl) (by simp) ?_
                  refine AllReady.cons rfl (fun K9 hK9 => ?_) AllReady.nil
                  · refine step_keep (wanted_yes rfl rfl rfl rfl) _ _ 29 rfl B1 45 i0 _ 4 80 Tryz.underlying29 hi hz0 hz1 hz2 (by kernel_rfl) (by decide) (.slice ao pl.length ac) pl.length (pnsCells pl) rfl (hrow2.alloc _) ⟨w2.heap.size, 0, none⟩ 1 (pnCells (⟨nd, .slice qo nd.attrs.length qc, .slice ko nd.kids.length kc⟩ : Pn)) rfl rfl (lit_cells w2 _ 45) pn_one (by unfold maxLen; omega) (by omega) (Nat.le_trans hB2 (by simp)) ?_
                    intro v4 w4 ho4 hg4 hc4
                    obtain ⟨o4, c4, hv4⟩ := row_form ho4
                    subst hv4
                    have hk4 : Keeps (Value.slice ao pl.length ac).ownBlock.toList w2 w4 := ((Keeps.refl _ w2).alloc _).grown hg4 (fun i e => .inl (by simp [e]))
                    have k3b := cell_keepsS hk4 (a := ⟨wr.heap.size, 3, none⟩) (fun hm => by have := hrb _ (by simpa using hm); simp at this) k3
                    refine hK9 _ _ ?_
                    clear hK9 K9
                    simp only [List.getElem_toArray, List.getElem_cons_zero, List.getElem_cons_succ, Act.put, List.setIfInBounds_toArray, List.set]
                    refine wpAny_ready (rs := [14]) (by kernel_rfl) (by simp) ?_
                    refine AllReady.cons rfl (fun K9 hK9 => ?_) AllReady.nil
                    · refine step_callv_no (wanted_yes rfl rfl rfl rfl) (.func 171) _ _ rfl 171 #[] rfl enters171 #[.slice ko nd.kids.length kc, .slice o4 (pl.length + 1) c4, .func (.func 88) #[] #[]] (by simp [Act.eval]) (hdeep.out w4 _ _ ho4 hg4 hc4) ?_
                      rintro e w5 ⟨rfl, hrow5, hk5⟩
                      refine ⟨_, rfl, ?_⟩
                      simp only [Exit.inBlock, Exit.then]
                      exact ⟨rfl, .inr ⟨HR0.out, rfl⟩, hrow5, hk5⟩
              · refine step_run (v := .slice (some ⟨w2.heap.size, 0, none⟩) 1 1) (w' := w2.alloc (.cells #[.string ⟨nd.name.toArray⟩, .slice qo nd.attrs.length qc, .string ⟨nd.text.toArray⟩, .slice ko nd.kids.length kc] 45)) (wanted_yes rfl rfl rfl rfl) (by go_simp) ?_
                refine hK9 _ _ ?_
                clear hK9 K9
                simp only [List.getElem_toArray, List.getElem_cons_zero, List.getElem_cons_succ, Act.put, List.setIfInBounds_toArray, List.set]
                refine wpAny_ready (rs := [8, 12]) (by kernel_rfl) (by simp) ?_
                refine AllReady.cons rfl (fun K9 hK9 => ?_) (AllReady.cons rfl (fun K9 hK9 => ?_) AllReady.nil)
                · refine step_run (v := .slice ko nd.kids.length kc) (w' := w2.alloc (.cells #[.string ⟨nd.name.toArray⟩, .slice qo nd.attrs.length qc, .string ⟨nd.text.toArray⟩, .slice ko nd.kids.length kc] 45)) (wanted_yes rfl rfl rfl rfl) (by go_simp) ?_
                  refine hK9 _ _ ?_
                  clear hK9 K9
                  simp only [List.getElem_toArray, List.getElem_cons_zero, List.getElem_cons_succ, Act.put, List.setIfInBounds_toArray, List.set]
                  refine wpAny_ready (rs := [12]) (by kernel_rfl) (by simp) ?_
                  refine AllReady.cons rfl (fun K9 hK9 => ?_) AllReady.nil
                  · refine step_keep (wanted_yes rfl rfl rfl rfl) _ _ 29 rfl B1 45 i0 _ 4 80 Tryz.underlying29 hi hz0 hz1 hz2 (by kernel_rfl) (by decide) (.slice ao pl.length ac) pl.length (pnsCells pl) rfl (hrow2.alloc _) ⟨w2.heap.size, 0, none⟩ 1 (pnCells (⟨nd, .slice qo nd.attrs.length qc, .slice ko nd.kids.length kc⟩ : Pn)) rfl rfl (lit_cells w2 _ 45) pn_one (by unfold maxLen; omega) (by omega) (Nat.le_trans hB2 (by simp)) ?_
                    intro v4 w4 ho4 hg4 hc4
                    obtain ⟨o4, c4, hv4⟩ := row_form ho4
                    subst hv4
                    have hk4 : Keeps (Value.slice ao pl.length ac).ownBlock.toList w2 w4 := ((Keeps.refl _ w2).alloc _).grown hg4 (fun i e => .inl (by simp [e]))
                    have k3b := cell_keepsS hk4 (a := ⟨wr.heap.size, 3, none⟩) (fun hm => by have := hrb _ (by simpa using hm); simp at this) k3
                    refine hK9 _ _ ?_
                    clear hK9 K9
                    simp only [List.getElem_toArray, List.getElem_cons_zero, List.getElem_cons_succ, Act.put, List.setIfInBounds_toArray, List.set]
                    refine wpAny_ready (rs := [14]) (by kernel_rfl) (by simp) ?_
                    refine AllReady.cons rfl (fun K9 hK9 => ?_) AllReady.nil
                    · refine step_callv_no (wanted_yes rfl rfl rfl rfl) (.func 171) _ _ rfl 171 #[] rfl enters171 #[.slice ko nd.kids.length kc, .slice o4 (pl.length + 1) c4, .func (.func 88) #[] #[]] (by simp [Act.eval]) (hdeep.out w4 _ _ ho4 hg4 hc4) ?_
                      rintro e w5 ⟨rfl, hrow5, hk5⟩
                      refine ⟨_, rfl, ?_⟩
                      simp only [Exit.inBlock, Exit.then]
                      exact ⟨rfl, .inr ⟨HR0.out, rfl⟩, hrow5, hk5⟩
                · refine step_keep (wanted_yes rfl rfl rfl rfl) _ _ 29 rfl B1 45 i0 _ 4 80 Tryz.underlying29 hi hz0 hz1 hz2 (by kernel_rfl) (by decide) (.slice ao pl.length ac) pl.length (pnsCells pl) rfl (hrow2.alloc _) ⟨w2.heap.size, 0, none⟩ 1 (pnCells (⟨nd, .slice qo nd.attrs.length qc, .slice ko nd.kids.length kc⟩ : Pn)) rfl rfl (lit_cells w2 _ 45) pn_one (by unfold maxLen; omega) (by omega) (Nat.le_trans hB2 (by simp)) ?_
                  intro v4 w4 ho4 hg4 hc4
                  obtain ⟨o4, c4, hv4⟩ := row_form ho4
                  subst hv4
                  have hk4 : Keeps (Value.slice ao pl.length ac).ownBlock.toList w2 w4 := ((Keeps.refl _ w2).alloc _).grown hg4 (fun i e => .inl (by simp [e]))
                  have k3b := cell_keepsS hk4 (a := ⟨wr.heap.size, 3, none⟩) (fun hm => by have := hrb _ (by simpa using hm); simp at this) k3
                  refine hK9 _ _ ?_
                  clear hK9 K9
                  simp only [List.getElem_toArray, List.getElem_cons_zero, List.getElem_cons_succ, Act.put, List.setIfInBounds_toArray, List.set]
                  refine wpAny_ready (rs := [8]) (by kernel_rfl) (by simp) ?_
                  refine AllReady.cons rfl (fun K9 hK9 => ?_) AllReady.nil
                  · refine step_run (v := .slice ko nd.kids.length kc) (w' := w4) (wanted_yes rfl rfl rfl rfl) (by go_simp) ?_
                    refine hK9 _ _ ?_
                    clear hK9 K9
                    simp only [List.getElem_toArray, List.getElem_cons_zero, List.getElem_cons_succ, Act.put, List.setIfInBounds_toArray, List.set]
                    refine wpAny_ready (rs := [14]) (by kernel_rfl) (by simp) ?_
                    refine AllReady.cons rfl (fun K9 hK9 => ?_) AllReady.nil
                    · refine step_callv_no (wanted_yes rfl rfl rfl rfl) (.func 171) _ _ rfl 171 #[] rfl enters171 #[.slice ko nd.kids.length kc, .slice o4 (pl.length + 1) c4, .func (.func 88) #[] #[]] (by simp [Act.eval]) (hdeep.out w4 _ _ ho4 hg4 hc4) ?_
                      rintro e w5 ⟨rfl, hrow5, hk5⟩
                      refine ⟨_, rfl, ?_⟩
                      simp only [Exit.inBlock, Exit.then]
                      exact ⟨rfl, .inr ⟨HR0.out, rfl⟩, hrow5, hk5⟩
        · have hvis := hide (fun (W' : World) (hkk : Keeps [] Wb W') => (hvis0 W' (hka.trans hkk)).mono (R' := fun e w' => e = .panicked (stopped D1) ∧ Keeps [] W' w') (fun e w' h => ⟨h.1.elim (fun h => absurd h.1 hd1) (fun h => h.2), h.2⟩))
          rw [if_neg hd1] at hW1
          subst hW1
          have HR0 := hide hd1
          clear hd1 hvis0 hpk
          go_upto_region 4 with fail
          refine wp_region_any (by kernel_rfl) ?_
          change wpAny _ _ _ _ _ _ _ (World.drew _)
          refine wpAny_take (i := 0) (v := .func (.func 88) #[] #[]) rfl (by kernel_rfl) (by kernel_rfl) (by kernel_rfl) (fun _ _ _ h => h) (Or.inl ⟨by rfl, by intro w; go_simp⟩) ?_
          simp only [List.getElem_toArray, List.getElem_cons_zero, Act.put, List.setIfInBounds_toArray, List.set]
          refine wpAny_take (i := 1) (v := .slice (some ⟨g, x, none⟩) l.length c) rfl (by kernel_rfl) (by kernel_rfl) (by kernel_rfl) (fun _ _ _ h => h) (Or.inl ⟨by rfl, by intro w; go_simp⟩) ?_
          simp only [List.getElem_toArray, List.getElem_cons_zero, List.getElem_cons_succ, Act.put, List.setIfInBounds_toArray, List.set]
          refine wpAny_take (i := 2) (v := .int .i64 k) rfl (by kernel_rfl) (by kernel_rfl) (by kernel_rfl) (fun _ _ _ h => h) (Or.inl ⟨by rfl, by intro w; go_simp⟩) ?_
          simp only [List.getElem_toArray, List.getElem_cons_zero, List.getElem_cons_succ, Act.put, List.setIfInBounds_toArray, List.set]
          refine wpAny_take (i := 3) (v := .slice ao pl.length ac) rfl (by kernel_rfl) (by kernel_rfl) (by kernel_rfl) (fun _ _ _ h => h) (Or.inl ⟨by rfl, by intro w; go_simp⟩) ?_
          simp only [List.getElem_toArray, List.getElem_cons_zero, List.getElem_cons_succ, Act.put, List.setIfInBounds_toArray, List.set]
          refine wpAny_ready (rs := [4]) (by kernel_rfl) (by simp) ?_
          refine AllReady.cons rfl (fun K9 hK9 => ?_) AllReady.nil
          refine step_callv_no (by simp [Region.wanted]) (.tmp 16) _ _ rfl 88 #[] rfl enters88 #[.slice (some ⟨g, x, none⟩) l.length c, .int .i64 k, .slice ao pl.length ac] (by first | (simp [Act.eval]; done) | (simp [Act.eval, Act.put]; done)) (hvis.out _ ((Keeps.refl [] _).drew)) ?_
          rintro e w2 ⟨rfl, hS2⟩
          refine ⟨_, rfl, ?_⟩
          simp only [Exit.inBlock, Exit.then]
          exact ⟨rfl, .inr ⟨HR0.out, rfl⟩, (hend.out _ (hka.trans ((Keeps.refl [] _).drew)) hS2).1, (hend.out _ (hka.trans ((Keeps.refl [] _).drew)) hS2).2⟩
      · have hRe : R = 0 := by
          have := hW.out
          rw [List.drop_eq_nil_of_le (by rw [← Hll.out]; omega), isE] at this
          exact this.symm
        subst hRe
        go_wp2_with fail
        go_ret
        exact ⟨rfl, hrow'.out, hkr.out⟩
set_option maxHeartbeats 1000000 in
theorem walkE_any (w : World) (P : Nat → Prop) (v : Value) (ns : List Nd) (h : Ns w P v ns) (hM : HasMax w) (hsz : sizeNs ns ≤ 2000000) (hV : ValNs ns) :
    Calls Tryz.prog 87 #[v, .func (.func 88) #[] #[]] w fun e w' => (isE ns = 0 ∧ e = .returned (.bool true) ∨ isE ns ≠ 0 ∧ e = .panicked (stopped (isE ns))) ∧ Keeps [] w w' := by
  have hc := hide (walkE_all (fun g => g < w.heap.size) w.heap.size hM.pos (fun _ h => h) w v ns h.lt w [] (Keeps.refl _ _) (fun _ _ => List.not_mem_nil) hM (.slice none 0 0) [] (World.ownsRow_nil _ _ _ _) (Nat.le_refl _) (by simpa using hsz) hV)
  obtain ⟨o, c, hv⟩ := h.form
  subst hv
  clear h hV
  generalize isE ns = E at *
  go_enter Tryz.func87, Tryz.ntmps87
  go_wp2_with fail
  refine hc.out.mono ?_
  rintro e w1 ⟨⟨hE, rfl⟩ | ⟨hE, rfl⟩, _, hk⟩
  · have hk' : Keeps [] w w1 := hk.mono (fun g hg _ => by simp [Value.ownBlock] at hg)
    go_wp2_with fail
    go_ret
    first | exact ⟨.inl ⟨hE, rfl⟩, hk'⟩ | exact ⟨.inl ⟨trivial, rfl⟩, hk'⟩
  · exact ⟨rfl, .inr ⟨hE, rfl⟩, hk.mono (fun g hg _ => by simp [Value.ownBlock] at hg)⟩
theorem enters86 : Enters 86 := enters_of Tryz.func86 (by kernel_rfl) (by kernel_rfl)
set_option maxHeartbeats 1000000 in
theorem is1_any (b : Nat) (w : World) (P : Nat → Prop) (v : Value) (ns : List Nd) (h : Ns w P v ns) (hb : w.heap[b]? = some (.cells #[v] 29 (0, 0))) (hM : HasMax w) (hsz : sizeNs ns ≤ 2000000) (hV : ValNs ns) :
    Calls Tryz.prog 86 #[.pointer (some ⟨b, 0, none⟩)] w fun e w' => (isE ns = 0 ∧ e = .returned (.tuple #[]) ∨ isE ns ≠ 0 ∧ e = .panicked (stopped (isE ns))) ∧ Keeps [] w w' := by
  have hc := hide (walkE_any w P v ns h hM hsz hV)
  obtain ⟨o, c, hv⟩ := h.form
  subst hv
  clear h hV
  have c0 : w.cell? ⟨b, 0, none⟩ = some (.slice o ns.length c) := cell_blk hb 0
  generalize isE ns = E at *
  go_enter Tryz.func86, Tryz.ntmps86
  go_wp2_with fail
  refine hc.out.mono ?_
  rintro e w1 ⟨⟨hE, rfl⟩ | ⟨hE, rfl⟩, hk⟩
  · go_wp2_with fail
    go_end0
    first | exact ⟨.inl ⟨hE, rfl⟩, hk⟩ | exact ⟨.inl ⟨trivial, rfl⟩, hk⟩
  · exact ⟨rfl, .inr ⟨hE, rfl⟩, hk⟩
set_option maxHeartbeats 2000000 in
theorem cleanIs_any (w : World) (P : Nat → Prop) (v : Value) (ns : List Nd) (h : Ns w P v ns) (hM : HasMax w) (hsz : sizeNs ns ≤ 2000000) (hF : FitsNs ns) (hV : ValNs ns) :
    Calls Tryz.prog 20 #[v] w fun e w' => e = .returned (.tuple #[.bool (decide (chkTree ns = 0) && decide (isE ns = 0)), .int .i64 (chkTree ns)]) ∧ Keeps [] w w' := by
  have hn := hide h
  obtain ⟨o, c, hv⟩ := h.form
  subst hv
  obtain ⟨W, hW⟩ : ∃ W, w.alloc (.cells #[.slice o ns.length c] 29) = W := ⟨_, rfl⟩
  have hkW : Keeps [] w W := by rw [← hW]; exact (Keeps.refl [] w).alloc _
  have hb : W.heap[w.heap.size]? = some (.cells #[.slice o ns.length c] 29 (0, 0)) := by rw [← hW]; exact heap_alloc_new w _
  have c0 : W.cell? ⟨w.heap.size, 0, none⟩ = some (.slice o ns.length c) := cell_blk hb 0
  have nn : ∀ g, g ∉ ([] : List Nat) := fun _ => List.not_mem_nil
  have hck := hide (treeCheck_any W P _ ns (h.keeps0 hkW) hsz hF)
  have HB := hide hb
  have hmf : ∀ (fn : Fn) (first cap : Array Value) (w : World), (Instr.makeFunc fn first cap).run Tryz.prog w = .ok (.func fn first cap) w := fun _ _ _ _ => rfl
  have hca := hide (fun (w1 : World) (hk1 : Keeps [] W w1) => caught_any 86 #[.pointer (some ⟨w.heap.size, 0, none⟩)] (fun _ => isE ns = 0) (fun x _ => isE ns ≠ 0 ∧ x ≠ 0) [] w1 enters86 (fun _ h => absurd h (nn _)) (fun _ _ _ h _ => h) (fun _ _ _ _ h _ => h)
    (fun w2 hk2 _ => (is1_any w.heap.size w2 P _ ns (((hn.out.keeps0 hkW).keeps0 hk1).keeps0 hk2) (((hk1.trans hk2).block _ (lt_of_block HB.out) (nn _)).trans HB.out) (hM.keeps ((hkW.trans hk1).trans hk2) (nn _)) hsz hV).mono (fun e w3 h => ⟨h.1.elim (fun h => .inl ⟨h.2, h.1⟩) (fun h => .inr ⟨_, h.2, h.1, h.1⟩), h.2⟩)))
  clear h hb hF hV
  generalize chkTree ns = C at *
  by_cases hC : C = 0
  · subst hC
    generalize isE ns = E at *
    go_enter Tryz.func20, Tryz.ntmps20
    go_wp2_with fail
    refine hck.out.mono ?_
    rintro e w1 ⟨rfl, hk1⟩
    clear c0
    go_wp2_with fail
    refine (hca.out w1 hk1).mono ?_
    rintro e w2 ⟨⟨rfl, hE⟩ | ⟨x, rfl, hE, hx⟩, hk2⟩
    · go_wp2_with fail
      go_ret2
      exact ⟨by simp [hE], (hkW.trans hk1).trans hk2⟩
    · have hxb : (x == 0) = false := by simpa using hx
      clear hx
      go_wp2_with fail
      go_ret2
      exact ⟨by simp [hE], (hkW.trans hk1).trans hk2⟩
  · have hCb : (C != 0) = true := by simpa using hC
    have hd : decide (C = 0) = false := by simpa using hC
    rw [hd]
    clear hca hC
    go_enter Tryz.func20, Tryz.ntmps20
    go_wp2_with fail
    refine hck.out.mono ?_
    rintro e w1 ⟨rfl, hk1⟩
    clear c0
    go_wp2_with fail
    go_ret2
    exact ⟨by simp, hkW.trans hk1⟩
def treeE (base : List UInt8) (ns : List Nd) : Int := if chkTree ns ≠ 0 then chkTree ns else if 3000 < base.length then 2 else 0
set_option maxHeartbeats 2000000 in
theorem cleanTree_any (base : List UInt8) (w : World) (P : Nat → Prop) (v : Value) (ns : List Nd) (h : Ns w P v ns) (hM : HasMax w) (hsz : sizeNs ns ≤ 2000000) (hF : FitsNs ns) (hV : ValNs ns) (hz : szNs ns ≤ 3000000) (hb : base.length ≤ maxLen) :
    Calls Tryz.prog 24 #[.string ⟨base.toArray⟩, v] w fun e w' => ∃ o n c, e = .returned (.tuple #[.slice o n c, .int .i64 (treeE base ns)]) ∧ Ns w' (fun g => w.heap.size ≤ g) (.slice o n c) (if treeE base ns = 0 then cleanL base ns else []) ∧ Keeps [] w w' := by
  have hck := hide (treeCheck_any w P v ns h hsz hF)
  obtain ⟨o, c, hv⟩ := h.form
  subst hv
  unfold maxLen at hb
  unfold treeE
  by_cases hC : chkTree ns = 0
  · rw [if_neg (by simpa using hC)]
    rw [hC] at hck
    by_cases h3 : 3000 < base.length
    · rw [if_pos h3]
      have hd : decide ((3000 : Int) < ((⟨base.toArray⟩ : ByteArray).size : Int)) = true := by rw [str_size]; simp; omega
      rw [str_size] at hd
      clear h hF hV hC h3
      go_enter Tryz.func24, Tryz.ntmps24
      go_wp2_with fail
      refine hck.out.mono ?_
      rintro e w1 ⟨rfl, hk1⟩
      go_wp2_with fail
      go_ret2
      exact ⟨none, 0, 0, rfl, Ns.nil _ _ none 0 (by simp [maxLen]), hk1⟩
    · rw [if_neg h3, if_pos rfl]
      have hd : decide ((3000 : Int) < ((⟨base.toArray⟩ : ByteArray).size : Int)) = false := by rw [str_size]; simp; omega
      rw [str_size] at hd
      have hcl := hide (fun (w1 : World) (hk1 : Keeps [] w w1) => cleaned_of base o ns.length c ns w1 w.heap.size hk1.size hz (fun w2 hk2 => cleanPut_all base (by omega) w.heap.size hM.pos w _ ns h.lt hV w2 (hk1.trans hk2).nil_below (hk1.trans hk2).size (hM.keeps (hk1.trans hk2) List.not_mem_nil)))
      clear h hF hV hC h3
      go_enter Tryz.func24, Tryz.ntmps24
      go_wp2_with fail
      refine hck.out.mono ?_
      rintro e w1 ⟨rfl, hk1⟩
      go_wp2_with fail
      refine (hcl.out w1 hk1).mono ?_
      rintro e w2 ⟨o2, n2, c2, rfl, hN, hk2⟩
      go_wp2_with fail
      go_ret2
      exact ⟨_, _, _, rfl, hN.mono (fun g _ hg => Nat.le_trans hk1.size hg), hk1.trans hk2⟩
  · rw [if_pos hC, if_neg hC]
    generalize chkTree ns = C at *
    have hCb : (C != 0) = true := by simpa using hC
    clear h hF hV hC
    go_enter Tryz.func24, Tryz.ntmps24
    go_wp2_with fail
    refine hck.out.mono ?_
    rintro e w1 ⟨rfl, hk1⟩
    go_wp2_with fail
    go_ret2
    exact ⟨none, 0, 0, rfl, Ns.nil _ _ none 0 (by simp [maxLen]), hk1⟩
theorem putL_app (a b : List UInt8) : putL (a ++ b) = putL a ++ putL b := by simp [putL]
theorem putL_take (t : List UInt8) (k m : Nat) : putL (t.take (k + m)) = putL (t.take k) ++ putL ((t.drop k).take m) := by
  rw [List.take_add, putL_app]
set_option maxRecDepth 4000 in
set_option maxHeartbeats 2000000 in
theorem printText_all (B b : Nat) (l t : List UInt8) (w : World) (h : IsBld B b l w) (hBw : B ≤ w.heap.size) (ht : t.length ≤ 38000000) (hl : l.length ≤ 700000000) :
    Calls Tryz.prog 142 #[.pointer (some ⟨b, 0, none⟩), .string ⟨t.toArray⟩] w fun e w' => e = .returned (.tuple #[]) ∧ IsBld B b (l ++ putL t) w' ∧ KeepsB B b w w' := by
  go_enter Tryz.func142, Tryz.ntmps142
  go_wp2_with fail
  go_loopg [1] (t.length + 1) (fun g v wr => ∃ (k : Nat) (X : ByteArray), k ≤ t.length ∧ t.length + 1 ≤ g + k ∧ v = .string X ∧ Hid (X.data.toList = t.drop k) ∧ X.size + k = t.length ∧ IsBld B b (l ++ putL (t.take k)) wr ∧ KeepsB B b w wr)
  case atStart => exact ⟨0, ⟨t.toArray⟩, Nat.zero_le _, by omega, rfl, rfl, rfl, by simpa [putL] using h, KeepsB.refl _ _ _⟩
  case round =>
    obtain ⟨k, X, hk, hg, rfl, hX, hXs, hbk, hkw⟩ := hrel
    by_cases hz : X.size = 0
    · have hkt : k = t.length := by omega
      have htk : t.take k = t := List.take_of_length_le (by omega)
      rw [htk] at hbk
      clear hkt htk
      have hgt : decide ((0 : Int) < (X.size : Int)) = false := by rw [hz]; rfl
      go_wp2_with fail
      go_end0
      exact ⟨rfl, hbk, hkw⟩
    · obtain ⟨f, rfl⟩ : ∃ f, gk = f + 1 := ⟨gk - 1, by omega⟩
      obtain ⟨m, hm⟩ : ∃ m, m = min X.size 3000 := ⟨_, rfl⟩
      have hm1 : 1 ≤ m := by omega
      have hm2 : m ≤ X.size := by omega
      have hm3 : m ≤ 3000 := by omega
      have hmin : min (X.size : Int) 3000 = (m : Int) := by omega
      have hgt : decide ((0 : Int) < (X.size : Int)) = true := by simp; omega
      have hpos : 0 < X.size := by omega
      clear hm
      have hPd : (X.extract 0 m).data.toList = (t.drop k).take m := by
        rw [Lib.extract_data, hX.out]
        simp
      have hPl : ((t.drop k).take m).length = m := by
        have := len_size X
        rw [hX.out] at this
        rw [List.length_take, this]
        omega
      have hRd : (X.extract m X.size).data.toList = t.drop (k + m) := by
        rw [Lib.extract_to_end, hX.out, List.drop_drop]
      have hRs : (X.extract m X.size).size + (k + m) = t.length := by simp; omega
      have hPs : (X.extract 0 m).size = m := by simp; omega
      have hput := hide (fun w => put_any (X.extract 0 m) w (by unfold maxLen; omega))
      have hans : putAns (X.extract 0 m).data.toList = (putL ((t.drop k).take m), 0) := by
        unfold putAns
        rw [hPd, if_neg (by omega)]
      rw [hans] at hput
      have hpl1 := putL_le (t.take k)
      have hpl2 := putL_le ((t.drop k).take m)
      have htl : (t.take k).length ≤ 38000000 := by rw [List.length_take]; omega
      have hwr := hide (fun (w : World) h hB => write_all B b (l ++ putL (t.take k)) (putL ((t.drop k).take m)) w h (by rw [List.length_append]; omega) hB)
      have HT := hide (putL_take t k m)
      have HRd := hide hRd
      have hBr := Nat.le_trans hBw hkw.size
      clear hPd hRd hPl hans hpl1 hpl2 htl
      generalize putL ((t.drop k).take m) = T at *
      generalize putL (t.take k) = Y at *
      go_wp2_with fail
      refine (hput.out _).mono ?_
      rintro e w2 ⟨rfl, hk2⟩
      unfold two
      go_wp2_with fail
      refine (hwr.out _ (hbk.keeps hk2) (Nat.le_trans hBr hk2.size)).mono ?_
      rintro e w3 ⟨rfl, hb3, hk3⟩
      have hb3' : IsBld B b (l ++ putL (t.take (k + m))) w3 := by rw [HT.out, ← List.append_assoc]; exact hb3
      have hkw3 : KeepsB B b w w3 := (hkw.trans (KeepsB.of hk2)).trans hk3
      go_wp2_with fail
      go_roundg f
      case measure => omega
      case rel => exact ⟨k + m, X.extract m X.size, by omega, by omega, rfl, HRd, hRs, hb3', hkw3⟩
theorem bulkP_mem {l : List Pair} {p : Pair} (h : p ∈ l) : p.1.length + p.2.length + 2 ≤ bulkP l := by
  induction l with
  | nil => simp at h
  | cons a l ih =>
    have e : bulkP (a :: l) = (a.1.length + a.2.length + 2) + bulkP l := by simp [bulkP]
    rcases List.mem_cons.1 h with rfl | h
    · omega
    · have := ih h; omega
theorem bulkP_len1 (l : List Pair) : l.length ≤ bulkP l := by
  induction l with
  | nil => simp
  | cons a l ih =>
    have e : bulkP (a :: l) = (a.1.length + a.2.length + 2) + bulkP l := by simp [bulkP]
    simp only [List.length_cons]; omega
theorem pairP_le8 (p : Pair) : (pairP p).length ≤ 8 * (p.1.length + p.2.length + 2) := by
  have := putL_le p.2
  simp [pairP]
  omega
theorem pairsP_le8 (l : List Pair) (k : Nat) : (pairsP (l.take k)).length ≤ 8 * bulkP l := by
  induction l generalizing k with
  | nil => simp [pairsP]
  | cons a l ih =>
    cases k with
    | zero => simp [pairsP]
    | succ k =>
      have e : bulkP (a :: l) = (a.1.length + a.2.length + 2) + bulkP l := by simp [bulkP]
      have e2 : pairsP ((a :: l).take (k + 1)) = pairP a ++ pairsP (l.take k) := by simp [pairsP]
      have h1 := pairP_le8 a
      have h2 := ih k
      rw [e2, List.length_append]
      omega
theorem tokP_le8 (t : Tok) : (tokP t).length ≤ 8 * bulkT t := by
  have h1 := pairsP_le8 t.attrs t.attrs.length
  rw [List.take_length] at h1
  have h2 := putL_le t.text
  unfold tokP bulkT
  split
  · omega
  · split
    · simp [openP]; omega
    · simp; omega
theorem toksP_le8 (l : List (Tok × Value)) (k : Nat) : (toksP ((l.take k).map (·.1))).length ≤ 8 * bulkL (l.map (·.1)) := by
  induction l generalizing k with
  | nil => simp [toksP]
  | cons a l ih =>
    cases k with
    | zero => simp [toksP]
    | succ k =>
      have e : bulkL ((a :: l).map (·.1)) = bulkT a.1 + bulkL (l.map (·.1)) := by simp [bulkL]
      have e2 : toksP (((a :: l).take (k + 1)).map (·.1)) = tokP a.1 ++ toksP ((l.take k).map (·.1)) := by simp [toksP]
      have h1 := tokP_le8 a.1
      have h2 := ih k
      rw [e2, List.length_append]
      omega
set_option maxRecDepth 4000 in
set_option maxHeartbeats 4000000 in
theorem printOpen_all (w0 : World) (B b : Nat) (l : List UInt8) (kd : Int) (nm tx : List UInt8) (la : List Pair) (v : Value) (hv : Lies w0 v la.length 2 (pairCells la)) (w : World) (hw0 : Keeps [] w0 w) (hB0 : w0.heap.size ≤ B) (h : IsBld B b l w) (hBw : B ≤ w.heap.size)
    (hnm : nm.length ≤ 38000000) (hf : bulkP la ≤ 38000000) (hl : l.length ≤ 304000000) :
    Calls Tryz.prog 143 #[.pointer (some ⟨b, 0, none⟩), .agg #[.int .i64 kd, .string ⟨nm.toArray⟩, v, .string ⟨tx.toArray⟩]] w fun e w' => e = .returned (.tuple #[]) ∧ IsBld B b (l ++ openP ⟨kd, nm, la, tx⟩) w' ∧ KeepsB B b w w' := by
  have hla := bulkP_len1 la
  obtain ⟨o, c, rfl, h1, h2⟩ := hv.form
  unfold maxLen at h2
  have ha : Keeps [] w (w.alloc (.cells #[.int .i64 kd, .string ⟨nm.toArray⟩, .slice o la.length c, .string ⟨tx.toArray⟩] 117)) := (Keeps.refl [] w).alloc _
  have hbx : IsTok (w.alloc (.cells #[.int .i64 kd, .string ⟨nm.toArray⟩, .slice o la.length c, .string ⟨tx.toArray⟩] 117)) w.heap.size (⟨kd, nm, la, tx⟩, .slice o la.length c) := heap_alloc_new w _
  have hBb : B ≤ b := by rcases h with h | h <;> exact h.1
  have hbw : b < w.heap.size := by rcases h with ⟨_, v, hb, _⟩ | ⟨_, v, hb, _⟩ <;> exact lt_of_block hb
  have hsum : ¬ 9223372036854775807 < 1 + nm.length := by omega
  have hstr : (⟨#[60]⟩ : ByteArray) ++ ⟨nm.toArray⟩ = ⟨([60] ++ nm).toArray⟩ := app2 [60] nm
  have hw1 := hide (write_all B b l ([60] ++ nm) _ (h.keeps ha) (by simp; omega) (Nat.le_trans hBw ha.size))
  obtain ⟨Z, hZ⟩ : ∃ Z, l ++ ([60] ++ nm) = Z := ⟨_, rfl⟩
  have hZl : Z.length ≤ 342100000 := by rw [← hZ]; simp; omega
  have hfin : l ++ openP ⟨kd, nm, la, tx⟩ = Z ++ pairsP la ++ [62] := by rw [← hZ]; simp [openP]
  rw [hfin]
  rw [hZ] at hw1
  clear hZ hfin
  have hwe := hide (fun (w : World) hb hB => write_all B b (Z ++ pairsP la) [62] w hb (by
    have := pairsP_le8 la la.length
    rw [List.take_length] at this
    simp; omega) hB)
  go_enter Tryz.func143, Tryz.ntmps143
  go_wp2_with fail
  refine hw1.out.mono ?_
  rintro e w2 ⟨rfl, hb2, hk2⟩
  have hbx2 := hk2.tok hbx (by omega)
  have hkw2 : KeepsB B b w w2 := (KeepsB.of ha).trans hk2
  have x2 : w2.cell? ⟨w.heap.size, 2, none⟩ = some (.slice o la.length c) := by rw [hbx2.cell 2]; rfl
  clear hw1 hstr hsum
  go_wp2_with fail
  go_loopw [14] (fun i wr => ∃ k : Nat, k ≤ la.length ∧ i = .int .i64 k ∧ IsBld B b (Z ++ pairsP (la.take k)) wr ∧ KeepsB B b w wr) (fun i _ => la.length - (intOf i).toNat)
  case atStart => exact ⟨0, Nat.zero_le _, rfl, by simpa [pairsP] using hb2, hkw2⟩
  case round =>
    obtain ⟨k, hk, rfl, hbk, hkw⟩ := hrel
    clear hb2 hk2 hbx2 x2
    have hBr := Nat.le_trans hBw hkw.size
    by_cases hlt : k < la.length
    · obtain ⟨g, x, rfl, hc⟩ := (hv.keeps (KeepsB.nil hw0 hkw hB0 hBb)).addr (by omega)
      have a0 := hc _ _ (pair_at0 la k hlt)
      have a1 := hc _ _ (pair_at1 la k hlt)
      rw [← Nat.add_assoc] at a1
      have hfk := bulkP_mem (List.getElem_mem hlt)
      have hpl := pairsP_le8 la k
      have hts := pairsP_take la k hlt
      generalize pairsP (la.take k) = Y at *
      have HTS := hide hts
      clear hts hc
      generalize la[k] = p at *
      obtain ⟨n, v⟩ := p
      simp only at a0 a1 hfk
      have hkA : Keeps [] wr (wr.alloc (.cells #[.string ⟨n.toArray⟩, .string ⟨v.toArray⟩] 52)) := (Keeps.refl [] wr).alloc _
      have hA : IsPair (wr.alloc (.cells #[.string ⟨n.toArray⟩, .string ⟨v.toArray⟩] 52)) wr.heap.size ⟨n.toArray⟩ ⟨v.toArray⟩ := heap_alloc_new wr _
      have hbr : b < wr.heap.size := Nat.lt_of_lt_of_le hbw hkw.size
      have hsum1 : ¬ 9223372036854775807 < 1 + n.length := by omega
      have hsum2 : ¬ 9223372036854775807 < 1 + n.length + 2 := by omega
      have hstr1 : (⟨#[32]⟩ : ByteArray) ++ ⟨n.toArray⟩ = ⟨([32] ++ n).toArray⟩ := app2 [32] n
      have hstr2 : (⟨(32 :: n).toArray⟩ : ByteArray) ++ ⟨#[61, 34]⟩ = ⟨([32] ++ n ++ [61, 34]).toArray⟩ := app2 (32 :: n) [61, 34]
      have hsz1 : (⟨(32 :: n).toArray⟩ : ByteArray).size = 1 + n.length := by rw [str_size]; simp; omega
      have hw3 := hide (write_all B b (Z ++ Y) ([32] ++ n ++ [61, 34]) _ (hbk.keeps hkA) (by simp; omega) (Nat.le_trans hBr hkA.size))
      have hw4 := hide (fun (w : World) hb hB => printText_all B b (Z ++ Y ++ ([32] ++ n ++ [61, 34])) v w hb hB (by omega) (by simp; omega))
      have hpv := putL_le v
      have hw5 := hide (fun (w : World) hb hB => write_all B b (Z ++ Y ++ ([32] ++ n ++ [61, 34]) ++ putL v) [34] w hb (by simp; omega) hB)
      have hY : Z ++ (Y ++ pairP (n, v)) = Z ++ Y ++ ([32] ++ n ++ [61, 34]) ++ putL v ++ [34] := by simp [pairP]
      have HY := hide hY
      clear hY
      go_wp2_with fail
      refine hw3.out.mono ?_
      rintro e w3 ⟨rfl, hb3, hk3⟩
      have hA3 := hk3.pair hA (by omega)
      have y1 := hA3.cell1
      have hB3 := Nat.le_trans (Nat.le_trans hBr hkA.size) hk3.size
      clear hstr1 hstr2 hsz1 a0 a1
      go_wp2_with fail
      refine (hw4.out _ hb3 hB3).mono ?_
      rintro e w4 ⟨rfl, hb4, hk4⟩
      go_wp2_with fail
      refine (hw5.out _ hb4 (Nat.le_trans hB3 hk4.size)).mono ?_
      rintro e w5 ⟨rfl, hb5, hk5⟩
      have hb5' : IsBld B b (Z ++ pairsP (la.take (k + 1))) w5 := by rw [HTS.out, HY.out]; exact hb5
      have hkw5 : KeepsB B b w w5 := (((hkw.trans (KeepsB.of hkA)).trans hk3).trans hk4).trans hk5
      go_wp2_with fail
      go_roundw
      case rel => exact ⟨k + 1, by omega, by go_num, hb5', hkw5⟩
      case measure => simp [intOf]; omega
    · have hall : la.take k = la := List.take_of_length_le (by omega)
      rw [hall] at hbk
      go_wp2_with fail
      refine (hwe.out _ hbk hBr).mono ?_
      rintro e w3 ⟨rfl, hb3, hk3⟩
      go_wp2_with fail
      go_end0
      exact ⟨rfl, hb3, hkw.trans hk3⟩
set_option maxRecDepth 4000 in
set_option maxHeartbeats 4000000 in
theorem print_all (w : World) (v : Value) (ts : List Tok) (hv : Toks w v ts) (hn : bulkL ts ≤ 38000000) (hc : chkL ts = 0) :
    Calls Tryz.prog 69 #[v] w fun e w' => e = .returned (.tuple #[.string ⟨(toksP ts).toArray⟩, .int .i64 0]) ∧ Keeps [] w w' := by
  have hchk := hide (check_any w v ts hv (fun t ht => by
    have h1 := bulkL_mem ht
    unfold bulkT at h1
    exact ⟨by unfold maxLen; omega, fun p hp => by have h2 := bulkP_mem hp; unfold maxLen; omega⟩))
  rw [hc] at hchk
  clear hc
  obtain ⟨l, rfl, hv, hva⟩ := hv
  have hfl : ∀ p ∈ l, bulkT p.1 ≤ bulkL (l.map (·.1)) := fun p hp => bulkL_mem (List.mem_map_of_mem hp)
  obtain ⟨o, c, rfl, h1, h2⟩ := hv.form
  unfold maxLen at h2
  go_enter Tryz.func69, Tryz.ntmps69
  go_wp2_with fail
  refine hchk.out.mono ?_
  rintro e w1 ⟨rfl, hk1⟩
  go_wp2_with fail
  have hb1 := bld_new w1
  have hkb1 : KeepsB w1.heap.size w1.heap.size w1 (w1.alloc (.cells #[.pointer none, .slice none 0 0] 134)) := KeepsB.of ((Keeps.refl [] w1).alloc _)
  have hsz1 : w1.heap.size + 1 ≤ (w1.alloc (.cells #[.pointer none, .slice none 0 0] 134)).heap.size := by simp
  clear hchk
  go_loopw [15] (fun i wr => ∃ k : Nat, k ≤ l.length ∧ i = .int .i64 k ∧ IsBld w1.heap.size w1.heap.size (toksP ((l.take k).map (·.1))) wr ∧ KeepsB w1.heap.size w1.heap.size w1 wr ∧ w1.heap.size + 1 ≤ wr.heap.size) (fun i _ => l.length - (intOf i).toNat)
  case atStart => exact ⟨0, Nat.zero_le _, rfl, by simpa [toksP] using hb1, hkb1, hsz1⟩
  case round =>
    obtain ⟨k, hk, rfl, hbk, hkw, hsz⟩ := hrel
    clear hb1 hkb1 hsz1
    have hK : Keeps [] w wr := KeepsB.nil hk1 hkw hk1.size (Nat.le_refl _)
    by_cases hlt : k < l.length
    · obtain ⟨g, x, rfl, hcc⟩ := (hv.keeps hK).addr (by omega)
      obtain ⟨a0, a1, a2, a3⟩ := lies_tok hcc k hlt
      have hfk := hfl l[k] (List.getElem_mem hlt)
      have hpa := hva l[k] (List.getElem_mem hlt)
      have hpl := toksP_le8 l k
      have HTS := hide (toksP_take l k hlt)
      generalize toksP ((l.take k).map (·.1)) = Y at *
      clear hcc
      generalize l[k] = p at *
      obtain ⟨⟨kp, np, ap, xp⟩, vp⟩ := p
      simp only at a0 a1 a2 a3 hpa hfk
      obtain ⟨op, cp, rfl, hp1, hp2⟩ := hpa.form
      unfold maxLen at hp2
      have hfn : np.length + xp.length + bulkP ap + 4 ≤ bulkL (l.map (·.1)) := hfk
      have hkA : Keeps [] wr (wr.alloc (.cells #[.int .i64 kp, .string ⟨np.toArray⟩, .slice op ap.length cp, .string ⟨xp.toArray⟩] 117)) := (Keeps.refl [] wr).alloc _
      have hA : IsTok (wr.alloc (.cells #[.int .i64 kp, .string ⟨np.toArray⟩, .slice op ap.length cp, .string ⟨xp.toArray⟩] 117)) wr.heap.size (⟨kp, np, ap, xp⟩, .slice op ap.length cp) := heap_alloc_new wr _
      have hBA : w1.heap.size ≤ (wr.alloc (.cells #[.int .i64 kp, .string ⟨np.toArray⟩, .slice op ap.length cp, .string ⟨xp.toArray⟩] 117)).heap.size := by simp; omega
      have hbA := hbk.keeps hkA
      have hkwA := hkw.trans (KeepsB.of hkA)
      by_cases hk1' : kp = 1
      · subst hk1'
        have hpt := hide (printText_all w1.heap.size w1.heap.size Y xp _ hbA hBA (by omega) (by omega))
        have HY := hide (show tokP ⟨1, np, ap, xp⟩ = putL xp from rfl)
        go_wp2_with fail
        refine hpt.out.mono ?_
        rintro e w5 ⟨rfl, hb5, hk5⟩
        have hb5' : IsBld w1.heap.size w1.heap.size (toksP ((l.take (k + 1)).map (·.1))) w5 := by rw [HTS.out, HY.out]; exact hb5
        have hs5 := Nat.le_trans hsz (Nat.le_trans hkA.size hk5.size)
        go_wp2_with fail
        go_roundw
        case rel => exact ⟨k + 1, by omega, by go_num, hb5', hkwA.trans hk5, hs5⟩
        case measure => simp [intOf]; omega
      · have e1 : (kp == 1) = false := by simpa using hk1'
        by_cases hk2' : kp = 2
        · subst hk2'
          have hpt := hide (printOpen_all w w1.heap.size w1.heap.size Y 2 np xp ap _ hpa _ (hK.trans hkA) hk1.size hbA hBA (by omega) (by omega) (by omega))
          have HY := hide (show tokP ⟨2, np, ap, xp⟩ = openP ⟨2, np, ap, xp⟩ from rfl)
          go_wp2_with fail
          refine hpt.out.mono ?_
          rintro e w5 ⟨rfl, hb5, hk5⟩
          have hb5' : IsBld w1.heap.size w1.heap.size (toksP ((l.take (k + 1)).map (·.1))) w5 := by rw [HTS.out, HY.out]; exact hb5
          have hs5 := Nat.le_trans hsz (Nat.le_trans hkA.size hk5.size)
          go_wp2_with fail
          go_roundw
          case rel => exact ⟨k + 1, by omega, by go_num, hb5', hkwA.trans hk5, hs5⟩
          case measure => simp [intOf]; omega
        · have e2 : (kp == 2) = false := by simpa using hk2'
          have HY := hide (show tokP ⟨kp, np, ap, xp⟩ = [60, 47] ++ np ++ [62] from by simp [tokP, hk1', hk2'])
          have hw5 := hide (write_all w1.heap.size w1.heap.size Y ([60, 47] ++ np ++ [62]) _ hbA (by simp; omega) hBA)
          have hsum1 : ¬ 9223372036854775807 < 2 + np.length := by omega
          have hsum2 : ¬ 9223372036854775807 < 2 + np.length + 1 := by omega
          have hstr1 : (⟨#[60, 47]⟩ : ByteArray) ++ ⟨np.toArray⟩ = ⟨([60, 47] ++ np).toArray⟩ := app2 [60, 47] np
          have hstr2 : (⟨(60 :: 47 :: np).toArray⟩ : ByteArray) ++ ⟨#[62]⟩ = ⟨([60, 47] ++ np ++ [62]).toArray⟩ := app2 (60 :: 47 :: np) [62]
          have hss : (⟨(60 :: 47 :: np).toArray⟩ : ByteArray).size = 2 + np.length := by rw [str_size]; simp; omega
          clear hk1' hk2'
          go_wp2_with fail
          refine hw5.out.mono ?_
          rintro e w5 ⟨rfl, hb5, hk5⟩
          have hb5' : IsBld w1.heap.size w1.heap.size (toksP ((l.take (k + 1)).map (·.1))) w5 := by rw [HTS.out, HY.out]; exact hb5
          have hs5 := Nat.le_trans hsz (Nat.le_trans hkA.size hk5.size)
          clear hstr1 hstr2 hss
          go_wp2_with fail
          go_roundw
          case rel => exact ⟨k + 1, by omega, by go_num, hb5', hkwA.trans hk5, hs5⟩
          case measure => simp [intOf]; omega
    · have hall : l.take k = l := List.take_of_length_le (by omega)
      rw [hall] at hbk
      go_wp2_with fail
      refine (Tryz.Builder_String_any w1.heap.size w1.heap.size _ _ hbk (by omega)).mono ?_
      rintro e w3 ⟨rfl, hb3⟩
      have hfin : Keeps [] w w3 := ⟨hb3.os.trans hK.os, hb3.tape.trans hK.tape, hb3.output.trans hK.output, Nat.le_trans hK.size hb3.size, fun i hi _ => (hb3.block i (Nat.lt_of_lt_of_le hi hk1.size)).trans (hK.block i hi List.not_mem_nil)⟩
      go_wp2_with fail
      go_ret2
      exact ⟨rfl, hfin⟩
end Go.Proofs.YtlcljanibjdejaaGreat
