/- Nodes are put, each as it must be: put. -/
import Derived.Test.YtlcljanibjdejaaGreatPk25
namespace Go.Proofs.YtlcljanibjdejaaGreat
open Go.RowKit Go.Maps

/-- What put does of nodes that came in, in every world in which they are as they were. -/
def PutsFrom (base : List UInt8) (B0 : Nat) (w0 : World) (v : Value) (ns : List Nd) : Prop := ∀ w, Below B0 w0 w → B0 ≤ w.heap.size → HasMax w → PutsAt base B0 v ns w

theorem stp_below {w w' : World} {T T' : List Nat} {B0 B : Nat} (h : Stp w T w' T') (hT : ∀ g, g ∈ T → B ≤ g) (hB : B0 ≤ B) (hw : B0 ≤ w.heap.size) : Below B0 w w' := h.below (fun g hg => Nat.le_trans hB (hT g hg)) hw

set_option maxRecDepth 8000 in
set_option maxHeartbeats 8000000 in
theorem cleanPut_all (base : List UInt8) (hb : base.length ≤ 3000) (B0 : Nat) (h0 : 0 < B0) (w0 : World) (v : Value) (ns : List Nd) (h : Ns w0 (fun g => g < B0) v ns) : ValNs ns → PutsFrom base B0 w0 v ns := by
  induction h with
  | mk v l ns hns hl ha hk ih =>
    intro hV w hbw hBw hM B r s T hB h hw
    show Calls Tryz.prog 179 #[.agg #[.string ⟨base.toArray⟩], .pointer (some ⟨r, 0, none⟩), v] w fun e w' => e = .returned (.tuple #[]) ∧ ∃ T', LsT w' B r (cleanIn base s ns) T' ∧ Stp w T w' T'
    obtain ⟨R, hR⟩ : ∃ R, cleanIn base s ns = R := ⟨_, rfl⟩
    rw [hR]
    subst hns
    obtain ⟨o, c, hvv, h1, h2⟩ := hl.lies.form
    subst hvv
    unfold maxLen at h2
    have hvl : ∀ p ∈ l, p.nd.attrs.length ≤ 1000000 ∧ (∀ q ∈ p.nd.attrs, q.2.length ≤ maxLen) ∧ ValNs p.nd.kids := fun p hp => ValNs.at hV (List.mem_map_of_mem hp)
    have hka : ∀ p ∈ l, ∃ o n c, p.av = .slice o n c := fun p hp => by obtain ⟨o, c, h⟩ := (ha p hp).form; exact ⟨o, _, c, h⟩
    have hkk : ∀ p ∈ l, ∃ o n c, p.kv = .slice o n c := fun p hp => by obtain ⟨o, c, h⟩ := (hk p hp).form; exact ⟨o, _, c, h⟩
    have hih : ∀ p ∈ l, PutsFrom base B0 w0 p.kv p.nd.kids := fun p hp => ih p hp (hvl p hp).2.2
    obtain ⟨W, hW⟩ : ∃ W, (w.alloc (.cells #[.string ⟨base.toArray⟩] 126)).alloc (.cells #[.pointer (some ⟨r, 0, none⟩)] 201) = W := ⟨_, rfl⟩
    have hkW : Keeps [] w W := by rw [← hW]; exact ((Keeps.refl [] w).alloc _).alloc _
    have s1 : (w.alloc (.cells #[.string ⟨base.toArray⟩] 126)).heap.size = w.heap.size + 1 := by simp
    have s2 : W.heap.size = w.heap.size + 1 + 1 := by rw [← hW]; simp
    have hb0 : W.heap[w.heap.size]? = some (.cells #[.string ⟨base.toArray⟩] 126 (0, 0)) := by
      rw [← hW, Below.heap_alloc _ _ _ (by rw [s1]; omega)]
      exact heap_alloc_new w _
    have hb1 : W.heap[w.heap.size + 1]? = some (.cells #[.pointer (some ⟨r, 0, none⟩)] 201 (0, 0)) := by
      rw [← hW, ← s1]
      exact heap_alloc_new _ _
    have hT := h.ge
    have HT := hide hT
    have HLW := hide (h.keepsNil hkW)
    have HBW := hide (show Below B0 w0 W from hbw.trans (hkW.nil_below.mono hBw))
    have HMW := hide (hM.keeps hkW List.not_mem_nil)
    have HB0 := hide hb0
    have HB1 := hide hb1
    have HL := hide hl
    have HA := hide ha
    have HVL := hide hvl
    have HKA := hide hka
    have HKK := hide hkk
    have HIH := hide hih
    have HR := hide hR
    have HWG := hide hw
    have HS2 := hide s2
    have HB := hide hB
    have HBWs := hide hBw
    have HKW := hide hkW
    clear hV hT h hbw hM hb0 hb1 hl ha hvl hka hkk hih ih hk hR hw s1 s2 hB hBw hkW
    have hmf : ∀ (fn : Fn) (first cap : Array Value) (w : World), (Instr.makeFunc fn first cap).run Tryz.prog w = .ok (.func fn first cap) w := fun _ _ _ _ => rfl
    have HW := hide hW
    clear hW
    go_enter Tryz.func179, Tryz.ntmps179
    go_upto_region 1 with fail
    rw [HW.out]
    go_wp2_with fail
    go_loopw [10] (fun i wr => ∃ (k : Nat) (s' : Lst), k ≤ l.length ∧ i = .int .i64 k ∧ Hid (∃ T', LsT wr B r s' T' ∧ Stp W T wr T') ∧ Hid (cleanIn base s' ((l.drop k).map Pn.nd) = R) ∧ Hid (s'.weight + szNs ((l.drop k).map Pn.nd) ≤ 3000000)) (fun i _ => l.length - (intOf i).toNat)
    case atStart => exact ⟨0, s, Nat.zero_le _, rfl, ⟨T, HLW.out, Stp.refl _ _⟩, HR, HWG⟩
    case round =>
      obtain ⟨k, s', hk, rfl, hX, hC, hG⟩ := hrel
      clear HLW HR HWG
      obtain ⟨T', hL', hS'⟩ := hX.out
      have hTW : ∀ g, g ∈ T → g < W.heap.size ∧ g < w.heap.size ∧ B ≤ g := fun g hg => by
        have := HT.out.1 g hg
        have := HS2.out
        exact ⟨by omega, by omega, by omega⟩
      have hbr : Below B0 w0 wr := HBW.out.trans (stp_below hS' (fun g hg => (hTW g hg).2.2) HB.out (Nat.le_trans HBWs.out HKW.out.size))
      have hW0 : ∀ g, w.heap.size ≤ g → g < W.heap.size → wr.heap[g]? = W.heap[g]? := fun g h1 h2 => hS'.1.block g h2 (fun hm => by have := (hTW g hm).2.1; omega)
      have e0 := (hW0 _ (Nat.le_refl _) (lt_of_block HB0.out)).trans HB0.out
      have e1 := (hW0 _ (by omega) (lt_of_block HB1.out)).trans HB1.out
      have c0 : wr.cell? ⟨w.heap.size, 0, none⟩ = some (.string ⟨base.toArray⟩) := cell_blk e0 0
      have c1 : wr.cell? ⟨w.heap.size + 1, 0, none⟩ = some (.pointer (some ⟨r, 0, none⟩)) := cell_blk e1 0
      have HE0 := hide e0
      have HE1 := hide e1
      have HBR := hide hbr
      have HL' := hide hL'
      have HS' := hide hS'
      have HMR := hide (HMW.out.keeps hS'.1 (fun hm => by have := (hTW 0 hm).2.2; have := HB.out; omega))
      clear e0 e1 hbr hL' hS' hX hTW hW0
      by_cases hlt : k < l.length
      · obtain ⟨g, x, rfl, hcl⟩ := (HL.out.belowB HBR.out).lies.addr (by omega)
        obtain ⟨a0, a1, a2, a3⟩ := lies_pn hcl k hlt
        have hm := List.getElem_mem hlt
        obtain ⟨ao, an, ac, hav⟩ := HKA.out _ hm
        obtain ⟨ko, kn, kc, hkv⟩ := HKK.out _ hm
        have hva := HVL.out _ hm
        have hla := (HA.out _ hm).belowB HBR.out
        have hpf := HIH.out _ hm
        have hC1 := hC.out
        have hG1 := hG.out
        rw [List.drop_eq_getElem_cons hlt, List.map_cons] at hC1 hG1
        rw [cleanIn_cons] at hC1
        rw [szNs_cons] at hG1
        have hwt := stepC_weight base s' l[k].nd
        clear hcl hC hG hm
        generalize l[k] = p at *
        obtain ⟨⟨nm, at', tx, ks⟩, av, kv⟩ := p
        simp only [Nd.name, Nd.attrs, Nd.text, Nd.kids] at a0 a1 a2 a3 hav hkv hva hla hpf hG1 hwt
        subst hav hkv
        have HC1 := hide hC1
        have HG1 := hide hG1
        have HWT := hide hwt
        have HVA := hide hva
        have HLA := hide hla
        have HPF := hide hpf
        clear hC1 hG1 hwt hva hla hpf
        obtain ⟨W1, hW1⟩ : ∃ W1, wr.alloc (.cells #[.string ⟨nm.toArray⟩, .slice ao an ac, .string ⟨tx.toArray⟩, .slice ko kn kc] 45) = W1 := ⟨_, rfl⟩
        have hk1 : Keeps [] wr W1 := by rw [← hW1]; exact (Keeps.refl [] wr).alloc _
        have hbx : W1.heap[wr.heap.size]? = some (.cells #[.string ⟨nm.toArray⟩, .slice ao an ac, .string ⟨tx.toArray⟩, .slice ko kn kc] 45 (0, 0)) := by rw [← hW1]; exact heap_alloc_new wr _
        have hnx : Hid (∀ s2, stepC base s' (.mk nm at' tx ks) = s2 → cleanIn base s2 ((l.drop (k + 1)).map Pn.nd) = R ∧ s2.weight + szNs ((l.drop (k + 1)).map Pn.nd) ≤ 3000000) := fun s2 h9 => by
          have := HC1.out
          have := HG1.out
          have := HWT.out
          subst h9
          exact ⟨by assumption, by omega⟩
        have HL1 := hide (HL'.out.keepsNil hk1)
        have N0 : W1.cell? ⟨wr.heap.size, 0, none⟩ = some (.string ⟨nm.toArray⟩) := cell_blk hbx 0
        have N1 : W1.cell? ⟨wr.heap.size, 1, none⟩ = some (.slice ao an ac) := cell_blk hbx 1
        have N2 : W1.cell? ⟨wr.heap.size, 2, none⟩ = some (.string ⟨tx.toArray⟩) := cell_blk hbx 2
        have N3 : W1.cell? ⟨wr.heap.size, 3, none⟩ = some (.slice ko kn kc) := cell_blk hbx 3
        have d0 := cell_keeps hk1 c0
        have d1 := cell_keeps hk1 c1
        have nn : ∀ g, g ∉ ([] : List Nat) := fun _ => List.not_mem_nil
        have HD0 := hide ((hk1.block _ (lt_of_block HE0.out) (nn _)).trans HE0.out)
        have HD1 := hide ((hk1.block _ (lt_of_block HE1.out) (nn _)).trans HE1.out)
        have HBX := hide hbx
        have HK1 := hide hk1
        have HM1 := hide (HMR.out.keeps hk1 (nn _))
        have HB1' := hide (show Below B0 w0 W1 from HBR.out.trans (hk1.nil_below.mono (Nat.le_trans HBWs.out (Nat.le_trans HKW.out.size HS'.out.1.size))))
        have HSZ := hide (show B0 ≤ W1.heap.size from Nat.le_trans HBWs.out (Nat.le_trans HKW.out.size (Nat.le_trans HS'.out.1.size hk1.size)))
        have hgs := hide (fun w => goes_any nm w)
        have hal := hide (fun w => isAllowed_any nm w)
        have hsW := HG1.out
        clear hbx hk1 nn
        cases q0 : nm.isEmpty
        · cases q1 : goneN nm
          · rw [q1] at hgs
            cases q2 : allowedN nm
            · rw [q2] at hal
              have hst : stepC base s' (.mk nm at' tx ks) = cleanIn base s' ks := by
                unfold stepC
                rw [if_neg (show ¬ (Nd.mk nm at' tx ks).name.isEmpty = true from by rw [show (Nd.mk nm at' tx ks).name = nm from rfl, q0]; simp), if_neg (show ¬ goneN (Nd.mk nm at' tx ks).name = true from by rw [show (Nd.mk nm at' tx ks).name = nm from rfl, q1]; simp), if_pos (show allowedN (Nd.mk nm at' tx ks).name = false from q2)]
                rfl
              have hrec := hide (HPF.out W1 HB1'.out HSZ.out HM1.out B r s' T' HB.out HL1.out (by omega))
              have HST := hide hst
              clear hst hsW
              go_wp2_with fail
              refine (hgs.out _).mono ?_
              rintro e w3 ⟨rfl, h9⟩
              obtain rfl : W1 = w3 := h9.symm
              go_wp2_with fail
              refine (hal.out _).mono ?_
              rintro e w3 ⟨rfl, h9⟩
              obtain rfl : W1 = w3 := h9.symm
              go_wp2_with fail
              refine hrec.out.mono ?_
              rintro e w3 ⟨rfl, T3, h3, hs3⟩
              clear a0 a1 a2 a3 N0 N1 N2 N3 c0 c1 d0 d1 hW1
              go_wp2_with fail
              go_roundw
              case rel => exact ⟨k + 1, _, by omega, by go_num, ⟨T3, h3, HS'.out.trans ((Stp.nil HK1.out T').trans hs3)⟩, hnx.out _ HST.out⟩
              case measure => simp [intOf]; omega
            · rw [q2] at hal
              have hst : stepC base s' (.mk nm at' tx ks) = if standE nm (keptA base nm at') = 0 then s'.put (.mk nm (keptA base nm at') [] (cleanL base ks)) else s' := by
                unfold stepC
                rw [if_neg (show ¬ (Nd.mk nm at' tx ks).name.isEmpty = true from by rw [show (Nd.mk nm at' tx ks).name = nm from rfl, q0]; simp), if_neg (show ¬ goneN (Nd.mk nm at' tx ks).name = true from by rw [show (Nd.mk nm at' tx ks).name = nm from rfl, q1]; simp), if_neg (show ¬ allowedN (Nd.mk nm at' tx ks).name = false from by rw [show (Nd.mk nm at' tx ks).name = nm from rfl, q2]; simp)]
                rfl
              have hcau := hide (put1_caught base nm tx (keptA base nm at') (cleanL base ks) B r (w.heap.size + 1) w.heap.size wr.heap.size s' T' _ _ W1 HL1.out (by omega) HD1.out HD0.out HBX.out
                (fun w2 hk2 => element_any base nm tx at' ks ao ko an ac kn kc (fun g => g < B0) w2 (HM1.out.keeps hk2 List.not_mem_nil) hb HVA.out.1 ((HLA.out.keeps HK1.out (fun _ _ => List.not_mem_nil)).keeps hk2 (fun _ _ => List.not_mem_nil)) HVA.out.2.1
                  (fun w3 hk3 => cleaned_of base ko kn kc ks w3 B0 (Nat.le_trans HSZ.out (Nat.le_trans hk2.size hk3.size)) (by omega)
                    (fun w4 hk4 => HPF.out w4 (HB1'.out.trans (((hk2.trans hk3).trans hk4).nil_below.mono HSZ.out)) (Nat.le_trans HSZ.out ((hk2.trans hk3).trans hk4).size) (HM1.out.keeps ((hk2.trans hk3).trans hk4) List.not_mem_nil)))))
              have HST := hide hst
              clear hst hsW
              go_wp2_with fail
              refine (hgs.out _).mono ?_
              rintro e w3 ⟨rfl, h9⟩
              obtain rfl : W1 = w3 := h9.symm
              go_wp2_with fail
              refine (hal.out _).mono ?_
              rintro e w3 ⟨rfl, h9⟩
              obtain rfl : W1 = w3 := h9.symm
              go_wp2_with fail
              refine hcau.out.mono ?_
              rintro e w3 ⟨⟨x9, rfl⟩, T3, h3, hs3⟩
              clear a0 a1 a2 a3 N0 N1 N2 N3 c0 c1 d0 d1 hW1
              go_wp2_with fail
              go_roundw
              case rel => exact ⟨k + 1, _, by omega, by go_num, ⟨T3, h3, HS'.out.trans ((Stp.nil HK1.out T').trans hs3)⟩, hnx.out _ HST.out⟩
              case measure => simp [intOf]; omega
          · rw [q1] at hgs
            have hst : stepC base s' (.mk nm at' tx ks) = s' := by
              unfold stepC
              rw [if_neg (show ¬ (Nd.mk nm at' tx ks).name.isEmpty = true from by rw [show (Nd.mk nm at' tx ks).name = nm from rfl, q0]; simp), if_pos (show goneN (Nd.mk nm at' tx ks).name = true from q1)]
            have HST := hide hst
            clear hst hsW
            go_wp2_with fail
            refine (hgs.out _).mono ?_
            rintro e w3 ⟨rfl, h9⟩
            obtain rfl : W1 = w3 := h9.symm
            clear a0 a1 a2 a3 N0 N1 N2 N3 c0 c1 d0 d1 hW1
            go_wp2_with fail
            go_roundw
            case rel => exact ⟨k + 1, _, by omega, by go_num, ⟨T', HL1.out, HS'.out.trans (Stp.nil HK1.out T')⟩, hnx.out _ HST.out⟩
            case measure => simp [intOf]; omega
        · have hst : stepC base s' (.mk nm at' tx ks) = s'.put (.mk nm at' tx ks) := by
            unfold stepC
            rw [if_pos (show (Nd.mk nm at' tx ks).name.isEmpty = true from q0)]
          have hcall := hide (putL_any B r s' T' (W1.alloc (.cells #[.string ⟨nm.toArray⟩, .slice ao an ac, .string ⟨tx.toArray⟩, .slice ko kn kc] 45)) (HL1.out.keepsNil ((Keeps.refl [] W1).alloc _)) nm tx at' ks (by omega) ao ko an ac kn kc W1.heap.size (IsNd.of (heap_alloc_new W1 _)) (fun h9 => absurd (by simpa using q0) h9))
          have HST := hide hst
          clear hst hsW
          go_wp2_with fail
          refine hcall.out.mono ?_
          rintro e w3 ⟨rfl, T3, h3, hs3⟩
          clear a0 a1 a2 a3 N0 N1 N2 N3 c0 c1 d0 d1 hW1
          go_wp2_with fail
          go_roundw
          case rel => exact ⟨k + 1, _, by omega, by go_num, ⟨T3, h3, HS'.out.trans ((Stp.nil (HK1.out.alloc _) T').trans hs3)⟩, hnx.out _ HST.out⟩
          case measure => simp [intOf]; omega
      · have hRe : s' = R := by
          have := hC.out
          rw [List.drop_eq_nil_of_le (by omega), List.map_nil, cleanIn] at this
          exact this
        subst hRe
        go_wp2_with fail
        go_end0
        exact ⟨rfl, T', HL'.out, (Stp.nil HKW.out T).trans HS'.out⟩
end Go.Proofs.YtlcljanibjdejaaGreat
