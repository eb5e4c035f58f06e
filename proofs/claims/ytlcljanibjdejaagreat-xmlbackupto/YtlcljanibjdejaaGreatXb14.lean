/- Strict trees: the law XmlBack, called. Nodes that came in: what is read of them lies there ('Ns'), and how much it is. Strict trees: a node that came in by value. -/
import Derived.Test.YtlcljanibjdejaaGreatXb13
import Derived.ProofKit
import Derived.OpenShut
import Derived.ShutString
import Derived.JoinedCond
import Derived.HandedShaped
import Derived.Carry
namespace Go.Proofs.YtlcljanibjdejaaGreat
open Go.RowKit Go.Maps
theorem NdVal.all {w : World} {P : Nat → Prop} {n : Nd} {v : Value} (h : NdVal w P n v) : NdVal w (fun _ => True) n v := h.mono (fun _ _ _ => trivial)
set_option maxRecDepth 8000 in
set_option maxHeartbeats 16000000 in
theorem xmlBack_law (s : List UInt8) (n : Nd) (v : Value) (w : World) (hV : NdVal w (fun _ => True) n v) (hbk : bulkNs [n] ≤ 1100000) (hs : s.length ≤ maxLen) (hM : HasMax w) :
    Calls Tryz.prog 6 #[.string ⟨s.toArray⟩, v] w fun e w' => e = .returned (.bool true) ∧ Keeps [] w w' := by
  have nn : ∀ g, g ∉ ([] : List Nat) := fun _ => List.not_mem_nil
  obtain ⟨oa, ca, ok, ck, rfl, hA, hK⟩ := hV
  obtain ⟨W, hW⟩ : ∃ W, w.alloc (.cells #[.string ⟨n.name.toArray⟩, .slice oa n.attrs.length ca, .string ⟨n.text.toArray⟩, .slice ok n.kids.length ck] 45) = W := ⟨_, rfl⟩
  have hkW : Keeps [] w W := by rw [← hW]; exact (Keeps.refl [] w).alloc _
  have HB := hide (blk_new rfl hW).1
  have hV9 := hide (And.intro (hA.keeps hkW (fun _ _ => nn _)) (hK.keeps0 hkW))
  have HKW := hide hkW
  have HW := hide hW
  have xb := hide (fun (w1 : World) (hk : Keeps [] w w1) => xmlBegun_any w1 (hM.keeps hk (nn _)))
  have pr1 := hide (fun (w1 : World) (hk : Keeps [] w w1) => xmlPrint_any w1 (fun _ => True) n _ ⟨oa, ca, ok, ck, rfl, hA.keeps hk (fun _ _ => nn _), hK.keeps0 hk⟩ hbk)
  have hpl1 := printX_len n
  have hsz1 := str_size (printX n)
  clear hW hA hK hkW
  by_cases hC : chkXml n = 0
  · rw [hC, if_pos rfl] at pr1
    by_cases hl1 : (printX n).length ≤ 3000
    · have hd1 : decide (((printX n).length : Int) ≤ 3000) = true := by simp; omega
      have rd1 := hide (fun (w1 : World) (hk : Keeps [] w w1) => (xmlRead_any (printX n) w1 (hM.keeps hk (nn _)) (by unfold maxLen; omega)).mono (R' := fun e w' => (∃ v, e = .returned (.tuple #[v, .int .i64 0]) ∧ DocOut w1 n v w') ∧ Keeps [] w1 w') (fun e w' h => ⟨h.1.elim (fun ⟨n, v, h1, h2⟩ => by rw [readX_print hC hl1] at h1; cases h1; exact ⟨v, h2⟩) (fun ⟨k', h1, h2⟩ => by rw [readX_print hC hl1] at h1; cases h1), h.2⟩))
      clear hC hl1
      cases hr : readX s with
      | error k =>
        have hk0 : (k != 0) = true := by have := readX_no hr; simpa using this
        have rdS := hide (fun (w1 : World) (hk : Keeps [] w w1) => (xmlRead_any s w1 (hM.keeps hk (nn _)) hs).mono (R' := fun e w' => e = .returned (.tuple #[zeroN, .int .i64 k]) ∧ Keeps [] w1 w') (fun e w' h => ⟨h.1.elim (fun ⟨n, v, h1, _⟩ => by rw [hr] at h1; cases h1) (fun ⟨k', h1, h2⟩ => by rw [hr] at h1; cases h1; exact h2), h.2⟩))
        unfold zeroN at rdS
        clear hr hM hs
        go_enter Tryz.func6, Tryz.ntmps6
        go_upto_region 1 with fail
        rw [HW.out]
        go_wp2_with fail
        refine (xb.out W HKW.out).mono ?_
        rintro e w1 ⟨rfl, hk1⟩
        have HK1 := hide (HKW.out.trans hk1)
        have hkA := hk1
        have b0 : w1.cell? ⟨w.heap.size, 0, none⟩ = some (.string ⟨n.name.toArray⟩) := cell_all hkA HB.out 0
        have b1 : w1.cell? ⟨w.heap.size, 1, none⟩ = some (.slice oa n.attrs.length ca) := cell_all hkA HB.out 1
        have b2 : w1.cell? ⟨w.heap.size, 2, none⟩ = some (.string ⟨n.text.toArray⟩) := cell_all hkA HB.out 2
        have b3 : w1.cell? ⟨w.heap.size, 3, none⟩ = some (.slice ok n.kids.length ck) := cell_all hkA HB.out 3
        go_wp2_with fail
        refine (pr1.out w1 HK1.out).mono ?_
        rintro e w2 ⟨rfl, hk2⟩
        have HK2 := hide (HK1.out.trans hk2)
        have HKW2 := hide (hkA.trans hk2)
        clear b0 b1 b2 b3
        clear hkA hk1 hk2
        go_wp2_with fail
        refine (rd1.out w2 HK2.out).mono ?_
        rintro e w3 ⟨⟨v3, rfl, hD3⟩, hk3⟩
        obtain ⟨oa3, ca3, ok3, ck3, rfl, hA3, hN3⟩ := hD3.parts
        obtain ⟨W4, hW4⟩ : ∃ W4, w3.alloc (.cells #[.string ⟨n.name.toArray⟩, .slice oa3 n.attrs.length ca3, .string ⟨n.text.toArray⟩, .slice ok3 n.kids.length ck3] 45) = W4 := ⟨_, rfl⟩
        have hkW4 : Keeps [] w3 W4 := by rw [← hW4]; exact (Keeps.refl [] w3).alloc _
        have HBW4 := hide (blk_new rfl hW4).1
        have HWW4 := hide hW4
        clear hW4
        have HK4 := hide ((HK2.out.trans hk3).trans hkW4)
        have HKW4 := hide ((HKW2.out.trans hk3).trans hkW4)
        have HA4 := hide (((hA3.mono (Q := fun _ => True) (fun _ _ _ => trivial)).keeps hkW4 (fun _ _ => nn _)))
        have HN4 := hide (((hN3.mono (Q := fun _ => True) (fun _ _ _ => trivial)).keeps0 hkW4))
        clear hk3 hkW4 hA3 hN3 hD3
        have b0 : W4.cell? ⟨w.heap.size, 0, none⟩ = some (.string ⟨n.name.toArray⟩) := cell_all HKW4.out HB.out 0
        have b1 : W4.cell? ⟨w.heap.size, 1, none⟩ = some (.slice oa n.attrs.length ca) := cell_all HKW4.out HB.out 1
        have b2 : W4.cell? ⟨w.heap.size, 2, none⟩ = some (.string ⟨n.text.toArray⟩) := cell_all HKW4.out HB.out 2
        have b3 : W4.cell? ⟨w.heap.size, 3, none⟩ = some (.slice ok n.kids.length ck) := cell_all HKW4.out HB.out 3
        have hr4 := Keeps.refl [] W4
        have d0 : W4.cell? ⟨w3.heap.size, 0, none⟩ = some (.string ⟨n.name.toArray⟩) := cell_all hr4 HBW4.out 0
        have d1 : W4.cell? ⟨w3.heap.size, 1, none⟩ = some (.slice oa3 n.attrs.length ca3) := cell_all hr4 HBW4.out 1
        have d2 : W4.cell? ⟨w3.heap.size, 2, none⟩ = some (.string ⟨n.text.toArray⟩) := cell_all hr4 HBW4.out 2
        have d3 : W4.cell? ⟨w3.heap.size, 3, none⟩ = some (.slice ok3 n.kids.length ck3) := cell_all hr4 HBW4.out 3
        clear hr4
        have ba0 : ∀ o, (W4.alloc o).cell? ⟨w.heap.size, 0, none⟩ = some (.string ⟨n.name.toArray⟩) := fun o => cell_all (HKW4.out.alloc o) HB.out 0
        have ba1 : ∀ o, (W4.alloc o).cell? ⟨w.heap.size, 1, none⟩ = some (.slice oa n.attrs.length ca) := fun o => cell_all (HKW4.out.alloc o) HB.out 1
        have ba2 : ∀ o, (W4.alloc o).cell? ⟨w.heap.size, 2, none⟩ = some (.string ⟨n.text.toArray⟩) := fun o => cell_all (HKW4.out.alloc o) HB.out 2
        have ba3 : ∀ o, (W4.alloc o).cell? ⟨w.heap.size, 3, none⟩ = some (.slice ok n.kids.length ck) := fun o => cell_all (HKW4.out.alloc o) HB.out 3
        go_upto_region 6 with fail
        rw [HWW4.out]
        go_wp2_with fail
        have hkx := ((Keeps.refl [] W4).alloc (.cells #[.string ⟨n.name.toArray⟩, .slice oa3 n.attrs.length ca3, .string ⟨n.text.toArray⟩, .slice ok3 n.kids.length ck3] 45)).alloc (.cells #[.string ⟨n.name.toArray⟩, .slice oa n.attrs.length ca, .string ⟨n.text.toArray⟩, .slice ok n.kids.length ck] 45)
        refine (same_one (two_fst W4 _ _) (HA4.out.keeps hkx (fun _ _ => nn _)) (HN4.out.keeps0 hkx) (two_snd W4 _ _) (hV9.out.1.keeps (HKW4.out.trans hkx) (fun _ _ => nn _)) (hV9.out.2.keeps0 (HKW4.out.trans hkx))).mono ?_
        rintro e wE ⟨rfl, nE, hwE⟩
        have HKE := hide (HK4.out.trans (hkx.trans (keeps_eq hwE)))
        clear hwE hkx ba0 ba1 ba2 ba3
        clear b0 b1 b2 b3
        clear d0 d1 d2 d3
        go_wp2_with fail
        refine (rdS.out wE HKE.out).mono ?_
        rintro e w5 ⟨rfl, hk5⟩
        have HK5 := hide (HKE.out.trans hk5)
        clear hk5
        go_wp2_with fail
        go_ret
        exact ⟨rfl, HK5.out.alloc _⟩
      | ok m =>
        have hmb := readX_bulk hr
        have rdS := hide (fun (w1 : World) (hk : Keeps [] w w1) => (xmlRead_any s w1 (hM.keeps hk (nn _)) hs).mono (R' := fun e w' => (∃ v, e = .returned (.tuple #[v, .int .i64 0]) ∧ DocOut w1 m v w') ∧ Keeps [] w1 w') (fun e w' h => ⟨h.1.elim (fun ⟨n, v, h1, h2⟩ => by rw [hr] at h1; cases h1; exact ⟨v, h2⟩) (fun ⟨k', h1, h2⟩ => by rw [hr] at h1; cases h1), h.2⟩))
        have pr2 := hide (fun (w1 : World) (v : Value) (hV : NdVal w1 (fun _ => True) m v) => xmlPrint_any w1 _ m v hV (by omega))
        rw [hmb.2.1, if_pos rfl] at pr2
        have hpl := printX_len m
        have hsz2 := str_size (printX m)
        by_cases hl : (printX m).length ≤ 3000
        · have hd : decide ((3000 : Int) < ((printX m).length : Int)) = false := by simp; omega
          have rd2 := hide (fun (w1 : World) (hk : Keeps [] w w1) => (xmlRead_any (printX m) w1 (hM.keeps hk (nn _)) (by unfold maxLen; omega)).mono (R' := fun e w' => (∃ v, e = .returned (.tuple #[v, .int .i64 0]) ∧ DocOut w1 m v w') ∧ Keeps [] w1 w') (fun e w' h => ⟨h.1.elim (fun ⟨n, v, h1, h2⟩ => by rw [readX_print hmb.2.1 hl] at h1; cases h1; exact ⟨v, h2⟩) (fun ⟨k', h1, h2⟩ => by rw [readX_print hmb.2.1 hl] at h1; cases h1), h.2⟩))
          clear hr hM hs hmb hl
          go_enter Tryz.func6, Tryz.ntmps6
          go_upto_region 1 with fail
          rw [HW.out]
          go_wp2_with fail
          refine (xb.out W HKW.out).mono ?_
          rintro e w1 ⟨rfl, hk1⟩
          have HK1 := hide (HKW.out.trans hk1)
          have hkA := hk1
          have b0 : w1.cell? ⟨w.heap.size, 0, none⟩ = some (.string ⟨n.name.toArray⟩) := cell_all hkA HB.out 0
          have b1 : w1.cell? ⟨w.heap.size, 1, none⟩ = some (.slice oa n.attrs.length ca) := cell_all hkA HB.out 1
          have b2 : w1.cell? ⟨w.heap.size, 2, none⟩ = some (.string ⟨n.text.toArray⟩) := cell_all hkA HB.out 2
          have b3 : w1.cell? ⟨w.heap.size, 3, none⟩ = some (.slice ok n.kids.length ck) := cell_all hkA HB.out 3
          go_wp2_with fail
          refine (pr1.out w1 HK1.out).mono ?_
          rintro e w2 ⟨rfl, hk2⟩
          have HK2 := hide (HK1.out.trans hk2)
          have HKW2 := hide (hkA.trans hk2)
          clear b0 b1 b2 b3
          clear hkA hk1 hk2
          go_wp2_with fail
          refine (rd1.out w2 HK2.out).mono ?_
          rintro e w3 ⟨⟨v3, rfl, hD3⟩, hk3⟩
          obtain ⟨oa3, ca3, ok3, ck3, rfl, hA3, hN3⟩ := hD3.parts
          obtain ⟨W4, hW4⟩ : ∃ W4, w3.alloc (.cells #[.string ⟨n.name.toArray⟩, .slice oa3 n.attrs.length ca3, .string ⟨n.text.toArray⟩, .slice ok3 n.kids.length ck3] 45) = W4 := ⟨_, rfl⟩
          have hkW4 : Keeps [] w3 W4 := by rw [← hW4]; exact (Keeps.refl [] w3).alloc _
          have HBW4 := hide (blk_new rfl hW4).1
          have HWW4 := hide hW4
          clear hW4
          have HK4 := hide ((HK2.out.trans hk3).trans hkW4)
          have HKW4 := hide ((HKW2.out.trans hk3).trans hkW4)
          have HA4 := hide (((hA3.mono (Q := fun _ => True) (fun _ _ _ => trivial)).keeps hkW4 (fun _ _ => nn _)))
          have HN4 := hide (((hN3.mono (Q := fun _ => True) (fun _ _ _ => trivial)).keeps0 hkW4))
          clear hk3 hkW4 hA3 hN3 hD3
          have b0 : W4.cell? ⟨w.heap.size, 0, none⟩ = some (.string ⟨n.name.toArray⟩) := cell_all HKW4.out HB.out 0
          have b1 : W4.cell? ⟨w.heap.size, 1, none⟩ = some (.slice oa n.attrs.length ca) := cell_all HKW4.out HB.out 1
          have b2 : W4.cell? ⟨w.heap.size, 2, none⟩ = some (.string ⟨n.text.toArray⟩) := cell_all HKW4.out HB.out 2
          have b3 : W4.cell? ⟨w.heap.size, 3, none⟩ = some (.slice ok n.kids.length ck) := cell_all HKW4.out HB.out 3
          have hr4 := Keeps.refl [] W4
          have d0 : W4.cell? ⟨w3.heap.size, 0, none⟩ = some (.string ⟨n.name.toArray⟩) := cell_all hr4 HBW4.out 0
          have d1 : W4.cell? ⟨w3.heap.size, 1, none⟩ = some (.slice oa3 n.attrs.length ca3) := cell_all hr4 HBW4.out 1
          have d2 : W4.cell? ⟨w3.heap.size, 2, none⟩ = some (.string ⟨n.text.toArray⟩) := cell_all hr4 HBW4.out 2
          have d3 : W4.cell? ⟨w3.heap.size, 3, none⟩ = some (.slice ok3 n.kids.length ck3) := cell_all hr4 HBW4.out 3
          clear hr4
          have ba0 : ∀ o, (W4.alloc o).cell? ⟨w.heap.size, 0, none⟩ = some (.string ⟨n.name.toArray⟩) := fun o => cell_all (HKW4.out.alloc o) HB.out 0
          have ba1 : ∀ o, (W4.alloc o).cell? ⟨w.heap.size, 1, none⟩ = some (.slice oa n.attrs.length ca) := fun o => cell_all (HKW4.out.alloc o) HB.out 1
          have ba2 : ∀ o, (W4.alloc o).cell? ⟨w.heap.size, 2, none⟩ = some (.string ⟨n.text.toArray⟩) := fun o => cell_all (HKW4.out.alloc o) HB.out 2
          have ba3 : ∀ o, (W4.alloc o).cell? ⟨w.heap.size, 3, none⟩ = some (.slice ok n.kids.length ck) := fun o => cell_all (HKW4.out.alloc o) HB.out 3
          go_upto_region 6 with fail
          rw [HWW4.out]
          go_wp2_with fail
          have hkx := ((Keeps.refl [] W4).alloc (.cells #[.string ⟨n.name.toArray⟩, .slice oa3 n.attrs.length ca3, .string ⟨n.text.toArray⟩, .slice ok3 n.kids.length ck3] 45)).alloc (.cells #[.string ⟨n.name.toArray⟩, .slice oa n.attrs.length ca, .string ⟨n.text.toArray⟩, .slice ok n.kids.length ck] 45)
          refine (same_one (two_fst W4 _ _) (HA4.out.keeps hkx (fun _ _ => nn _)) (HN4.out.keeps0 hkx) (two_snd W4 _ _) (hV9.out.1.keeps (HKW4.out.trans hkx) (fun _ _ => nn _)) (hV9.out.2.keeps0 (HKW4.out.trans hkx))).mono ?_
          rintro e wE ⟨rfl, nE, hwE⟩
          have HKE := hide (HK4.out.trans (hkx.trans (keeps_eq hwE)))
          clear hwE hkx ba0 ba1 ba2 ba3
          clear b0 b1 b2 b3
          clear d0 d1 d2 d3
          go_wp2_with fail
          refine (rdS.out wE HKE.out).mono ?_
          rintro e w5 ⟨⟨v5, rfl, hD5⟩, hk5⟩
          obtain ⟨oa5, ca5, ok5, ck5, rfl, hA5, hN5⟩ := hD5.parts
          obtain ⟨W6, hW6⟩ : ∃ W6, w5.alloc (.cells #[.string ⟨m.name.toArray⟩, .slice oa5 m.attrs.length ca5, .string ⟨m.text.toArray⟩, .slice ok5 m.kids.length ck5] 45) = W6 := ⟨_, rfl⟩
          have hkW6 : Keeps [] w5 W6 := by rw [← hW6]; exact (Keeps.refl [] w5).alloc _
          have HBW6 := hide (blk_new rfl hW6).1
          have HWW6 := hide hW6
          clear hW6
          have HK6 := hide ((HKE.out.trans hk5).trans hkW6)
          have HA6 := hide (((hA5.mono (Q := fun _ => True) (fun _ _ _ => trivial)).keeps hkW6 (fun _ _ => nn _)))
          have HN6 := hide (((hN5.mono (Q := fun _ => True) (fun _ _ _ => trivial)).keeps0 hkW6))
          have hp6 := hide (pr2.out W6 _ ⟨oa5, ca5, ok5, ck5, rfl, HA6.out, HN6.out⟩)
          clear hk5 hkW6 hA5 hN5 hD5
          have hr6 := Keeps.refl [] W6
          have f0 : W6.cell? ⟨w5.heap.size, 0, none⟩ = some (.string ⟨m.name.toArray⟩) := cell_all hr6 HBW6.out 0
          have f1 : W6.cell? ⟨w5.heap.size, 1, none⟩ = some (.slice oa5 m.attrs.length ca5) := cell_all hr6 HBW6.out 1
          have f2 : W6.cell? ⟨w5.heap.size, 2, none⟩ = some (.string ⟨m.text.toArray⟩) := cell_all hr6 HBW6.out 2
          have f3 : W6.cell? ⟨w5.heap.size, 3, none⟩ = some (.slice ok5 m.kids.length ck5) := cell_all hr6 HBW6.out 3
          clear hr6
          go_upto_region 9 with fail
          rw [HWW6.out]
          go_wp2_with fail
          refine hp6.out.mono ?_
          rintro e w7 ⟨rfl, hk7⟩
          have HK7 := hide (HK6.out.trans hk7)
          have HKW7 := hide hk7
          clear hk7
          clear f0 f1 f2 f3
          go_wp2_with fail
          refine (rd2.out w7 HK7.out).mono ?_
          rintro e w8 ⟨⟨v8, rfl, hD8⟩, hk8⟩
          obtain ⟨oa8, ca8, ok8, ck8, rfl, hA8, hN8⟩ := hD8.parts
          obtain ⟨W9, hW9⟩ : ∃ W9, w8.alloc (.cells #[.string ⟨m.name.toArray⟩, .slice oa8 m.attrs.length ca8, .string ⟨m.text.toArray⟩, .slice ok8 m.kids.length ck8] 45) = W9 := ⟨_, rfl⟩
          have hkW9 : Keeps [] w8 W9 := by rw [← hW9]; exact (Keeps.refl [] w8).alloc _
          have HBW9 := hide (blk_new rfl hW9).1
          have HWW9 := hide hW9
          clear hW9
          have HK9 := hide ((HK7.out.trans hk8).trans hkW9)
          have HKW9 := hide ((HKW7.out.trans hk8).trans hkW9)
          have HA9 := hide (((hA8.mono (Q := fun _ => True) (fun _ _ _ => trivial)).keeps hkW9 (fun _ _ => nn _)))
          have HN9 := hide (((hN8.mono (Q := fun _ => True) (fun _ _ _ => trivial)).keeps0 hkW9))
          clear hk8 hkW9 hA8 hN8 hD8
          have f0 : W9.cell? ⟨w5.heap.size, 0, none⟩ = some (.string ⟨m.name.toArray⟩) := cell_all HKW9.out HBW6.out 0
          have f1 : W9.cell? ⟨w5.heap.size, 1, none⟩ = some (.slice oa5 m.attrs.length ca5) := cell_all HKW9.out HBW6.out 1
          have f2 : W9.cell? ⟨w5.heap.size, 2, none⟩ = some (.string ⟨m.text.toArray⟩) := cell_all HKW9.out HBW6.out 2
          have f3 : W9.cell? ⟨w5.heap.size, 3, none⟩ = some (.slice ok5 m.kids.length ck5) := cell_all HKW9.out HBW6.out 3
          have hr9 := Keeps.refl [] W9
          have g0 : W9.cell? ⟨w8.heap.size, 0, none⟩ = some (.string ⟨m.name.toArray⟩) := cell_all hr9 HBW9.out 0
          have g1 : W9.cell? ⟨w8.heap.size, 1, none⟩ = some (.slice oa8 m.attrs.length ca8) := cell_all hr9 HBW9.out 1
          have g2 : W9.cell? ⟨w8.heap.size, 2, none⟩ = some (.string ⟨m.text.toArray⟩) := cell_all hr9 HBW9.out 2
          have g3 : W9.cell? ⟨w8.heap.size, 3, none⟩ = some (.slice ok8 m.kids.length ck8) := cell_all hr9 HBW9.out 3
          clear hr9
          have fa0 : ∀ o, (W9.alloc o).cell? ⟨w5.heap.size, 0, none⟩ = some (.string ⟨m.name.toArray⟩) := fun o => cell_all (HKW9.out.alloc o) HBW6.out 0
          have fa1 : ∀ o, (W9.alloc o).cell? ⟨w5.heap.size, 1, none⟩ = some (.slice oa5 m.attrs.length ca5) := fun o => cell_all (HKW9.out.alloc o) HBW6.out 1
          have fa2 : ∀ o, (W9.alloc o).cell? ⟨w5.heap.size, 2, none⟩ = some (.string ⟨m.text.toArray⟩) := fun o => cell_all (HKW9.out.alloc o) HBW6.out 2
          have fa3 : ∀ o, (W9.alloc o).cell? ⟨w5.heap.size, 3, none⟩ = some (.slice ok5 m.kids.length ck5) := fun o => cell_all (HKW9.out.alloc o) HBW6.out 3
          go_upto_region 15 with fail
          rw [HWW9.out]
          go_wp2_with fail
          have hky := ((Keeps.refl [] W9).alloc (.cells #[.string ⟨m.name.toArray⟩, .slice oa8 m.attrs.length ca8, .string ⟨m.text.toArray⟩, .slice ok8 m.kids.length ck8] 45)).alloc (.cells #[.string ⟨m.name.toArray⟩, .slice oa5 m.attrs.length ca5, .string ⟨m.text.toArray⟩, .slice ok5 m.kids.length ck5] 45)
          refine (same_one (two_fst W9 _ _) (HA9.out.keeps hky (fun _ _ => nn _)) (HN9.out.keeps0 hky) (two_snd W9 _ _) (HA6.out.keeps (HKW9.out.trans hky) (fun _ _ => nn _)) (HN6.out.keeps0 (HKW9.out.trans hky))).mono ?_
          rintro e wF ⟨rfl, nF, hwF⟩
          have HKF := hide (HK9.out.trans (hky.trans (keeps_eq hwF)))
          clear hwF hky fa0 fa1 fa2 fa3
          clear f0 f1 f2 f3
          clear g0 g1 g2 g3
          go_wp2_with fail
          go_ret
          exact ⟨rfl, HKF.out⟩
        · have hd : decide ((3000 : Int) < ((printX m).length : Int)) = true := by simp; omega
          clear hr hM hs hmb hl
          go_enter Tryz.func6, Tryz.ntmps6
          go_upto_region 1 with fail
          rw [HW.out]
          go_wp2_with fail
          refine (xb.out W HKW.out).mono ?_
          rintro e w1 ⟨rfl, hk1⟩
          have HK1 := hide (HKW.out.trans hk1)
          have hkA := hk1
          have b0 : w1.cell? ⟨w.heap.size, 0, none⟩ = some (.string ⟨n.name.toArray⟩) := cell_all hkA HB.out 0
          have b1 : w1.cell? ⟨w.heap.size, 1, none⟩ = some (.slice oa n.attrs.length ca) := cell_all hkA HB.out 1
          have b2 : w1.cell? ⟨w.heap.size, 2, none⟩ = some (.string ⟨n.text.toArray⟩) := cell_all hkA HB.out 2
          have b3 : w1.cell? ⟨w.heap.size, 3, none⟩ = some (.slice ok n.kids.length ck) := cell_all hkA HB.out 3
          go_wp2_with fail
          refine (pr1.out w1 HK1.out).mono ?_
          rintro e w2 ⟨rfl, hk2⟩
          have HK2 := hide (HK1.out.trans hk2)
          have HKW2 := hide (hkA.trans hk2)
          clear b0 b1 b2 b3
          clear hkA hk1 hk2
          go_wp2_with fail
          refine (rd1.out w2 HK2.out).mono ?_
          rintro e w3 ⟨⟨v3, rfl, hD3⟩, hk3⟩
          obtain ⟨oa3, ca3, ok3, ck3, rfl, hA3, hN3⟩ := hD3.parts
          obtain ⟨W4, hW4⟩ : ∃ W4, w3.alloc (.cells #[.string ⟨n.name.toArray⟩, .slice oa3 n.attrs.length ca3, .string ⟨n.text.toArray⟩, .slice ok3 n.kids.length ck3] 45) = W4 := ⟨_, rfl⟩
          have hkW4 : Keeps [] w3 W4 := by rw [← hW4]; exact (Keeps.refl [] w3).alloc _
          have HBW4 := hide (blk_new rfl hW4).1
          have HWW4 := hide hW4
          clear hW4
          have HK4 := hide ((HK2.out.trans hk3).trans hkW4)
          have HKW4 := hide ((HKW2.out.trans hk3).trans hkW4)
          have HA4 := hide (((hA3.mono (Q := fun _ => True) (fun _ _ _ => trivial)).keeps hkW4 (fun _ _ => nn _)))
          have HN4 := hide (((hN3.mono (Q := fun _ => True) (fun _ _ _ => trivial)).keeps0 hkW4))
          clear hk3 hkW4 hA3 hN3 hD3
          have b0 : W4.cell? ⟨w.heap.size, 0, none⟩ = some (.string ⟨n.name.toArray⟩) := cell_all HKW4.out HB.out 0
          have b1 : W4.cell? ⟨w.heap.size, 1, none⟩ = some (.slice oa n.attrs.length ca) := cell_all HKW4.out HB.out 1
          have b2 : W4.cell? ⟨w.heap.size, 2, none⟩ = some (.string ⟨n.text.toArray⟩) := cell_all HKW4.out HB.out 2
          have b3 : W4.cell? ⟨w.heap.size, 3, none⟩ = some (.slice ok n.kids.length ck) := cell_all HKW4.out HB.out 3
          have hr4 := Keeps.refl [] W4
          have d0 : W4.cell? ⟨w3.heap.size, 0, none⟩ = some (.string ⟨n.name.toArray⟩) := cell_all hr4 HBW4.out 0
          have d1 : W4.cell? ⟨w3.heap.size, 1, none⟩ = some (.slice oa3 n.attrs.length ca3) := cell_all hr4 HBW4.out 1
          have d2 : W4.cell? ⟨w3.heap.size, 2, none⟩ = some (.string ⟨n.text.toArray⟩) := cell_all hr4 HBW4.out 2
          have d3 : W4.cell? ⟨w3.heap.size, 3, none⟩ = some (.slice ok3 n.kids.length ck3) := cell_all hr4 HBW4.out 3
          clear hr4
          have ba0 : ∀ o, (W4.alloc o).cell? ⟨w.heap.size, 0, none⟩ = some (.string ⟨n.name.toArray⟩) := fun o => cell_all (HKW4.out.alloc o) HB.out 0
          have ba1 : ∀ o, (W4.alloc o).cell? ⟨w.heap.size, 1, none⟩ = some (.slice oa n.attrs.length ca) := fun o => cell_all (HKW4.out.alloc o) HB.out 1
          have ba2 : ∀ o, (W4.alloc o).cell? ⟨w.heap.size, 2, none⟩ = some (.string ⟨n.text.toArray⟩) := fun o => cell_all (HKW4.out.alloc o) HB.out 2
          have ba3 : ∀ o, (W4.alloc o).cell? ⟨w.heap.size, 3, none⟩ = some (.slice ok n.kids.length ck) := fun o => cell_all (HKW4.out.alloc o) HB.out 3
          go_upto_region 6 with fail
          rw [HWW4.out]
          go_wp2_with fail
          have hkx := ((Keeps.refl [] W4).alloc (.cells #[.string ⟨n.name.toArray⟩, .slice oa3 n.attrs.length ca3, .string ⟨n.text.toArray⟩, .slice ok3 n.kids.length ck3] 45)).alloc (.cells #[.string ⟨n.name.toArray⟩, .slice oa n.attrs.length ca, .string ⟨n.text.toArray⟩, .slice ok n.kids.length ck] 45)
          refine (same_one (two_fst W4 _ _) (HA4.out.keeps hkx (fun _ _ => nn _)) (HN4.out.keeps0 hkx) (two_snd W4 _ _) (hV9.out.1.keeps (HKW4.out.trans hkx) (fun _ _ => nn _)) (hV9.out.2.keeps0 (HKW4.out.trans hkx))).mono ?_
          rintro e wE ⟨rfl, nE, hwE⟩
          have HKE := hide (HK4.out.trans (hkx.trans (keeps_eq hwE)))
          clear hwE hkx ba0 ba1 ba2 ba3
          clear b0 b1 b2 b3
          clear d0 d1 d2 d3
          go_wp2_with fail
          refine (rdS.out wE HKE.out).mono ?_
          rintro e w5 ⟨⟨v5, rfl, hD5⟩, hk5⟩
          obtain ⟨oa5, ca5, ok5, ck5, rfl, hA5, hN5⟩ := hD5.parts
          obtain ⟨W6, hW6⟩ : ∃ W6, w5.alloc (.cells #[.string ⟨m.name.toArray⟩, .slice oa5 m.attrs.length ca5, .string ⟨m.text.toArray⟩, .slice ok5 m.kids.length ck5] 45) = W6 := ⟨_, rfl⟩
          have hkW6 : Keeps [] w5 W6 := by rw [← hW6]; exact (Keeps.refl [] w5).alloc _
          have HBW6 := hide (blk_new rfl hW6).1
          have HWW6 := hide hW6
          clear hW6
          have HK6 := hide ((HKE.out.trans hk5).trans hkW6)
          have HA6 := hide (((hA5.mono (Q := fun _ => True) (fun _ _ _ => trivial)).keeps hkW6 (fun _ _ => nn _)))
          have HN6 := hide (((hN5.mono (Q := fun _ => True) (fun _ _ _ => trivial)).keeps0 hkW6))
          have hp6 := hide (pr2.out W6 _ ⟨oa5, ca5, ok5, ck5, rfl, HA6.out, HN6.out⟩)
          clear hk5 hkW6 hA5 hN5 hD5
          have hr6 := Keeps.refl [] W6
          have f0 : W6.cell? ⟨w5.heap.size, 0, none⟩ = some (.string ⟨m.name.toArray⟩) := cell_all hr6 HBW6.out 0
          have f1 : W6.cell? ⟨w5.heap.size, 1, none⟩ = some (.slice oa5 m.attrs.length ca5) := cell_all hr6 HBW6.out 1
          have f2 : W6.cell? ⟨w5.heap.size, 2, none⟩ = some (.string ⟨m.text.toArray⟩) := cell_all hr6 HBW6.out 2
          have f3 : W6.cell? ⟨w5.heap.size, 3, none⟩ = some (.slice ok5 m.kids.length ck5) := cell_all hr6 HBW6.out 3
          clear hr6
          go_upto_region 9 with fail
          rw [HWW6.out]
          go_wp2_with fail
          refine hp6.out.mono ?_
          rintro e w7 ⟨rfl, hk7⟩
          have HK7 := hide (HK6.out.trans hk7)
          have HKW7 := hide hk7
          clear hk7
          clear f0 f1 f2 f3
          go_wp2_with fail
          go_ret
          exact ⟨rfl, HK7.out⟩
    · have hd1 : decide (((printX n).length : Int) ≤ 3000) = false := by simp; omega
      clear hC hl1
      cases hr : readX s with
      | error k =>
        have hk0 : (k != 0) = true := by have := readX_no hr; simpa using this
        have rdS := hide (fun (w1 : World) (hk : Keeps [] w w1) => (xmlRead_any s w1 (hM.keeps hk (nn _)) hs).mono (R' := fun e w' => e = .returned (.tuple #[zeroN, .int .i64 k]) ∧ Keeps [] w1 w') (fun e w' h => ⟨h.1.elim (fun ⟨n, v, h1, _⟩ => by rw [hr] at h1; cases h1) (fun ⟨k', h1, h2⟩ => by rw [hr] at h1; cases h1; exact h2), h.2⟩))
        unfold zeroN at rdS
        clear hr hM hs
        go_enter Tryz.func6, Tryz.ntmps6
        go_upto_region 1 with fail
        rw [HW.out]
        go_wp2_with fail
        refine (xb.out W HKW.out).mono ?_
        rintro e w1 ⟨rfl, hk1⟩
        have HK1 := hide (HKW.out.trans hk1)
        have hkA := hk1
        have b0 : w1.cell? ⟨w.heap.size, 0, none⟩ = some (.string ⟨n.name.toArray⟩) := cell_all hkA HB.out 0
        have b1 : w1.cell? ⟨w.heap.size, 1, none⟩ = some (.slice oa n.attrs.length ca) := cell_all hkA HB.out 1
        have b2 : w1.cell? ⟨w.heap.size, 2, none⟩ = some (.string ⟨n.text.toArray⟩) := cell_all hkA HB.out 2
        have b3 : w1.cell? ⟨w.heap.size, 3, none⟩ = some (.slice ok n.kids.length ck) := cell_all hkA HB.out 3
        go_wp2_with fail
        refine (pr1.out w1 HK1.out).mono ?_
        rintro e w2 ⟨rfl, hk2⟩
        have HK2 := hide (HK1.out.trans hk2)
        have HKW2 := hide (hkA.trans hk2)
        clear b0 b1 b2 b3
        clear hkA hk1 hk2
        obtain ⟨wE, hwE⟩ : ∃ wE, wE = w2 := ⟨_, rfl⟩
        subst hwE
        have HKE := HK2
        go_wp2_with fail
        refine (rdS.out wE HKE.out).mono ?_
        rintro e w5 ⟨rfl, hk5⟩
        have HK5 := hide (HKE.out.trans hk5)
        clear hk5
        go_wp2_with fail
        go_ret
        exact ⟨rfl, HK5.out.alloc _⟩
      | ok m =>
        have hmb := readX_bulk hr
        have rdS := hide (fun (w1 : World) (hk : Keeps [] w w1) => (xmlRead_any s w1 (hM.keeps hk (nn _)) hs).mono (R' := fun e w' => (∃ v, e = .returned (.tuple #[v, .int .i64 0]) ∧ DocOut w1 m v w') ∧ Keeps [] w1 w') (fun e w' h => ⟨h.1.elim (fun ⟨n, v, h1, h2⟩ => by rw [hr] at h1; cases h1; exact ⟨v, h2⟩) (fun ⟨k', h1, h2⟩ => by rw [hr] at h1; cases h1), h.2⟩))
        have pr2 := hide (fun (w1 : World) (v : Value) (hV : NdVal w1 (fun _ => True) m v) => xmlPrint_any w1 _ m v hV (by omega))
        rw [hmb.2.1, if_pos rfl] at pr2
        have hpl := printX_len m
        have hsz2 := str_size (printX m)
        by_cases hl : (printX m).length ≤ 3000
        · have hd : decide ((3000 : Int) < ((printX m).length : Int)) = false := by simp; omega
          have rd2 := hide (fun (w1 : World) (hk : Keeps [] w w1) => (xmlRead_any (printX m) w1 (hM.keeps hk (nn _)) (by unfold maxLen; omega)).mono (R' := fun e w' => (∃ v, e = .returned (.tuple #[v, .int .i64 0]) ∧ DocOut w1 m v w') ∧ Keeps [] w1 w') (fun e w' h => ⟨h.1.elim (fun ⟨n, v, h1, h2⟩ => by rw [readX_print hmb.2.1 hl] at h1; cases h1; exact ⟨v, h2⟩) (fun ⟨k', h1, h2⟩ => by rw [readX_print hmb.2.1 hl] at h1; cases h1), h.2⟩))
          clear hr hM hs hmb hl
          go_enter Tryz.func6, Tryz.ntmps6
          go_upto_region 1 with fail
          rw [HW.out]
          go_wp2_with fail
          refine (xb.out W HKW.out).mono ?_
          rintro e w1 ⟨rfl, hk1⟩
          have HK1 := hide (HKW.out.trans hk1)
          have hkA := hk1
          have b0 : w1.cell? ⟨w.heap.size, 0, none⟩ = some (.string ⟨n.name.toArray⟩) := cell_all hkA HB.out 0
          have b1 : w1.cell? ⟨w.heap.size, 1, none⟩ = some (.slice oa n.attrs.length ca) := cell_all hkA HB.out 1
          have b2 : w1.cell? ⟨w.heap.size, 2, none⟩ = some (.string ⟨n.text.toArray⟩) := cell_all hkA HB.out 2
          have b3 : w1.cell? ⟨w.heap.size, 3, none⟩ = some (.slice ok n.kids.length ck) := cell_all hkA HB.out 3
          go_wp2_with fail
          refine (pr1.out w1 HK1.out).mono ?_
          rintro e w2 ⟨rfl, hk2⟩
          have HK2 := hide (HK1.out.trans hk2)
          have HKW2 := hide (hkA.trans hk2)
          clear b0 b1 b2 b3
          clear hkA hk1 hk2
          obtain ⟨wE, hwE⟩ : ∃ wE, wE = w2 := ⟨_, rfl⟩
          subst hwE
          have HKE := HK2
          go_wp2_with fail
          refine (rdS.out wE HKE.out).mono ?_
          rintro e w5 ⟨⟨v5, rfl, hD5⟩, hk5⟩
          obtain ⟨oa5, ca5, ok5, ck5, rfl, hA5, hN5⟩ := hD5.parts
          obtain ⟨W6, hW6⟩ : ∃ W6, w5.alloc (.cells #[.string ⟨m.name.toArray⟩, .slice oa5 m.attrs.length ca5, .string ⟨m.text.toArray⟩, .slice ok5 m.kids.length ck5] 45) = W6 := ⟨_, rfl⟩
          have hkW6 : Keeps [] w5 W6 := by rw [← hW6]; exact (Keeps.refl [] w5).alloc _
          have HBW6 := hide (blk_new rfl hW6).1
          have HWW6 := hide hW6
          clear hW6
          have HK6 := hide ((HKE.out.trans hk5).trans hkW6)
          have HA6 := hide (((hA5.mono (Q := fun _ => True) (fun _ _ _ => trivial)).keeps hkW6 (fun _ _ => nn _)))
          have HN6 := hide (((hN5.mono (Q := fun _ => True) (fun _ _ _ => trivial)).keeps0 hkW6))
          have hp6 := hide (pr2.out W6 _ ⟨oa5, ca5, ok5, ck5, rfl, HA6.out, HN6.out⟩)
          clear hk5 hkW6 hA5 hN5 hD5
          have hr6 := Keeps.refl [] W6
          have f0 : W6.cell? ⟨w5.heap.size, 0, none⟩ = some (.string ⟨m.name.toArray⟩) := cell_all hr6 HBW6.out 0
          have f1 : W6.cell? ⟨w5.heap.size, 1, none⟩ = some (.slice oa5 m.attrs.length ca5) := cell_all hr6 HBW6.out 1
          have f2 : W6.cell? ⟨w5.heap.size, 2, none⟩ = some (.string ⟨m.text.toArray⟩) := cell_all hr6 HBW6.out 2
          have f3 : W6.cell? ⟨w5.heap.size, 3, none⟩ = some (.slice ok5 m.kids.length ck5) := cell_all hr6 HBW6.out 3
          clear hr6
          go_upto_region 9 with fail
          rw [HWW6.out]
          go_wp2_with fail
          refine hp6.out.mono ?_
          rintro e w7 ⟨rfl, hk7⟩
          have HK7 := hide (HK6.out.trans hk7)
          have HKW7 := hide hk7
          clear hk7
          clear f0 f1 f2 f3
          go_wp2_with fail
          refine (rd2.out w7 HK7.out).mono ?_
          rintro e w8 ⟨⟨v8, rfl, hD8⟩, hk8⟩
          obtain ⟨oa8, ca8, ok8, ck8, rfl, hA8, hN8⟩ := hD8.parts
          obtain ⟨W9, hW9⟩ : ∃ W9, w8.alloc (.cells #[.string ⟨m.name.toArray⟩, .slice oa8 m.attrs.length ca8, .string ⟨m.text.toArray⟩, .slice ok8 m.kids.length ck8] 45) = W9 := ⟨_, rfl⟩
          have hkW9 : Keeps [] w8 W9 := by rw [← hW9]; exact (Keeps.refl [] w8).alloc _
          have HBW9 := hide (blk_new rfl hW9).1
          have HWW9 := hide hW9
          clear hW9
          have HK9 := hide ((HK7.out.trans hk8).trans hkW9)
          have HKW9 := hide ((HKW7.out.trans hk8).trans hkW9)
          have HA9 := hide (((hA8.mono (Q := fun _ => True) (fun _ _ _ => trivial)).keeps hkW9 (fun _ _ => nn _)))
          have HN9 := hide (((hN8.mono (Q := fun _ => True) (fun _ _ _ => trivial)).keeps0 hkW9))
          clear hk8 hkW9 hA8 hN8 hD8
          have f0 : W9.cell? ⟨w5.heap.size, 0, none⟩ = some (.string ⟨m.name.toArray⟩) := cell_all HKW9.out HBW6.out 0
          have f1 : W9.cell? ⟨w5.heap.size, 1, none⟩ = some (.slice oa5 m.attrs.length ca5) := cell_all HKW9.out HBW6.out 1
          have f2 : W9.cell? ⟨w5.heap.size, 2, none⟩ = some (.string ⟨m.text.toArray⟩) := cell_all HKW9.out HBW6.out 2
          have f3 : W9.cell? ⟨w5.heap.size, 3, none⟩ = some (.slice ok5 m.kids.length ck5) := cell_all HKW9.out HBW6.out 3
          have hr9 := Keeps.refl [] W9
          have g0 : W9.cell? ⟨w8.heap.size, 0, none⟩ = some (.string ⟨m.name.toArray⟩) := cell_all hr9 HBW9.out 0
          have g1 : W9.cell? ⟨w8.heap.size, 1, none⟩ = some (.slice oa8 m.attrs.length ca8) := cell_all hr9 HBW9.out 1
          have g2 : W9.cell? ⟨w8.heap.size, 2, none⟩ = some (.string ⟨m.text.toArray⟩) := cell_all hr9 HBW9.out 2
          have g3 : W9.cell? ⟨w8.heap.size, 3, none⟩ = some (.slice ok8 m.kids.length ck8) := cell_all hr9 HBW9.out 3
          clear hr9
          have fa0 : ∀ o, (W9.alloc o).cell? ⟨w5.heap.size, 0, none⟩ = some (.string ⟨m.name.toArray⟩) := fun o => cell_all (HKW9.out.alloc o) HBW6.out 0
          have fa1 : ∀ o, (W9.alloc o).cell? ⟨w5.heap.size, 1, none⟩ = some (.slice oa5 m.attrs.length ca5) := fun o => cell_all (HKW9.out.alloc o) HBW6.out 1
          have fa2 : ∀ o, (W9.alloc o).cell? ⟨w5.heap.size, 2, none⟩ = some (.string ⟨m.text.toArray⟩) := fun o => cell_all (HKW9.out.alloc o) HBW6.out 2
          have fa3 : ∀ o, (W9.alloc o).cell? ⟨w5.heap.size, 3, none⟩ = some (.slice ok5 m.kids.length ck5) := fun o => cell_all (HKW9.out.alloc o) HBW6.out 3
          go_upto_region 15 with fail
          rw [HWW9.out]
          go_wp2_with fail
          have hky := ((Keeps.refl [] W9).alloc (.cells #[.string ⟨m.name.toArray⟩, .slice oa8 m.attrs.length ca8, .string ⟨m.text.toArray⟩, .slice ok8 m.kids.length ck8] 45)).alloc (.cells #[.string ⟨m.name.toArray⟩, .slice oa5 m.attrs.length ca5, .string ⟨m.text.toArray⟩, .slice ok5 m.kids.length ck5] 45)
          refine (same_one (two_fst W9 _ _) (HA9.out.keeps hky (fun _ _ => nn _)) (HN9.out.keeps0 hky) (two_snd W9 _ _) (HA6.out.keeps (HKW9.out.trans hky) (fun _ _ => nn _)) (HN6.out.keeps0 (HKW9.out.trans hky))).mono ?_
          rintro e wF ⟨rfl, nF, hwF⟩
          have HKF := hide (HK9.out.trans (hky.trans (keeps_eq hwF)))
          clear hwF hky fa0 fa1 fa2 fa3
          clear f0 f1 f2 f3
          clear g0 g1 g2 g3
          go_wp2_with fail
          go_ret
          exact ⟨rfl, HKF.out⟩
        · have hd : decide ((3000 : Int) < ((printX m).length : Int)) = true := by simp; omega
          clear hr hM hs hmb hl
          go_enter Tryz.func6, Tryz.ntmps6
          go_upto_region 1 with fail
          rw [HW.out]
          go_wp2_with fail
          refine (xb.out W HKW.out).mono ?_
          rintro e w1 ⟨rfl, hk1⟩
          have HK1 := hide (HKW.out.trans hk1)
          have hkA := hk1
          have b0 : w1.cell? ⟨w.heap.size, 0, none⟩ = some (.string ⟨n.name.toArray⟩) := cell_all hkA HB.out 0
          have b1 : w1.cell? ⟨w.heap.size, 1, none⟩ = some (.slice oa n.attrs.length ca) := cell_all hkA HB.out 1
          have b2 : w1.cell? ⟨w.heap.size, 2, none⟩ = some (.string ⟨n.text.toArray⟩) := cell_all hkA HB.out 2
          have b3 : w1.cell? ⟨w.heap.size, 3, none⟩ = some (.slice ok n.kids.length ck) := cell_all hkA HB.out 3
          go_wp2_with fail
          refine (pr1.out w1 HK1.out).mono ?_
          rintro e w2 ⟨rfl, hk2⟩
          have HK2 := hide (HK1.out.trans hk2)
          have HKW2 := hide (hkA.trans hk2)
          clear b0 b1 b2 b3
          clear hkA hk1 hk2
          obtain ⟨wE, hwE⟩ : ∃ wE, wE = w2 := ⟨_, rfl⟩
          subst hwE
          have HKE := HK2
          go_wp2_with fail
          refine (rdS.out wE HKE.out).mono ?_
          rintro e w5 ⟨⟨v5, rfl, hD5⟩, hk5⟩
          obtain ⟨oa5, ca5, ok5, ck5, rfl, hA5, hN5⟩ := hD5.parts
          obtain ⟨W6, hW6⟩ : ∃ W6, w5.alloc (.cells #[.string ⟨m.name.toArray⟩, .slice oa5 m.attrs.length ca5, .string ⟨m.text.toArray⟩, .slice ok5 m.kids.length ck5] 45) = W6 := ⟨_, rfl⟩
          have hkW6 : Keeps [] w5 W6 := by rw [← hW6]; exact (Keeps.refl [] w5).alloc _
          have HBW6 := hide (blk_new rfl hW6).1
          have HWW6 := hide hW6
          clear hW6
          have HK6 := hide ((HKE.out.trans hk5).trans hkW6)
          have HA6 := hide (((hA5.mono (Q := fun _ => True) (fun _ _ _ => trivial)).keeps hkW6 (fun _ _ => nn _)))
          have HN6 := hide (((hN5.mono (Q := fun _ => True) (fun _ _ _ => trivial)).keeps0 hkW6))
          have hp6 := hide (pr2.out W6 _ ⟨oa5, ca5, ok5, ck5, rfl, HA6.out, HN6.out⟩)
          clear hk5 hkW6 hA5 hN5 hD5
          have hr6 := Keeps.refl [] W6
          have f0 : W6.cell? ⟨w5.heap.size, 0, none⟩ = some (.string ⟨m.name.toArray⟩) := cell_all hr6 HBW6.out 0
          have f1 : W6.cell? ⟨w5.heap.size, 1, none⟩ = some (.slice oa5 m.attrs.length ca5) := cell_all hr6 HBW6.out 1
          have f2 : W6.cell? ⟨w5.heap.size, 2, none⟩ = some (.string ⟨m.text.toArray⟩) := cell_all hr6 HBW6.out 2
          have f3 : W6.cell? ⟨w5.heap.size, 3, none⟩ = some (.slice ok5 m.kids.length ck5) := cell_all hr6 HBW6.out 3
          clear hr6
          go_upto_region 9 with fail
          rw [HWW6.out]
          go_wp2_with fail
          refine hp6.out.mono ?_
          rintro e w7 ⟨rfl, hk7⟩
          have HK7 := hide (HK6.out.trans hk7)
          have HKW7 := hide hk7
          clear hk7
          clear f0 f1 f2 f3
          go_wp2_with fail
          go_ret
          exact ⟨rfl, HK7.out⟩
  · rw [if_neg hC] at pr1
    have hCb : (chkXml n == 0) = false := by simpa using hC
    generalize chkXml n = C at *
    clear hC
    cases hr : readX s with
    | error k =>
      have hk0 : (k != 0) = true := by have := readX_no hr; simpa using this
      have rdS := hide (fun (w1 : World) (hk : Keeps [] w w1) => (xmlRead_any s w1 (hM.keeps hk (nn _)) hs).mono (R' := fun e w' => e = .returned (.tuple #[zeroN, .int .i64 k]) ∧ Keeps [] w1 w') (fun e w' h => ⟨h.1.elim (fun ⟨n, v, h1, _⟩ => by rw [hr] at h1; cases h1) (fun ⟨k', h1, h2⟩ => by rw [hr] at h1; cases h1; exact h2), h.2⟩))
      unfold zeroN at rdS
      clear hr hM hs
      go_enter Tryz.func6, Tryz.ntmps6
      go_upto_region 1 with fail
      rw [HW.out]
      go_wp2_with fail
      refine (xb.out W HKW.out).mono ?_
      rintro e w1 ⟨rfl, hk1⟩
      have HK1 := hide (HKW.out.trans hk1)
      have hkA := hk1
      have b0 : w1.cell? ⟨w.heap.size, 0, none⟩ = some (.string ⟨n.name.toArray⟩) := cell_all hkA HB.out 0
      have b1 : w1.cell? ⟨w.heap.size, 1, none⟩ = some (.slice oa n.attrs.length ca) := cell_all hkA HB.out 1
      have b2 : w1.cell? ⟨w.heap.size, 2, none⟩ = some (.string ⟨n.text.toArray⟩) := cell_all hkA HB.out 2
      have b3 : w1.cell? ⟨w.heap.size, 3, none⟩ = some (.slice ok n.kids.length ck) := cell_all hkA HB.out 3
      go_wp2_with fail
      refine (pr1.out w1 HK1.out).mono ?_
      rintro e w2 ⟨rfl, hk2⟩
      have HK2 := hide (HK1.out.trans hk2)
      have HKW2 := hide (hkA.trans hk2)
      clear b0 b1 b2 b3
      clear hkA hk1 hk2
      obtain ⟨wE, hwE⟩ : ∃ wE, wE = w2 := ⟨_, rfl⟩
      subst hwE
      have HKE := HK2
      go_wp2_with fail
      refine (rdS.out wE HKE.out).mono ?_
      rintro e w5 ⟨rfl, hk5⟩
      have HK5 := hide (HKE.out.trans hk5)
      clear hk5
      go_wp2_with fail
      go_ret
      exact ⟨rfl, HK5.out.alloc _⟩
    | ok m =>
      have hmb := readX_bulk hr
      have rdS := hide (fun (w1 : World) (hk : Keeps [] w w1) => (xmlRead_any s w1 (hM.keeps hk (nn _)) hs).mono (R' := fun e w' => (∃ v, e = .returned (.tuple #[v, .int .i64 0]) ∧ DocOut w1 m v w') ∧ Keeps [] w1 w') (fun e w' h => ⟨h.1.elim (fun ⟨n, v, h1, h2⟩ => by rw [hr] at h1; cases h1; exact ⟨v, h2⟩) (fun ⟨k', h1, h2⟩ => by rw [hr] at h1; cases h1), h.2⟩))
      have pr2 := hide (fun (w1 : World) (v : Value) (hV : NdVal w1 (fun _ => True) m v) => xmlPrint_any w1 _ m v hV (by omega))
      rw [hmb.2.1, if_pos rfl] at pr2
      have hpl := printX_len m
      have hsz2 := str_size (printX m)
      by_cases hl : (printX m).length ≤ 3000
      · have hd : decide ((3000 : Int) < ((printX m).length : Int)) = false := by simp; omega
        have rd2 := hide (fun (w1 : World) (hk : Keeps [] w w1) => (xmlRead_any (printX m) w1 (hM.keeps hk (nn _)) (by unfold maxLen; omega)).mono (R' := fun e w' => (∃ v, e = .returned (.tuple #[v, .int .i64 0]) ∧ DocOut w1 m v w') ∧ Keeps [] w1 w') (fun e w' h => ⟨h.1.elim (fun ⟨n, v, h1, h2⟩ => by rw [readX_print hmb.2.1 hl] at h1; cases h1; exact ⟨v, h2⟩) (fun ⟨k', h1, h2⟩ => by rw [readX_print hmb.2.1 hl] at h1; cases h1), h.2⟩))
        clear hr hM hs hmb hl
        go_enter Tryz.func6, Tryz.ntmps6
        go_upto_region 1 with fail
        rw [HW.out]
        go_wp2_with fail
        refine (xb.out W HKW.out).mono ?_
        rintro e w1 ⟨rfl, hk1⟩
        have HK1 := hide (HKW.out.trans hk1)
        have hkA := hk1
        have b0 : w1.cell? ⟨w.heap.size, 0, none⟩ = some (.string ⟨n.name.toArray⟩) := cell_all hkA HB.out 0
        have b1 : w1.cell? ⟨w.heap.size, 1, none⟩ = some (.slice oa n.attrs.length ca) := cell_all hkA HB.out 1
        have b2 : w1.cell? ⟨w.heap.size, 2, none⟩ = some (.string ⟨n.text.toArray⟩) := cell_all hkA HB.out 2
        have b3 : w1.cell? ⟨w.heap.size, 3, none⟩ = some (.slice ok n.kids.length ck) := cell_all hkA HB.out 3
        go_wp2_with fail
        refine (pr1.out w1 HK1.out).mono ?_
        rintro e w2 ⟨rfl, hk2⟩
        have HK2 := hide (HK1.out.trans hk2)
        have HKW2 := hide (hkA.trans hk2)
        clear b0 b1 b2 b3
        clear hkA hk1 hk2
        obtain ⟨wE, hwE⟩ : ∃ wE, wE = w2 := ⟨_, rfl⟩
        subst hwE
        have HKE := HK2
        go_wp2_with fail
        refine (rdS.out wE HKE.out).mono ?_
        rintro e w5 ⟨⟨v5, rfl, hD5⟩, hk5⟩
        obtain ⟨oa5, ca5, ok5, ck5, rfl, hA5, hN5⟩ := hD5.parts
        obtain ⟨W6, hW6⟩ : ∃ W6, w5.alloc (.cells #[.string ⟨m.name.toArray⟩, .slice oa5 m.attrs.length ca5, .string ⟨m.text.toArray⟩, .slice ok5 m.kids.length ck5] 45) = W6 := ⟨_, rfl⟩
        have hkW6 : Keeps [] w5 W6 := by rw [← hW6]; exact (Keeps.refl [] w5).alloc _
        have HBW6 := hide (blk_new rfl hW6).1
        have HWW6 := hide hW6
        clear hW6
        have HK6 := hide ((HKE.out.trans hk5).trans hkW6)
        have HA6 := hide (((hA5.mono (Q := fun _ => True) (fun _ _ _ => trivial)).keeps hkW6 (fun _ _ => nn _)))
        have HN6 := hide (((hN5.mono (Q := fun _ => True) (fun _ _ _ => trivial)).keeps0 hkW6))
        have hp6 := hide (pr2.out W6 _ ⟨oa5, ca5, ok5, ck5, rfl, HA6.out, HN6.out⟩)
        clear hk5 hkW6 hA5 hN5 hD5
        have hr6 := Keeps.refl [] W6
        have f0 : W6.cell? ⟨w5.heap.size, 0, none⟩ = some (.string ⟨m.name.toArray⟩) := cell_all hr6 HBW6.out 0
        have f1 : W6.cell? ⟨w5.heap.size, 1, none⟩ = some (.slice oa5 m.attrs.length ca5) := cell_all hr6 HBW6.out 1
        have f2 : W6.cell? ⟨w5.heap.size, 2, none⟩ = some (.string ⟨m.text.toArray⟩) := cell_all hr6 HBW6.out 2
        have f3 : W6.cell? ⟨w5.heap.size, 3, none⟩ = some (.slice ok5 m.kids.length ck5) := cell_all hr6 HBW6.out 3
        clear hr6
        go_upto_region 9 with fail
        rw [HWW6.out]
        go_wp2_with fail
        refine hp6.out.mono ?_
        rintro e w7 ⟨rfl, hk7⟩
        have HK7 := hide (HK6.out.trans hk7)
        have HKW7 := hide hk7
        clear hk7
        clear f0 f1 f2 f3
        go_wp2_with fail
        refine (rd2.out w7 HK7.out).mono ?_
        rintro e w8 ⟨⟨v8, rfl, hD8⟩, hk8⟩
        obtain ⟨oa8, ca8, ok8, ck8, rfl, hA8, hN8⟩ := hD8.parts
        obtain ⟨W9, hW9⟩ : ∃ W9, w8.alloc (.cells #[.string ⟨m.name.toArray⟩, .slice oa8 m.attrs.length ca8, .string ⟨m.text.toArray⟩, .slice ok8 m.kids.length ck8] 45) = W9 := ⟨_, rfl⟩
        have hkW9 : Keeps [] w8 W9 := by rw [← hW9]; exact (Keeps.refl [] w8).alloc _
        have HBW9 := hide (blk_new rfl hW9).1
        have HWW9 := hide hW9
        clear hW9
        have HK9 := hide ((HK7.out.trans hk8).trans hkW9)
        have HKW9 := hide ((HKW7.out.trans hk8).trans hkW9)
        have HA9 := hide (((hA8.mono (Q := fun _ => True) (fun _ _ _ => trivial)).keeps hkW9 (fun _ _ => nn _)))
        have HN9 := hide (((hN8.mono (Q := fun _ => True) (fun _ _ _ => trivial)).keeps0 hkW9))
        clear hk8 hkW9 hA8 hN8 hD8
        have f0 : W9.cell? ⟨w5.heap.size, 0, none⟩ = some (.string ⟨m.name.toArray⟩) := cell_all HKW9.out HBW6.out 0
        have f1 : W9.cell? ⟨w5.heap.size, 1, none⟩ = some (.slice oa5 m.attrs.length ca5) := cell_all HKW9.out HBW6.out 1
        have f2 : W9.cell? ⟨w5.heap.size, 2, none⟩ = some (.string ⟨m.text.toArray⟩) := cell_all HKW9.out HBW6.out 2
        have f3 : W9.cell? ⟨w5.heap.size, 3, none⟩ = some (.slice ok5 m.kids.length ck5) := cell_all HKW9.out HBW6.out 3
        have hr9 := Keeps.refl [] W9
        have g0 : W9.cell? ⟨w8.heap.size, 0, none⟩ = some (.string ⟨m.name.toArray⟩) := cell_all hr9 HBW9.out 0
        have g1 : W9.cell? ⟨w8.heap.size, 1, none⟩ = some (.slice oa8 m.attrs.length ca8) := cell_all hr9 HBW9.out 1
        have g2 : W9.cell? ⟨w8.heap.size, 2, none⟩ = some (.string ⟨m.text.toArray⟩) := cell_all hr9 HBW9.out 2
        have g3 : W9.cell? ⟨w8.heap.size, 3, none⟩ = some (.slice ok8 m.kids.length ck8) := cell_all hr9 HBW9.out 3
        clear hr9
        have fa0 : ∀ o, (W9.alloc o).cell? ⟨w5.heap.size, 0, none⟩ = some (.string ⟨m.name.toArray⟩) := fun o => cell_all (HKW9.out.alloc o) HBW6.out 0
        have fa1 : ∀ o, (W9.alloc o).cell? ⟨w5.heap.size, 1, none⟩ = some (.slice oa5 m.attrs.length ca5) := fun o => cell_all (HKW9.out.alloc o) HBW6.out 1
        have fa2 : ∀ o, (W9.alloc o).cell? ⟨w5.heap.size, 2, none⟩ = some (.string ⟨m.text.toArray⟩) := fun o => cell_all (HKW9.out.alloc o) HBW6.out 2
        have fa3 : ∀ o, (W9.alloc o).cell? ⟨w5.heap.size, 3, none⟩ = some (.slice ok5 m.kids.length ck5) := fun o => cell_all (HKW9.out.alloc o) HBW6.out 3
        go_upto_region 15 with fail
        rw [HWW9.out]
        go_wp2_with fail
        have hky := ((Keeps.refl [] W9).alloc (.cells #[.string ⟨m.name.toArray⟩, .slice oa8 m.attrs.length ca8, .string ⟨m.text.toArray⟩, .slice ok8 m.kids.length ck8] 45)).alloc (.cells #[.string ⟨m.name.toArray⟩, .slice oa5 m.attrs.length ca5, .string ⟨m.text.toArray⟩, .slice ok5 m.kids.length ck5] 45)
        refine (same_one (two_fst W9 _ _) (HA9.out.keeps hky (fun _ _ => nn _)) (HN9.out.keeps0 hky) (two_snd W9 _ _) (HA6.out.keeps (HKW9.out.trans hky) (fun _ _ => nn _)) (HN6.out.keeps0 (HKW9.out.trans hky))).mono ?_
        rintro e wF ⟨rfl, nF, hwF⟩
        have HKF := hide (HK9.out.trans (hky.trans (keeps_eq hwF)))
        clear hwF hky fa0 fa1 fa2 fa3
        clear f0 f1 f2 f3
        clear g0 g1 g2 g3
        go_wp2_with fail
        go_ret
        exact ⟨rfl, HKF.out⟩
      · have hd : decide ((3000 : Int) < ((printX m).length : Int)) = true := by simp; omega
        clear hr hM hs hmb hl
        go_enter Tryz.func6, Tryz.ntmps6
        go_upto_region 1 with fail
        rw [HW.out]
        go_wp2_with fail
        refine (xb.out W HKW.out).mono ?_
        rintro e w1 ⟨rfl, hk1⟩
        have HK1 := hide (HKW.out.trans hk1)
        have hkA := hk1
        have b0 : w1.cell? ⟨w.heap.size, 0, none⟩ = some (.string ⟨n.name.toArray⟩) := cell_all hkA HB.out 0
        have b1 : w1.cell? ⟨w.heap.size, 1, none⟩ = some (.slice oa n.attrs.length ca) := cell_all hkA HB.out 1
        have b2 : w1.cell? ⟨w.heap.size, 2, none⟩ = some (.string ⟨n.text.toArray⟩) := cell_all hkA HB.out 2
        have b3 : w1.cell? ⟨w.heap.size, 3, none⟩ = some (.slice ok n.kids.length ck) := cell_all hkA HB.out 3
        go_wp2_with fail
        refine (pr1.out w1 HK1.out).mono ?_
        rintro e w2 ⟨rfl, hk2⟩
        have HK2 := hide (HK1.out.trans hk2)
        have HKW2 := hide (hkA.trans hk2)
        clear b0 b1 b2 b3
        clear hkA hk1 hk2
        obtain ⟨wE, hwE⟩ : ∃ wE, wE = w2 := ⟨_, rfl⟩
        subst hwE
        have HKE := HK2
        go_wp2_with fail
        refine (rdS.out wE HKE.out).mono ?_
        rintro e w5 ⟨⟨v5, rfl, hD5⟩, hk5⟩
        obtain ⟨oa5, ca5, ok5, ck5, rfl, hA5, hN5⟩ := hD5.parts
        obtain ⟨W6, hW6⟩ : ∃ W6, w5.alloc (.cells #[.string ⟨m.name.toArray⟩, .slice oa5 m.attrs.length ca5, .string ⟨m.text.toArray⟩, .slice ok5 m.kids.length ck5] 45) = W6 := ⟨_, rfl⟩
        have hkW6 : Keeps [] w5 W6 := by rw [← hW6]; exact (Keeps.refl [] w5).alloc _
        have HBW6 := hide (blk_new rfl hW6).1
        have HWW6 := hide hW6
        clear hW6
        have HK6 := hide ((HKE.out.trans hk5).trans hkW6)
        have HA6 := hide (((hA5.mono (Q := fun _ => True) (fun _ _ _ => trivial)).keeps hkW6 (fun _ _ => nn _)))
        have HN6 := hide (((hN5.mono (Q := fun _ => True) (fun _ _ _ => trivial)).keeps0 hkW6))
        have hp6 := hide (pr2.out W6 _ ⟨oa5, ca5, ok5, ck5, rfl, HA6.out, HN6.out⟩)
        clear hk5 hkW6 hA5 hN5 hD5
        have hr6 := Keeps.refl [] W6
        have f0 : W6.cell? ⟨w5.heap.size, 0, none⟩ = some (.string ⟨m.name.toArray⟩) := cell_all hr6 HBW6.out 0
        have f1 : W6.cell? ⟨w5.heap.size, 1, none⟩ = some (.slice oa5 m.attrs.length ca5) := cell_all hr6 HBW6.out 1
        have f2 : W6.cell? ⟨w5.heap.size, 2, none⟩ = some (.string ⟨m.text.toArray⟩) := cell_all hr6 HBW6.out 2
        have f3 : W6.cell? ⟨w5.heap.size, 3, none⟩ = some (.slice ok5 m.kids.length ck5) := cell_all hr6 HBW6.out 3
        clear hr6
        go_upto_region 9 with fail
        rw [HWW6.out]
        go_wp2_with fail
        refine hp6.out.mono ?_
        rintro e w7 ⟨rfl, hk7⟩
        have HK7 := hide (HK6.out.trans hk7)
        have HKW7 := hide hk7
        clear hk7
        clear f0 f1 f2 f3
        go_wp2_with fail
        go_ret
        exact ⟨rfl, HK7.out⟩
end Go.Proofs.YtlcljanibjdejaaGreat
namespace Go.Proofs.YtlcljanibjdejaaGreat
open Go.RowKit Go.Maps Go.Deep
theorem cell_lt {w : World} {a : Addr} {u : Value} (h : w.cell? a = some u) : a.block < w.heap.size := by
  rcases Nat.lt_or_ge a.block w.heap.size with h' | h'
  · exact h'
  · unfold World.cell? at h
    rw [Array.getElem?_eq_none h'] at h
    simp at h
theorem liesP_of {w : World} {v : Value} {n z : Nat} {xs : List Value} (h : Lies w v n z xs) (hz : 0 < z) : LiesP w (fun _ => True) v n z xs := by
  refine ⟨h.1, ?_⟩
  rcases h.2 with ⟨e, h0⟩ | ⟨g, o, c, e, h1, h2, h3⟩ | ⟨h0, a, c, e, h1⟩
  · exact .inl ⟨h0, none, 0, e, by simp [maxLen]⟩
  · by_cases h0 : n = 0
    · subst h0
      exact .inl ⟨rfl, _, c, e, h2⟩
    · have hpos : 0 < xs.length := by rw [h.1]; exact Nat.mul_pos (by omega) hz
      exact .inr ⟨g, o, c, e, h1, h2, cell_lt (h3 0 _ (List.getElem?_eq_getElem hpos)), trivial, h3⟩
  · exact .inl ⟨h0, a, c, e, h1⟩
section
variable {H : Type} {enc : TypeId × Value → H} {w : World} {base : Nat} {spare : Nat → Bool} {held : Bool}
set_option maxRecDepth 8000 in
theorem nodes_down : ∀ (B n : Nat) (v : Value) (x : DataW H × List MemPlace), Rows.uptoBulk x.1 ≤ B → DataW.trod enc Tryz.prog w base spare held n 29 [v] = some x → ∃ ns : List Nd, Ns w (fun _ => True) v ns ∧ bulkNs ns ≤ Rows.uptoBulk x.1 := by
  intro B
  induction B with
  | zero =>
    intro n v x hB h
    rcases open_slice Tryz.underlying29 h with ⟨hv, hx⟩ | ⟨a, len, cap, m, n', D, Pl, hv, _, hl, hm, hmm, hx, _⟩
    · rw [hx] at hB; simp [Rows.uptoBulk] at hB
    · rw [hx] at hB; simp [Rows.uptoBulk] at hB
  | succ B ihB =>
  intro n v x hB h
  rcases open_slice Tryz.underlying29 h with ⟨hv, _⟩ | ⟨a, len, cap, m, n', D, Pl, hv, _, hl, hm, hmm, rfl, hx⟩
  · simp at hv
    subst hv
    exact ⟨[], Ns.nil _ _ none 0 (by simp [maxLen]), by simp [bulkNs]⟩
  · simp at hv
    subst hv
    have hlm : len ≤ m := by rw [hmm]; split <;> omega
    have ce : Tryz.prog.cellsOf 45 = 4 := by kernel_rfl
    have c9 : Tryz.prog.cellsOf 9 = 1 := by kernel_rfl
    have c46 : Tryz.prog.cellsOf 43 = 1 := by kernel_rfl
    have c23 : Tryz.prog.cellsOf 29 = 1 := by kernel_rfl
    have hBD : ∀ i, i < len → Rows.uptoBulk (D i) ≤ B := by
      intro i hi
      simp only [Rows.uptoBulk] at hB
      have hs : ∀ (r : List Nat), i ∈ r → Rows.uptoBulk (D i) ≤ Rows.uptoBulkAll (r.map D) := fun r => by
        induction r with
        | nil => simp
        | cons j r ih =>
          intro hr
          simp only [List.map_cons, Rows.uptoBulkAll]
          rcases List.mem_cons.1 hr with rfl | hr
          · omega
          · have := ih hr; omega
      have := hs (List.range len) (List.mem_range.2 hi)
      omega
    have each : ∀ i, i < len → ∃ q : Pn, (∀ r, r < 4 → w.cell? (a.add (i * 4 + r)) = (pnCells q)[r]?) ∧ Lies w q.av q.nd.attrs.length 2 (pairCells q.nd.attrs) ∧ Ns w (fun _ => True) q.kv q.nd.kids ∧ bulkNs [q.nd] ≤ Rows.uptoBulk (D i) := by
      intro i hi
      have hBi := hBD i hi
      obtain ⟨cs', h1, h2⟩ := hx i (by omega)
      rw [ce] at h1
      obtain ⟨_, hlen, hcell⟩ := World.cells?_some h1
      obtain ⟨xs, k, hk, hxy, _, hxl, hf⟩ := DataW.trod_struct Tryz.underlying45 h2
      have hxl4 : xs.length = 4 := hxl
      clear hxl
      obtain ⟨y0, y1, y2, y3, rfl⟩ := four hxl4
      obtain ⟨v0, v1, v2, v3, rfl⟩ := four hlen
      have g0 := hf 0 _ rfl
      have g1 := hf 1 _ rfl
      have g2 := hf 2 _ rfl
      have g3 := hf 3 _ rfl
      simp [c9, c46, c23] at g0 g1 g2 g3
      obtain ⟨s0, e0, f0, _⟩ := DataW.trod_string Tryz.underlying9 g0
      obtain ⟨s2, e2, f2, _⟩ := DataW.trod_string Tryz.underlying9 g2
      obtain ⟨la, hla, hbl⟩ := attrs_down g1
      simp only [Prod.mk.injEq] at hxy
      rw [hxy.1] at hBi ⊢
      simp at e0 e2
      subst e0 e2 f0 f2
      simp only [List.map_cons, List.map_nil, Rows.uptoBulk, Rows.uptoBulkAll] at hBi ⊢
      obtain ⟨ks, hks, hbk⟩ := ihB _ _ _ (by omega) g3
      refine ⟨⟨.mk s0.data.toList la s2.data.toList ks, v1, v3⟩, ?_, hla, hks, ?_⟩
      · intro r hr
        have hc := hcell r hr
        rw [add_add] at hc
        rw [hc]
        match r, hr with
        | 0, _ => simp [pnCells, Nd.name]
        | 1, _ => rfl
        | 2, _ => simp [pnCells, Nd.text]
        | 3, _ => rfl
      · rw [bulkNs, bulkNs]
        simp
        omega
    haveI : Inhabited Pn := ⟨⟨.mk [] [] [] [], .nilIface, .nilIface⟩⟩
    obtain ⟨q, hq⟩ := choose_lt each
    refine ⟨((List.range len).map q).map Pn.nd, .mk _ ((List.range len).map q) _ rfl (liesP_of ?_ (by decide)) (fun p hp => ?_) (fun p hp => ?_), ?_⟩
    · rw [List.length_map, List.length_range]
      refine lies_of (by decide) hl hm (by rw [pnsCells_len]; simp) fun j u hj => ?_
      have hj2 : j < len * 4 := by
        have := (List.getElem?_eq_some_iff.1 hj).1
        rw [pnsCells_len] at this
        simpa using this
      have hi : j / 4 < ((List.range len).map q).length := by simp; omega
      have hi' : j / 4 < len := by omega
      have hel : ((List.range len).map q)[j / 4] = q (j / 4) := by simp
      have h8 := pn_at ((List.range len).map q) (j / 4) (j % 4) hi (by omega)
      rw [show j / 4 * 4 + j % 4 = j from by omega, hj, hel] at h8
      have h9 := (hq (j / 4) hi').1 (j % 4) (by omega)
      rw [show j / 4 * 4 + j % 4 = j from by omega] at h9
      rw [h9, ← h8]
    · obtain ⟨i, hi, rfl⟩ := List.mem_map.1 hp
      exact liesP_of (hq i (List.mem_range.1 hi)).2.1 (by decide)
    · obtain ⟨i, hi, rfl⟩ := List.mem_map.1 hp
      exact (hq i (List.mem_range.1 hi)).2.2.1
    · simp only [Rows.uptoBulk]
      have hs : ∀ (r : List Nat), (∀ i ∈ r, i < len) → bulkNs ((r.map q).map Pn.nd) ≤ Rows.uptoBulkAll (r.map D) := fun r => by
        induction r with
        | nil => simp [bulkNs]
        | cons i r ih =>
          intro hr
          have h1 := ih (fun k hk => hr k (by simp [hk]))
          have h2 := (hq i (hr i (by simp))).2.2.2
          rw [bulkNs_cons, bulkNs] at h2
          simp only [List.map_cons, Rows.uptoBulkAll]
          rw [bulkNs_cons]
          omega
      have := hs (List.range len) (fun i hi => List.mem_range.1 hi)
      omega
end
end Go.Proofs.YtlcljanibjdejaaGreat
namespace Go.Proofs.YtlcljanibjdejaaGreat
open Go.RowKit Go.Maps Go.Deep
open Go.ChangeShapes Go.WideShapes Go.ChangeAt
section
variable {H : Type} {enc : TypeId × Value → H} {w : World} {base : Nat} {spare : Nat → Bool} {held : Bool}
set_option maxRecDepth 8000 in
theorem node_arg {v : Value} {d : DataW H} {p : List MemPlace} {fuel : Nat} {b0 : Nat} {r : Reach} (h45 : Value.okWide Tryz.prog w r b0 45 v) (h : DataW.trod enc Tryz.prog w base spare held fuel 45 v.cells.toList = some (d, p)) :
    ∃ n : Nd, NdVal w (fun _ => True) n v ∧ bulkNs [n] ≤ Rows.uptoBulk d := by
  obtain ⟨cs, rfl, hcs⟩ := okWide_struct Tryz.underlying45 h45
  have ce : Tryz.prog.cellsOf 45 = 4 := by kernel_rfl
  have c9 : Tryz.prog.cellsOf 9 = 1 := by kernel_rfl
  have c46 : Tryz.prog.cellsOf 43 = 1 := by kernel_rfl
  have c23 : Tryz.prog.cellsOf 29 = 1 := by kernel_rfl
  rw [ce] at hcs
  obtain ⟨L, rfl⟩ : ∃ L : List Value, cs = L.toArray := ⟨cs.toList, by simp⟩
  have hlen : L.length = 4 := by simpa using hcs
  obtain ⟨v0, v1, v2, v3, rfl⟩ := four hlen
  obtain ⟨xs, k, hk, hxy, _, hxl, hf⟩ := DataW.trod_struct Tryz.underlying45 h
  have hxl4 : xs.length = 4 := hxl
  clear hxl
  obtain ⟨y0, y1, y2, y3, rfl⟩ := four hxl4
  have g0 := hf 0 _ rfl
  have g1 := hf 1 _ rfl
  have g2 := hf 2 _ rfl
  have g3 := hf 3 _ rfl
  simp [c9, c46, c23, Value.cells] at g0 g1 g2 g3
  obtain ⟨s0, e0, f0, _⟩ := DataW.trod_string Tryz.underlying9 g0
  obtain ⟨s2, e2, f2, _⟩ := DataW.trod_string Tryz.underlying9 g2
  obtain ⟨la, hla, hbl⟩ := attrs_down g1
  simp only [Prod.mk.injEq] at hxy
  simp at e0 e2
  subst e0 e2
  obtain ⟨ks, hks, hbk⟩ := nodes_down _ _ _ _ (Nat.le_refl _) g3
  obtain ⟨oa, ca, rfl, _⟩ := hla.form
  obtain ⟨ok, ck, rfl⟩ := hks.form
  refine ⟨.mk s0.data.toList la s2.data.toList ks, ⟨oa, ca, ok, ck, ?_, liesP_of hla (by decide), hks⟩, ?_⟩
  · simp [Nd.name, Nd.attrs, Nd.text, Nd.kids]
  · rw [hxy.1, f0, f2, bulkNs, bulkNs]
    simp only [List.map_cons, List.map_nil, Rows.uptoBulk, Rows.uptoBulkAll]
    omega
end
end Go.Proofs.YtlcljanibjdejaaGreat
