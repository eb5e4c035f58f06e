/- attrsAt of the document's answer. -/
import Derived.Test.YtaeblkmkpfklkaaRefA
import Derived.Test.YtaeblkmkpfklkaaTakeOf
import Derived.Test.YtaeblkmkpfklkaaSame
import Derived.Deep.DeepCutAuto
import Derived.Deep.CutBlock
namespace Go.Proofs.Ytaeblkmkpfklkaa
open Go.RowKit Go.Maps

theorem byte_ne {c d : UInt8} {k : Int} (hd : (d.toNat : Int) = k) (h : c ≠ d) : ((c.toNat : Int) != k) = true := by
  have := byte_no hd h
  simp only [bne, this]
  rfl

set_option maxRecDepth 4000 in
set_option maxHeartbeats 16000000 in
theorem attrsAtR_any (s : ByteArray) (k0 : Nat) (w : World) (hs : s.size ≤ 3000) (hk0 : k0 ≤ s.size) :
    Calls Try.prog 45 #[.string s, .int .i64 k0] w fun e w' =>
      ((∃ l k' v, attrsAt s.data.toList (s.size + 1) k0 [] = some (l, k') ∧ e = .returned (.tuple #[v, .int .i64 (k' + 1 : Nat)]) ∧ w'.ownsRow w.heap.size 87 2 v l.length (pairCells l) ∧ l.length ≤ k' ∧ k' < s.size) ∨
       (attrsAt s.data.toList (s.size + 1) k0 [] = none ∧ e = .returned (.tuple #[.slice none 0 0, .int .i64 (-1)]))) ∧ Keeps [] w w' := by
  have hl := len_size s
  obtain ⟨R, hRR⟩ : ∃ R, attrsAt s.data.toList (s.size + 1) k0 [] = R := ⟨_, rfl⟩
  rw [hRR]
  have HR0 := hide hRR
  clear hRR
  obtain ⟨i0, hi, hz0, hz1, hz2⟩ := info_parts info88
  go_enter Try.func45, Try.ntmps45
  go_wp2_with fail
  go_loopg [1, 6] (s.size + 1) (fun g i v wr => ∃ (k : Nat) (acc : List Pair), k ≤ s.size ∧ s.size + 1 ≤ g + k ∧ i = .int .i64 k ∧ wr.ownsRow w.heap.size 87 2 v acc.length (pairCells acc) ∧ Keeps [] w wr ∧ acc.length ≤ k ∧ Hid (attrsAt s.data.toList g k acc = R))
  case atStart => exact ⟨k0, [], hk0, by omega, rfl, ⟨rfl, .inl ⟨rfl, rfl⟩⟩, Keeps.refl _ _, Nat.zero_le _, HR0⟩
  case round =>
    obtain ⟨k, acc, hk, hg, rfl, ho, hkp, hal, hF⟩ := hrel
    clear HR0
    obtain ⟨f, rfl⟩ : ∃ f, gk = f + 1 := ⟨gk - 1, by omega⟩
    obtain ⟨oo, oc, rfl⟩ := row_form' ho
    generalize wr = W at *
    have hk1a := runTo_ge skipB s k
    have hk1b := runTo_le skipB hk
    obtain ⟨k1, hk1⟩ : ∃ k1, runTo skipB s k = k1 := ⟨_, rfl⟩
    rw [hk1] at hk1a hk1b
    have HK1 := hide hk1
    clear hk1
    go_upto_block 2 with fail
    go_cut [1] (fun s1 wx => s1 = .int .i64 k1 ∧ W = wx)
    case first => as_aux_lemma =>
      go_wp2_with fail
      go_loopw [1] (fun i wq => ∃ j : Nat, j ≤ s.size ∧ i = .int .i64 j ∧ W = wq ∧ Hid (runTo skipB s j = k1)) (fun i _ => s.size - (intOf i).toNat)
      case atStart => exact ⟨k, hk, by go_num, rfl, HK1⟩
      case round =>
        obtain ⟨j, hj, rfl, rfl, hH⟩ := hrel
        by_cases hlt : j < s.size
        · have hw := hide (fun w => isWhite_any s[j] w)
          have hb256 : s[j].toNat < 256 := UInt8.toNat_lt s[j]
          cases hwb : whiteB s[j]
          · rw [hwb] at hw
            by_cases h47 : s[j] = 47
            · have e47 : ((s[j].toNat : Int) == 47) = true := by rw [h47]; rfl
              have hH2 : Hid (runTo skipB s (j + 1) = k1) := by rw [← hH.out]; exact (runTo_step hlt (by rw [h47]; rfl)).symm
              clear hH hwb h47
              go_wp2_with (go_at_call 43; refine (hw.out _).mono ?_; rintro e w9 ⟨rfl, rfl⟩)
              go_roundw
              case rel => exact ⟨j + 1, by omega, by go_num, by first | rfl | trivial, hH2⟩
              case measure => simp [intOf]; omega
            · have e47 : ((s[j].toNat : Int) == 47) = false := byte_no (d := 47) rfl h47
              have hjt : Hid (j = k1) := by rw [Hid, ← hH.out]; exact (runTo_stop hlt (by simp [skipB, hwb, h47])).symm
              clear hH hwb h47
              go_wp2_with (go_at_call 43; refine (hw.out _).mono ?_; rintro e w9 ⟨rfl, rfl⟩)
              go_meet
              case rel => exact ⟨by rw [hjt.out], by first | rfl | trivial⟩
          · rw [hwb] at hw
            have hH2 : Hid (runTo skipB s (j + 1) = k1) := by rw [← hH.out]; exact (runTo_step hlt (by simp [skipB, hwb])).symm
            clear hH hwb
            go_wp2_with (go_at_call 43; refine (hw.out _).mono ?_; rintro e w9 ⟨rfl, rfl⟩)
            go_roundw
            case rel => exact ⟨j + 1, by omega, by go_num, by first | rfl | trivial, hH2⟩
            case measure => simp [intOf]; omega
        · have hjt : Hid (j = k1) := by rw [Hid, ← hH.out]; exact (runTo_end (by omega)).symm
          clear hH
          go_wp2_with fail
          go_meet
          case rel => exact ⟨by rw [hjt.out], by first | rfl | trivial⟩
    case rest =>
      obtain ⟨rfl, hwc⟩ := hcut
      subst hwc
      by_cases hend : s.size ≤ k1
      · have hRn := round_end hF.out HK1.out hend
        have HRn := hide hRn
        have hbe : ((k1 : Int) == (s.size : Int)) = true := by simp; omega
        clear hF HK1 hRn
        go_wp2_with fail
        go_ret2
        exact ⟨.inr ⟨HRn.out, rfl⟩, hkp⟩
      · have hlt : k1 < s.size := by omega
        have hbe : ((k1 : Int) == (s.size : Int)) = false := by simp; omega
        by_cases hgt : s[k1] = 62
        · have e62 : ((s[k1].toNat : Int) == 62) = true := by rw [hgt]; rfl
          have hRs := round_gt hF.out HK1.out hlt hgt
          have HRs := hide hRs
          clear hF HK1 hgt hRs
          go_wp2_with fail
          go_ret2
          exact ⟨.inl ⟨acc, k1, _, HRs.out, rfl, ho, by omega, hlt⟩, hkp⟩
        · have e62 : ((s[k1].toNat : Int) == 62) = false := byte_no (d := 62) rfl hgt
          have HR := hide (round_attr hF.out HK1.out hlt hgt)
          have hkk : k ≤ k1 := hk1a
          clear hF HK1 hgt
          have hk2a := runTo_ge attrN s (k1 + 1)
          have hk2b := runTo_le attrN (s := s) (k := k1 + 1) (by omega)
          obtain ⟨k2, hk2⟩ : ∃ k2, runTo attrN s (k1 + 1) = k2 := ⟨_, rfl⟩
          rw [hk2] at hk2a hk2b
          have HK2 := hide hk2
          clear hk2
          go_upto_block 4 with fail
          go_cut [1] (fun s1 wx => s1 = .int .i64 k2 ∧ W = wx)
          case first => as_aux_lemma =>
            go_wp2_with fail
            go_loopw [1] (fun i wq => ∃ j : Nat, j ≤ s.size ∧ i = .int .i64 j ∧ W = wq ∧ Hid (runTo attrN s j = k2)) (fun i _ => s.size - (intOf i).toNat)
            case atStart => exact ⟨k1 + 1, by omega, by go_num, rfl, HK2⟩
            case round =>
              obtain ⟨j, hj, rfl, rfl, hH⟩ := hrel
              by_cases hlt : j < s.size
              · have hw := hide (fun w => isWhite_any s[j] w)
                have hb256 : s[j].toNat < 256 := UInt8.toNat_lt s[j]
                cases hwb : whiteB s[j]
                · rw [hwb] at hw
                  by_cases h47 : s[j] = 47
                  · have e47 : ((s[j].toNat : Int) != 47) = false := by rw [h47]; rfl
                    have hjt : Hid (j = k2) := by rw [Hid, ← hH.out]; exact (runTo_stop hlt (by rw [h47]; rfl)).symm
                    clear hH hwb h47
                    go_wp2_with (go_at_call 43; refine (hw.out _).mono ?_; rintro e w9 ⟨rfl, rfl⟩)
                    go_meet
                    case rel => exact ⟨by rw [hjt.out], by first | rfl | trivial⟩
                  · have e47 : ((s[j].toNat : Int) != 47) = true := byte_ne (d := 47) rfl h47
                    by_cases h62 : s[j] = 62
                    · have e62 : ((s[j].toNat : Int) != 62) = false := by rw [h62]; rfl
                      have hjt : Hid (j = k2) := by rw [Hid, ← hH.out]; exact (runTo_stop hlt (by rw [h62]; rfl)).symm
                      clear hH hwb h47 h62
                      go_wp2_with (go_at_call 43; refine (hw.out _).mono ?_; rintro e w9 ⟨rfl, rfl⟩)
                      go_meet
                      case rel => exact ⟨by rw [hjt.out], by first | rfl | trivial⟩
                    · have e62 : ((s[j].toNat : Int) != 62) = true := byte_ne (d := 62) rfl h62
                      by_cases h61 : s[j] = 61
                      · have e61 : ((s[j].toNat : Int) != 61) = false := by rw [h61]; rfl
                        have hjt : Hid (j = k2) := by rw [Hid, ← hH.out]; exact (runTo_stop hlt (by rw [h61]; rfl)).symm
                        clear hH hwb h47 h62 h61
                        go_wp2_with (go_at_call 43; refine (hw.out _).mono ?_; rintro e w9 ⟨rfl, rfl⟩)
                        go_meet
                        case rel => exact ⟨by rw [hjt.out], by first | rfl | trivial⟩
                      · have e61 : ((s[j].toNat : Int) != 61) = true := byte_ne (d := 61) rfl h61
                        have hH2 : Hid (runTo attrN s (j + 1) = k2) := by rw [← hH.out]; exact (runTo_step hlt (by simp [attrN, hwb, h47, h62, h61])).symm
                        clear hH hwb h47 h62 h61
                        go_wp2_with (go_at_call 43; refine (hw.out _).mono ?_; rintro e w9 ⟨rfl, rfl⟩)
                        go_roundw
                        case rel => exact ⟨j + 1, by omega, by go_num, by first | rfl | trivial, hH2⟩
                        case measure => simp [intOf]; omega
                · rw [hwb] at hw
                  have hjt : Hid (j = k2) := by rw [Hid, ← hH.out]; exact (runTo_stop hlt (by simp [attrN, hwb])).symm
                  clear hH hwb
                  go_wp2_with (go_at_call 43; refine (hw.out _).mono ?_; rintro e w9 ⟨rfl, rfl⟩)
                  go_meet
                  case rel => exact ⟨by rw [hjt.out], by first | rfl | trivial⟩
              · have hjt : Hid (j = k2) := by rw [Hid, ← hH.out]; exact (runTo_end (by omega)).symm
                clear hH
                go_wp2_with fail
                go_meet
                case rel => exact ⟨by rw [hjt.out], by first | rfl | trivial⟩
          case rest =>
            obtain ⟨rfl, hwc⟩ := hcut
            subst hwc
            have hfold := hide (fun w => fold_any (s.extract k1 k2) w (by simp; omega))
            obtain ⟨n, hn⟩ : ∃ n, lowerL (s.extract k1 k2).data.toList = n := ⟨_, rfl⟩
            rw [hn] at hfold
            have HN := hide hn
            have hnl : n.length ≤ 3000 := by rw [← hn]; simp [lowerL]; omega
            clear hn
            go_upto_block 6 with (go_at_call 44; refine (hfold.out _).mono ?_; rintro e w3 ⟨rfl, hk3⟩)
            have hA : IsPair (w3.alloc (.cells #[.string ⟨n.toArray⟩, .string ⟨#[]⟩] 87)) w3.heap.size ⟨n.toArray⟩ ⟨#[]⟩ := heap_alloc_new w3 _
            have hkA : Keeps [] w3 (w3.alloc (.cells #[.string ⟨n.toArray⟩, .string ⟨#[]⟩] 87)) := (Keeps.refl [] w3).alloc _
            have hk3a := runTo_ge whiteB s k2
            have hk3b := runTo_le whiteB hk2b
            obtain ⟨k3, hk3e⟩ : ∃ k3, runTo whiteB s k2 = k3 := ⟨_, rfl⟩
            rw [hk3e] at hk3a hk3b
            have HK3 := hide hk3e
            clear hk3e hfold
            go_cut [1] (fun s1 wx => s1 = .int .i64 k3 ∧ IsPair wx w3.heap.size ⟨n.toArray⟩ ⟨#[]⟩ ∧ Keeps [] w3 wx)
            case first => as_aux_lemma =>
              go_wp2_with fail
              go_loopw [1] (fun i wq => ∃ j : Nat, j ≤ s.size ∧ i = .int .i64 j ∧ IsPair wq w3.heap.size ⟨n.toArray⟩ ⟨#[]⟩ ∧ Keeps [] w3 wq ∧ Hid (runTo whiteB s j = k3)) (fun i _ => s.size - (intOf i).toNat)
              case atStart => exact ⟨k2, hk2b, by go_num, hA, hkA, HK3⟩
              case round =>
                obtain ⟨j, hj, rfl, hA2, hkq, hH⟩ := hrel
                by_cases hlt : j < s.size
                · have hw := hide (fun w => isWhite_any s[j] w)
                  have hb256 : s[j].toNat < 256 := UInt8.toNat_lt s[j]
                  cases hwb : whiteB s[j]
                  · rw [hwb] at hw
                    have hjt : Hid (j = k3) := by rw [Hid, ← hH.out]; exact (runTo_stop hlt (hwb)).symm
                    clear hH hwb
                    go_wp2_with (go_at_call 43; refine (hw.out _).mono ?_; rintro e w9 ⟨rfl, rfl⟩)
                    go_meet
                    case rel => exact ⟨by rw [hjt.out], hA2, hkq⟩
                  · rw [hwb] at hw
                    have hH2 : Hid (runTo whiteB s (j + 1) = k3) := by rw [← hH.out]; exact (runTo_step hlt (hwb)).symm
                    clear hH hwb
                    go_wp2_with (go_at_call 43; refine (hw.out _).mono ?_; rintro e w9 ⟨rfl, rfl⟩)
                    go_roundw
                    case rel => exact ⟨j + 1, by omega, by go_num, hA2, hkq, hH2⟩
                    case measure => simp [intOf]; omega
                · have hjt : Hid (j = k3) := by rw [Hid, ← hH.out]; exact (runTo_end (by omega)).symm
                  clear hH
                  go_wp2_with fail
                  go_meet
                  case rel => exact ⟨by rw [hjt.out], hA2, hkq⟩
            case rest =>
              obtain ⟨rfl, hA4, hk4⟩ := hcut
              generalize wc = W4 at *
              have ho4 := (hk3.trans hk4).owns ho (fun _ _ => List.not_mem_nil)
              have hkp4 : Keeps [] w W4 := hkp.trans (hk3.trans hk4)
              have hgw : w.heap.size ≤ w3.heap.size := (hkp.trans hk3).size
              have hne : Hid (∀ b, (Value.slice oo acc.length oc).ownBlock = some b → b < w3.heap.size) := fun b hb => Nat.lt_of_lt_of_le (ho.lt b hb).2 hk3.size
              clear hA hkA ho hk4
              generalize w3.heap.size = g at *
              obtain ⟨B, hB⟩ : ∃ B, decide (k3 < s.size ∧ byteAt s k3 = 61) = B := ⟨_, rfl⟩
              have HB := hide hB
              clear hB
              go_upto_region 15 with fail
              go_cut [103] (fun s103 wx => s103 = .bool B ∧ W4 = wx)
              case first => as_aux_lemma =>
                by_cases h3 : k3 < s.size
                · have hb256 : s[k3].toNat < 256 := UInt8.toNat_lt s[k3]
                  by_cases h61 : s[k3] = 61
                  · have e61 : ((s[k3].toNat : Int) == 61) = true := by rw [h61]; rfl
                    have hBt : Hid (B = true) := by rw [Hid, ← HB.out]; simp [h3, byteAt_get s k3 h3, h61]
                    clear h61
                    go_wp2_with fail
                    go_meet
                    case rel => exact ⟨by rw [hBt.out], rfl⟩
                  · have e61 : ((s[k3].toNat : Int) == 61) = false := byte_no (d := 61) rfl h61
                    have hBt : Hid (B = false) := by rw [Hid, ← HB.out]; simp [byteAt_get s k3 h3, h61]
                    clear h61
                    go_wp2_with fail
                    go_meet
                    case rel => exact ⟨by rw [hBt.out], rfl⟩
                · have hBt : Hid (B = false) := by rw [Hid, ← HB.out]; simp; omega
                  go_wp2_with fail
                  go_meet
                  case rel => exact ⟨by rw [hBt.out], rfl⟩
              case rest =>
                obtain ⟨rfl, hwc⟩ := hcut
                subst hwc
                go_upto_if 103 with fail
                go_cut [1] (fun s1 wx => ∃ (k' : Nat) (V : List UInt8), s1 = .int .i64 k' ∧ k3 ≤ k' ∧ k' ≤ s.size ∧ IsPair wx g ⟨n.toArray⟩ ⟨V.toArray⟩ ∧ Keeps [g] W4 wx ∧ Hid (attrsAt s.data.toList f k' (nextAcc acc (n, V)) = R))
                case first => as_aux_lemma =>
                  cases B
                  · have HX := hide (way_no hlt HK2.out HK3.out HR.out HN.out HB.out)
                    clear HB HR
                    go_wp2_with fail
                    go_meet
                    case rel => exact ⟨k3, [], rfl, Nat.le_refl _, hk3b, hA4, Keeps.refl _ _, HX⟩
                  · have hBo := HB.out
                    simp only [decide_eq_true_eq] at hBo
                    have h3 : k3 < s.size := hBo.1
                    have h61 : s[k3] = 61 := by rw [← byteAt_get s k3 h3]; exact hBo.2
                    have H61 := hide h61
                    clear hBo HB h61
                    have hk4a := runTo_ge whiteB s (k3 + 1)
                    have hk4b := runTo_le whiteB (s := s) (k := k3 + 1) (by omega)
                    obtain ⟨k4, hk4⟩ : ∃ k4, runTo whiteB s (k3 + 1) = k4 := ⟨_, rfl⟩
                    rw [hk4] at hk4a hk4b
                    have HK4 := hide hk4
                    clear hk4
                    go_upto_block 8 with fail
                    go_cut [1] (fun s1 wx => s1 = .int .i64 k4 ∧ W4 = wx)
                    case first => as_aux_lemma =>
                      go_wp2_with fail
                      go_loopw [1] (fun i wq => ∃ j : Nat, j ≤ s.size ∧ i = .int .i64 j ∧ W4 = wq ∧ Hid (runTo whiteB s j = k4)) (fun i _ => s.size - (intOf i).toNat)
                      case atStart => exact ⟨k3 + 1, by omega, by go_num, rfl, HK4⟩
                      case round =>
                        obtain ⟨j, hj, rfl, rfl, hH⟩ := hrel
                        by_cases hlt : j < s.size
                        · have hw := hide (fun w => isWhite_any s[j] w)
                          have hb256 : s[j].toNat < 256 := UInt8.toNat_lt s[j]
                          cases hwb : whiteB s[j]
                          · rw [hwb] at hw
                            have hjt : Hid (j = k4) := by rw [Hid, ← hH.out]; exact (runTo_stop hlt (hwb)).symm
                            clear hH hwb
                            go_wp2_with (go_at_call 43; refine (hw.out _).mono ?_; rintro e w9 ⟨rfl, rfl⟩)
                            go_meet
                            case rel => exact ⟨by rw [hjt.out], by first | rfl | trivial⟩
                          · rw [hwb] at hw
                            have hH2 : Hid (runTo whiteB s (j + 1) = k4) := by rw [← hH.out]; exact (runTo_step hlt (hwb)).symm
                            clear hH hwb
                            go_wp2_with (go_at_call 43; refine (hw.out _).mono ?_; rintro e w9 ⟨rfl, rfl⟩)
                            go_roundw
                            case rel => exact ⟨j + 1, by omega, by go_num, by first | rfl | trivial, hH2⟩
                            case measure => simp [intOf]; omega
                        · have hjt : Hid (j = k4) := by rw [Hid, ← hH.out]; exact (runTo_end (by omega)).symm
                          clear hH
                          go_wp2_with fail
                          go_meet
                          case rel => exact ⟨by rw [hjt.out], by first | rfl | trivial⟩
                    case rest =>
                      obtain ⟨rfl, hwc⟩ := hcut
                      subst hwc
                      by_cases h4 : k4 < s.size
                      · have hb256 : s[k4].toNat < 256 := UInt8.toNat_lt s[k4]
                        by_cases q34 : s[k4] = 34
                        · as_aux_lemma =>
                          have hq : s[k4] = 34 ∨ s[k4] = 39 := .inl q34
                          have hvq := val_quote h4 hq
                          have hnx := hide (fun w => nextOf_any s (s.extract k4 (k4 + 1)) (k4 + 1) w hs (by simp; omega) (by simp; omega) (by omega))
                          rw [one_byte s k4 h4] at hnx
                          obtain ⟨E, hE⟩ : ∃ E, nextIR s.data.toList [s[k4]] (k4 + 1) = E := ⟨_, rfl⟩
                          rw [hE] at hnx hvq
                          have e34 : ((s[k4].toNat : Int) == 34) = true := by rw [q34]; rfl
                          by_cases hneg : E < 0
                          · rw [if_pos hneg] at hvq
                            have HRn := hide (way_noneR hlt HK2.out HK3.out HR.out h3 H61.out HK4.out hvq)
                            have hnegb : decide (E < 0) = true := by simpa using hneg
                            clear hvq hq hE q34
                            go_wp2_with fail
                            refine (hnx.out _).mono ?_
                            rintro e w9 ⟨rfl, rfl⟩
                            go_wp2_with fail
                            go_ret2
                            exact ⟨.inr ⟨HRn.out, rfl⟩, hkp4⟩
                          · rw [if_neg hneg] at hvq
                            obtain ⟨m, hm, hm1, hm2⟩ := nextIR_nat (l := s.data.toList) (p := [s[k4]]) (k := k4 + 1) (by rw [hE]; omega) (by simp)
                            rw [hE] at hm
                            rw [len_size] at hm2
                            have hm2' : m + 1 ≤ s.size := by simpa using hm2
                            clear hm2 hE
                            subst hm
                            rw [Int.toNat_natCast] at hvq
                            have htk := hide (fun w => takeOf_any (s.extract (k4 + 1) m) w (by simp; omega))
                            obtain ⟨T, hT⟩ : ∃ T, takeL (s.extract (k4 + 1) m).data.toList = T := ⟨_, rfl⟩
                            rw [hT] at htk
                            obtain ⟨V, VB⟩ := T
                            have HX := hide (way_val (k' := m + 1) hlt HK2.out HK3.out HR.out HN.out h3 H61.out HK4.out hvq (show (takeL (s.extract (k4 + 1) m).data.toList).1 = V from by rw [hT]) (by omega))
                            clear hvq hq hT q34
                            go_wp2_with fail
                            refine (hnx.out _).mono ?_
                            rintro e w9 ⟨rfl, h9⟩
                            obtain rfl : W4 = w9 := h9.symm
                            go_wp2_with fail
                            refine (htk.out _).mono ?_
                            rintro e w5 ⟨rfl, hk5⟩
                            have hA5 := hA4.keeps hk5 List.not_mem_nil
                            have c1 := hA5.cell1
                            have f1 := hA5.free 1
                            have hA6 := hA5.set1 ⟨V.toArray⟩
                            have hk6 : Keeps [g] W4 (w5.setCell ⟨g, 1, none⟩ (.string ⟨V.toArray⟩)) := (hk5.to (by simp)).trans ((Keeps.refl [g] w5).setCell (.inl (by simp)) _)
                            go_wp2_with fail
                            go_meet
                            case rel => exact ⟨m + 1, V, by go_num, by omega, by omega, hA6, hk6, HX⟩
                        · by_cases q39 : s[k4] = 39
                          · as_aux_lemma =>
                            have hq : s[k4] = 34 ∨ s[k4] = 39 := .inr q39
                            have hvq := val_quote h4 hq
                            have hnx := hide (fun w => nextOf_any s (s.extract k4 (k4 + 1)) (k4 + 1) w hs (by simp; omega) (by simp; omega) (by omega))
                            rw [one_byte s k4 h4] at hnx
                            obtain ⟨E, hE⟩ : ∃ E, nextIR s.data.toList [s[k4]] (k4 + 1) = E := ⟨_, rfl⟩
                            rw [hE] at hnx hvq
                            have e34 : ((s[k4].toNat : Int) == 34) = false := byte_no (d := 34) rfl q34
                            have e39 : ((s[k4].toNat : Int) == 39) = true := by rw [q39]; rfl
                            by_cases hneg : E < 0
                            · rw [if_pos hneg] at hvq
                              have HRn := hide (way_noneR hlt HK2.out HK3.out HR.out h3 H61.out HK4.out hvq)
                              have hnegb : decide (E < 0) = true := by simpa using hneg
                              clear hvq hq hE q34 q39
                              go_wp2_with fail
                              refine (hnx.out _).mono ?_
                              rintro e w9 ⟨rfl, rfl⟩
                              go_wp2_with fail
                              go_ret2
                              exact ⟨.inr ⟨HRn.out, rfl⟩, hkp4⟩
                            · rw [if_neg hneg] at hvq
                              obtain ⟨m, hm, hm1, hm2⟩ := nextIR_nat (l := s.data.toList) (p := [s[k4]]) (k := k4 + 1) (by rw [hE]; omega) (by simp)
                              rw [hE] at hm
                              rw [len_size] at hm2
                              have hm2' : m + 1 ≤ s.size := by simpa using hm2
                              clear hm2 hE
                              subst hm
                              rw [Int.toNat_natCast] at hvq
                              have htk := hide (fun w => takeOf_any (s.extract (k4 + 1) m) w (by simp; omega))
                              obtain ⟨T, hT⟩ : ∃ T, takeL (s.extract (k4 + 1) m).data.toList = T := ⟨_, rfl⟩
                              rw [hT] at htk
                              obtain ⟨V, VB⟩ := T
                              have HX := hide (way_val (k' := m + 1) hlt HK2.out HK3.out HR.out HN.out h3 H61.out HK4.out hvq (show (takeL (s.extract (k4 + 1) m).data.toList).1 = V from by rw [hT]) (by omega))
                              clear hvq hq hT q34 q39
                              go_wp2_with fail
                              refine (hnx.out _).mono ?_
                              rintro e w9 ⟨rfl, h9⟩
                              obtain rfl : W4 = w9 := h9.symm
                              go_wp2_with fail
                              refine (htk.out _).mono ?_
                              rintro e w5 ⟨rfl, hk5⟩
                              have hA5 := hA4.keeps hk5 List.not_mem_nil
                              have c1 := hA5.cell1
                              have f1 := hA5.free 1
                              have hA6 := hA5.set1 ⟨V.toArray⟩
                              have hk6 : Keeps [g] W4 (w5.setCell ⟨g, 1, none⟩ (.string ⟨V.toArray⟩)) := (hk5.to (by simp)).trans ((Keeps.refl [g] w5).setCell (.inl (by simp)) _)
                              go_wp2_with fail
                              go_meet
                              case rel => exact ⟨m + 1, V, by go_num, by omega, by omega, hA6, hk6, HX⟩
                          · as_aux_lemma =>
                            have hk5a := runTo_ge valN s k4
                            have hk5b := runTo_le valN hk4b
                            obtain ⟨k5, hk5e⟩ : ∃ k5, runTo valN s k4 = k5 := ⟨_, rfl⟩
                            rw [hk5e] at hk5a hk5b
                            have HK5 := hide hk5e
                            have e34 : ((s[k4].toNat : Int) == 34) = false := byte_no (d := 34) rfl q34
                            have e39 : ((s[k4].toNat : Int) == 39) = false := byte_no (d := 39) rfl q39
                            have hvq := val_plain h4 q34 q39
                            rw [hk5e] at hvq
                            have htk := hide (fun w => takeOf_any (s.extract k4 k5) w (by simp; omega))
                            obtain ⟨T, hT⟩ : ∃ T, takeL (s.extract k4 k5).data.toList = T := ⟨_, rfl⟩
                            rw [hT] at htk
                            obtain ⟨V, VB⟩ := T
                            have HX := hide (way_val (k' := k5) hlt HK2.out HK3.out HR.out HN.out h3 H61.out HK4.out hvq (show (takeL (s.extract k4 k5).data.toList).1 = V from by rw [hT]) (by omega))
                            clear hvq hT hk5e q34 q39
                            go_upto_block 10 with fail
                            go_cut [1] (fun s1 wx => s1 = .int .i64 k5 ∧ W4 = wx)
                            case first => as_aux_lemma =>
                              go_wp2_with fail
                              go_loopw [1] (fun i wq => ∃ j : Nat, j ≤ s.size ∧ i = .int .i64 j ∧ W4 = wq ∧ Hid (runTo valN s j = k5)) (fun i _ => s.size - (intOf i).toNat)
                              case atStart => exact ⟨k4, hk4b, by go_num, rfl, HK5⟩
                              case round =>
                                obtain ⟨j, hj, rfl, rfl, hH⟩ := hrel
                                by_cases hlt : j < s.size
                                · have hw := hide (fun w => isWhite_any s[j] w)
                                  have hb256 : s[j].toNat < 256 := UInt8.toNat_lt s[j]
                                  cases hwb : whiteB s[j]
                                  · rw [hwb] at hw
                                    by_cases h62 : s[j] = 62
                                    · have e62 : ((s[j].toNat : Int) != 62) = false := by rw [h62]; rfl
                                      have hjt : Hid (j = k5) := by rw [Hid, ← hH.out]; exact (runTo_stop hlt (by rw [h62]; rfl)).symm
                                      clear hH hwb h62
                                      go_wp2_with (go_at_call 43; refine (hw.out _).mono ?_; rintro e w9 ⟨rfl, rfl⟩)
                                      go_meet
                                      case rel => exact ⟨by rw [hjt.out], by first | rfl | trivial⟩
                                    · have e62 : ((s[j].toNat : Int) != 62) = true := byte_ne (d := 62) rfl h62
                                      have hH2 : Hid (runTo valN s (j + 1) = k5) := by rw [← hH.out]; exact (runTo_step hlt (by simp [valN, hwb, h62])).symm
                                      clear hH hwb h62
                                      go_wp2_with (go_at_call 43; refine (hw.out _).mono ?_; rintro e w9 ⟨rfl, rfl⟩)
                                      go_roundw
                                      case rel => exact ⟨j + 1, by omega, by go_num, by first | rfl | trivial, hH2⟩
                                      case measure => simp [intOf]; omega
                                  · rw [hwb] at hw
                                    have hjt : Hid (j = k5) := by rw [Hid, ← hH.out]; exact (runTo_stop hlt (by simp [valN, hwb])).symm
                                    clear hH hwb
                                    go_wp2_with (go_at_call 43; refine (hw.out _).mono ?_; rintro e w9 ⟨rfl, rfl⟩)
                                    go_meet
                                    case rel => exact ⟨by rw [hjt.out], by first | rfl | trivial⟩
                                · have hjt : Hid (j = k5) := by rw [Hid, ← hH.out]; exact (runTo_end (by omega)).symm
                                  clear hH
                                  go_wp2_with fail
                                  go_meet
                                  case rel => exact ⟨by rw [hjt.out], by first | rfl | trivial⟩
                            case rest =>
                              obtain ⟨rfl, hwc⟩ := hcut
                              subst hwc
                              go_wp2_with fail
                              refine (htk.out _).mono ?_
                              rintro e w5 ⟨rfl, hk5⟩
                              have hA5 := hA4.keeps hk5 List.not_mem_nil
                              have c1 := hA5.cell1
                              have f1 := hA5.free 1
                              have hA6 := hA5.set1 ⟨V.toArray⟩
                              have hk6 : Keeps [g] W4 (w5.setCell ⟨g, 1, none⟩ (.string ⟨V.toArray⟩)) := (hk5.to (by simp)).trans ((Keeps.refl [g] w5).setCell (.inl (by simp)) _)
                              go_wp2_with fail
                              go_meet
                              case rel => exact ⟨k5, V, by go_num, by omega, by omega, hA6, hk6, HX⟩
                      · as_aux_lemma =>
                        have hk5a := runTo_ge valN s k4
                        have hk5b := runTo_le valN hk4b
                        obtain ⟨k5, hk5e⟩ : ∃ k5, runTo valN s k4 = k5 := ⟨_, rfl⟩
                        rw [hk5e] at hk5a hk5b
                        have HK5 := hide hk5e
                        have htk := hide (fun w => takeOf_any (s.extract k4 k5) w (by simp; omega))
                        obtain ⟨T, hT⟩ : ∃ T, takeL (s.extract k4 k5).data.toList = T := ⟨_, rfl⟩
                        rw [hT] at htk
                        obtain ⟨V, VB⟩ := T
                        have HX : Hid (attrsAt s.data.toList f k5 (nextAcc acc (n, V)) = R) := way_none hlt HK2.out HK3.out HR.out h3 H61.out HK4.out (val_none (by omega)) (by omega)
                        clear hT hk5e
                        go_upto_block 10 with fail
                        go_cut [1] (fun s1 wx => s1 = .int .i64 k5 ∧ W4 = wx)
                        case first => as_aux_lemma =>
                          go_wp2_with fail
                          go_loopw [1] (fun i wq => ∃ j : Nat, j ≤ s.size ∧ i = .int .i64 j ∧ W4 = wq ∧ Hid (runTo valN s j = k5)) (fun i _ => s.size - (intOf i).toNat)
                          case atStart => exact ⟨k4, hk4b, by go_num, rfl, HK5⟩
                          case round =>
                            obtain ⟨j, hj, rfl, rfl, hH⟩ := hrel
                            by_cases hlt : j < s.size
                            · have hw := hide (fun w => isWhite_any s[j] w)
                              have hb256 : s[j].toNat < 256 := UInt8.toNat_lt s[j]
                              cases hwb : whiteB s[j]
                              · rw [hwb] at hw
                                by_cases h62 : s[j] = 62
                                · have e62 : ((s[j].toNat : Int) != 62) = false := by rw [h62]; rfl
                                  have hjt : Hid (j = k5) := by rw [Hid, ← hH.out]; exact (runTo_stop hlt (by rw [h62]; rfl)).symm
                                  clear hH hwb h62
                                  go_wp2_with (go_at_call 43; refine (hw.out _).mono ?_; rintro e w9 ⟨rfl, rfl⟩)
                                  go_meet
                                  case rel => exact ⟨by rw [hjt.out], by first | rfl | trivial⟩
                                · have e62 : ((s[j].toNat : Int) != 62) = true := byte_ne (d := 62) rfl h62
                                  have hH2 : Hid (runTo valN s (j + 1) = k5) := by rw [← hH.out]; exact (runTo_step hlt (by simp [valN, hwb, h62])).symm
                                  clear hH hwb h62
                                  go_wp2_with (go_at_call 43; refine (hw.out _).mono ?_; rintro e w9 ⟨rfl, rfl⟩)
                                  go_roundw
                                  case rel => exact ⟨j + 1, by omega, by go_num, by first | rfl | trivial, hH2⟩
                                  case measure => simp [intOf]; omega
                              · rw [hwb] at hw
                                have hjt : Hid (j = k5) := by rw [Hid, ← hH.out]; exact (runTo_stop hlt (by simp [valN, hwb])).symm
                                clear hH hwb
                                go_wp2_with (go_at_call 43; refine (hw.out _).mono ?_; rintro e w9 ⟨rfl, rfl⟩)
                                go_meet
                                case rel => exact ⟨by rw [hjt.out], by first | rfl | trivial⟩
                            · have hjt : Hid (j = k5) := by rw [Hid, ← hH.out]; exact (runTo_end (by omega)).symm
                              clear hH
                              go_wp2_with fail
                              go_meet
                              case rel => exact ⟨by rw [hjt.out], by first | rfl | trivial⟩
                        case rest =>
                          obtain ⟨rfl, hwc⟩ := hcut
                          subst hwc
                          go_wp2_with fail
                          refine (htk.out _).mono ?_
                          rintro e w5 ⟨rfl, hk5⟩
                          have hA5 := hA4.keeps hk5 List.not_mem_nil
                          have c1 := hA5.cell1
                          have f1 := hA5.free 1
                          have hA6 := hA5.set1 ⟨V.toArray⟩
                          have hk6 : Keeps [g] W4 (w5.setCell ⟨g, 1, none⟩ (.string ⟨V.toArray⟩)) := (hk5.to (by simp)).trans ((Keeps.refl [g] w5).setCell (.inl (by simp)) _)
                          go_wp2_with fail
                          go_meet
                          case rel => exact ⟨k5, V, by go_num, by omega, by omega, hA6, hk6, HX⟩
                case rest =>
                  obtain ⟨k', V, rfl, hka, hkb, hA5, hk5, HX⟩ := hcut
                  generalize wc = W5 at *
                  have ho5 : W5.ownsRow w.heap.size 87 2 (Value.slice oo acc.length oc) acc.length (pairCells acc) := hk5.owns ho4 (fun b hb => by have := hne.out b hb; simp; omega)
                  have hkp5 : Keeps [] w W5 := ((hkp4.to (by simp)).trans hk5).mono fun i hi hlt => by simp at hi; omega
                  have hnm := hide (fun w => isNameR_any ⟨n.toArray⟩ w (by rw [str_size]; unfold maxLen; omega))
                  rw [str_list] at hnm
                  clear ho4 hkp4 hk5 hA4 hkp HR HN HB HK2 HK3 hk3
                  go_wp2_with fail
                  go_loopw [11, 12] (fun t i wq => ∃ j : Nat, j ≤ acc.length ∧ i = .int .i64 j ∧ t = .bool (decide (n ∈ (acc.take j).map (·.1))) ∧ Hid (∃ m, wq = W5.drewN m)) (fun _ i _ => acc.length - (intOf i).toNat)
                  case atStart => exact ⟨0, Nat.zero_le _, rfl, by simp, ⟨0, rfl⟩⟩
                  case round => as_aux_lemma =>
                    obtain ⟨j, hj, rfl, rfl, hW⟩ := hrel
                    have hkq : Keeps [] W5 wr := by obtain ⟨m, hm⟩ := hW.out; rw [hm]; exact (Keeps.refl _ _).drewN _
                    have hA6 := hA5.keeps hkq List.not_mem_nil
                    have c0 := hA6.cell0
                    by_cases hja : j < acc.length
                    · obtain ⟨gg, x, rfl, hca⟩ := ((Lies.of_row ho5).keeps hkq).addr (by omega)
                      have q0 := hca _ _ (pair_at0 acc j hja)
                      have hts : (acc.take (j + 1)).map (·.1) = (acc.take j).map (·.1) ++ [acc[j].1] := by rw [List.take_succ_eq_append_getElem hja, List.map_append]; rfl
                      have HTS := hide hts
                      clear hts hca HX hnm
                      cases hd : decide (n ∈ (acc.take j).map (·.1))
                      · by_cases he : acc[j].1 = n
                        · have hse : ((⟨acc[j].1.toArray⟩ : ByteArray).toList == (⟨n.toArray⟩ : ByteArray).toList) = true := by rw [strEq]; simpa using he
                          have heb : (acc[j].1 == n) = true := by simpa using he
                          have HD : Hid (decide (n ∈ (acc.take (j + 1)).map (·.1)) = true) := by rw [Hid, HTS.out]; simp [he]
                          clear he hd
                          go_wp2_with fail
                          go_quiet (fail)
                          go_wp2_with fail
                          go_roundw
                          case rel => exact ⟨j + 1, by omega, by go_num, by rw [HD.out], by obtain ⟨m, hm⟩ := hW.out; exact ⟨m + nq, by rw [hm]; simp⟩⟩
                          case measure => simp [intOf]; omega
                        · have hse : ((⟨acc[j].1.toArray⟩ : ByteArray).toList == (⟨n.toArray⟩ : ByteArray).toList) = false := by rw [strEq]; simpa using he
                          have heb : (acc[j].1 == n) = false := by simpa using he
                          have hed : decide (acc[j].1 = n) = false := by simpa using he
                          have HD : Hid (decide (n ∈ (acc.take (j + 1)).map (·.1)) = false) := by
                            rw [Hid, HTS.out]
                            have hd' := of_decide_eq_false hd
                            simp only [decide_eq_false_iff_not, List.mem_append, List.mem_singleton, not_or]
                            exact ⟨hd', fun h => he h.symm⟩
                          clear he hd
                          go_wp2_with fail
                          go_quiet (fail)
                          go_wp2_with fail
                          go_roundw
                          case rel => exact ⟨j + 1, by omega, by go_num, by rw [HD.out], by obtain ⟨m, hm⟩ := hW.out; exact ⟨m + nq, by rw [hm]; simp⟩⟩
                          case measure => simp [intOf]; omega
                      · have HD : Hid (decide (n ∈ (acc.take (j + 1)).map (·.1)) = true) := by
                          rw [Hid, HTS.out]
                          have hd' := of_decide_eq_true hd
                          simp only [decide_eq_true_eq, List.mem_append]
                          exact .inl hd'
                        clear hd
                        go_wp2_with fail
                        go_quiet (fail)
                        go_wp2_with fail
                        go_roundw
                        case rel => exact ⟨j + 1, by omega, by go_num, by rw [HD.out], by obtain ⟨m, hm⟩ := hW.out; exact ⟨m + nq, by rw [hm]; simp⟩⟩
                        case measure => simp [intOf]; omega
                    · have hall : acc.take j = acc := List.take_of_length_le (by omega)
                      rw [hall]
                      clear hall
                      have ho6 := hkq.owns ho5 (fun _ _ => List.not_mem_nil)
                      have hkp6 := hkp5.trans hkq
                      have HX2 := HX.out
                      cases hin : isNameL n
                      · rw [hin] at hnm
                        have HX3 : Hid (attrsAt s.data.toList f k' acc = R) := by
                          rw [Hid, ← HX2]
                          simp [nextAcc, hin]
                        clear HX HX2 hin
                        go_wp2_with fail
                        refine (hnm.out _).mono ?_
                        rintro e w6 ⟨rfl, rfl⟩
                        go_wp2_with fail
                        go_roundg f
                        case measure => omega
                        case rel => exact ⟨k', acc, hkb, by omega, rfl, ho6, hkp6, by omega, HX3⟩
                      · rw [hin] at hnm
                        cases hd : decide (n ∈ acc.map (·.1))
                        · have HX3 : Hid (attrsAt s.data.toList f k' (acc ++ [(n, V)]) = R) := by
                            rw [Hid, ← HX2]
                            have hd' := of_decide_eq_false hd
                            have hc : ¬ (n ∈ acc.map (·.1) ∨ isNameL n = false) := by rw [hin]; simpa using hd'
                            unfold nextAcc
                            rw [if_neg hc]
                          have b0 := hA6.cell0
                          have b1 := hA6.cell1
                          clear HX HX2 hin hd
                          have q := heap_alloc_new wr (.cells #[.string ⟨n.toArray⟩, .string ⟨V.toArray⟩] 87)
                          go_wp2_with fail
                          refine (hnm.out _).mono ?_
                          rintro e w6 ⟨rfl, rfl⟩
                          go_wp2_with (at_builtin; refine wpList_append_own _ rfl _ _ 41 rfl w.heap.size 87 i0 _ 2 32 Try.underlying41 hi hz0 hz1 hz2 (cells2 _ _) (by decide) _ _ _ rfl (ho6.alloc _) ⟨w6.heap.size, 0, none⟩ 1 1 [.string ⟨n.toArray⟩, .string ⟨V.toArray⟩] rfl rfl ?c1 ?c2 ?c3 ?c4 ?c5 ?_)
                          case c1 =>
                            intro j u hj
                            rw [add_zero]
                            have qq : IsPair (w6.alloc (.cells #[.string ⟨n.toArray⟩, .string ⟨V.toArray⟩] 87)) w6.heap.size ⟨n.toArray⟩ ⟨V.toArray⟩ := q
                            match j, hj with
                            | 0, hj => simp at hj; subst hj; exact qq.cell0
                            | 1, hj => simp at hj; subst hj; exact qq.cell1
                          case c2 => intro u hu; simp at hu; rcases hu with rfl | rfl <;> rfl
                          case c3 => unfold maxLen; omega
                          case c4 => omega
                          case c5 => have := hkp6.size; simp; omega
                          intro v7 w7 ho7 hg7 _
                          have hk7 : Keeps (Value.slice oo acc.length oc).ownBlock.toList w6 w7 := ((Keeps.refl _ w6).alloc _).grown hg7 fun i e => .inl (by simp [e])
                          have hro : ∀ g, g ∈ (Value.slice oo acc.length oc).ownBlock.toList → w.heap.size ≤ g := fun g hg => (ho6.lt g (by simpa using hg)).1
                          have hkp7 : Keeps [] w w7 := ((hkp6.to (by simp)).trans hk7).mono fun i hi hlt => by have := hro _ hi; omega
                          have ho7' : w7.ownsRow w.heap.size 87 2 v7 (acc ++ [(n, V)]).length (pairCells (acc ++ [(n, V)])) := by
                            rw [pairCells_add, List.length_append]; exact ho7
                          go_wp2_with fail
                          go_roundg f
                          case measure => omega
                          case rel => exact ⟨k', acc ++ [(n, V)], hkb, by omega, rfl, ho7', hkp7, by rw [List.length_append]; simp; omega, HX3⟩
                        · have HX3 : Hid (attrsAt s.data.toList f k' acc = R) := by
                            rw [Hid, ← HX2]
                            have hd' := of_decide_eq_true hd
                            unfold nextAcc
                            rw [if_pos (.inl hd')]
                          clear HX HX2 hin hd
                          go_wp2_with fail
                          refine (hnm.out _).mono ?_
                          rintro e w6 ⟨rfl, rfl⟩
                          go_wp2_with fail
                          go_roundg f
                          case measure => omega
                          case rel => exact ⟨k', acc, hkb, by omega, rfl, ho6, hkp6, by omega, HX3⟩
end Go.Proofs.Ytaeblkmkpfklkaa
