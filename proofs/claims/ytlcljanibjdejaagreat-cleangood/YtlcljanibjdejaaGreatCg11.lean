/- CleanGood holds: for every input the law returns true, and each argument reads behind the call as it read before; no condition. A part of its proof. -/
import Derived.Test.YtlcljanibjdejaaGreatCg10
import Derived.Deep.SlicePairs
import Derived.Shelf.Strings.OnBuilder
import Derived.Shelf.Small.Strs
import Derived.Shelf.Strings.LastIndex
namespace Go.Proofs.YtlcljanibjdejaaGreat
open Go.RowKit Go.Maps
set_option maxRecDepth 4000 in
set_option maxHeartbeats 16000000 in
theorem tokensOf_any (s : ByteArray) (w : World) (hs : s.size ≤ 3000) :
    Calls Tryz.prog 36 #[.string s] w fun e w' => ∃ v, e = .returned v ∧ Toks w' v (readL s.data.toList) ∧ Keeps [] w w' := by
  have hl := len_size s
  obtain ⟨R, hRR⟩ : ∃ R, readL s.data.toList = R := ⟨_, rfl⟩
  have HR0 : Hid (Rds s.data.toList 0 [] [] R) := hRR ▸ Rds.start _
  rw [hRR]
  clear hRR
  obtain ⟨i0, hi, hz0, hz1, hz2⟩ := info_parts info43
  have hE := enters105
  unfold Enters at hE
  go_enter Tryz.func36, Tryz.ntmps36
  go_wp2_with fail
  have hR0 : Rf ((w.alloc (.cells #[.slice none 0 0] 26)).alloc (.cells #[.string ⟨#[]⟩] 9)) (w.heap.size + 2) (w.heap.size + 1) w.heap.size (.slice none 0 0) [] [] :=
    ⟨by have := heap_alloc_new (w.alloc (.cells #[.slice none 0 0] 26)) (.cells #[.string ⟨#[]⟩] 9); simpa using this, by rw [((Keeps.refl [] (w.alloc (.cells #[.slice none 0 0] 26))).alloc _).block w.heap.size (by simp) List.not_mem_nil]; exact heap_alloc_new w _, World.ownsRow_nil _ _ _ _, by simp, by omega, by omega, by omega⟩
  have hk0 : Keeps [] w ((w.alloc (.cells #[.slice none 0 0] 26)).alloc (.cells #[.string ⟨#[]⟩] 9)) := ((Keeps.refl [] w).alloc _).alloc _
  have hs0 : w.heap.size + 2 ≤ ((w.alloc (.cells #[.slice none 0 0] 26)).alloc (.cells #[.string ⟨#[]⟩] 9)).heap.size := by simp
  generalize hbo : w.heap.size = bo at *
  have HBO := hide hbo
  clear hbo
  generalize hB : bo + 2 = B at *
  have hBB : bo ≤ B := by omega
  clear hB
  generalize hbt : bo + 1 = bt at *
  have hbtB : bo ≤ bt := by omega
  clear hbt
  go_loopg [6] (s.size + 1) (fun g i wr => ∃ (k : Nat) (raw : List UInt8) (outv : Value) (l : List (Tok × Value)), k ≤ s.size ∧ s.size + 1 ≤ g + k ∧ i = .int .i64 k ∧ Rf wr B bt bo outv raw l ∧ B ≤ wr.heap.size ∧ Keeps [] w wr ∧ raw.length ≤ k ∧ l.length ≤ 2 * k ∧ Hid (Rds s.data.toList k raw (l.map (·.1)) R))
  case atStart => exact ⟨0, [], _, [], Nat.zero_le _, by omega, rfl, hR0, hs0, hk0, Nat.le_refl _, Nat.le_refl _, HR0⟩
  case round =>
    obtain ⟨k, raw, outv, l, hk, hg, rfl, hR, hBw, hkp, hra, hla, hF⟩ := hrel
    clear HR0 hR0 hk0 hs0
    obtain ⟨f, rfl⟩ : ∃ f, gk = f + 1 := ⟨gk - 1, by omega⟩
    generalize wr = W at *
    by_cases hend : k < s.size
    · have hb256 : s[k].toNat < 256 := UInt8.toNat_lt s[k]
      have hkl : k < s.data.toList.length := by rw [hl]; exact hend
      have hlk : s.data.toList[k] = s[k] := rfl
      by_cases h60 : s[k] = 60
      · have e60 : ((s[k].toNat : Int) != 60) = false := by rw [h60]; rfl
        have H60 := hide h60
        clear h60
        go_upto_block 2 with fail
        have hA : IsTok (W.alloc (.cells #[.int .i64 0, .string ⟨#[]⟩, .slice none 0 0, .string ⟨#[]⟩] 117)) W.heap.size (⟨0, [], [], []⟩, .slice none 0 0) := heap_alloc_new W _
        have hkA : Keeps [] W (W.alloc (.cells #[.int .i64 0, .string ⟨#[]⟩, .slice none 0 0, .string ⟨#[]⟩] 117)) := (Keeps.refl [] W).alloc _
        have hRA := hR.keepsNil hkA
        have hBA := Nat.le_trans hBw hkA.size
        obtain ⟨g, hgW⟩ : ∃ g, W.heap.size = g := ⟨_, rfl⟩
        rw [hgW] at hA
        have hWg : W.heap.size ≤ g := by omega
        have hBg : B ≤ g := by omega
        simp only [hgW]
        clear hgW
        generalize (W.alloc (.cells #[.int .i64 0, .string ⟨#[]⟩, .slice none 0 0, .string ⟨#[]⟩] 117)) = WA at *
        go_cut [7] (fun s7 wx => ∃ (z : Int) (t : Tok) (av : Value), s7 = .int .i64 z ∧ IsTok wx g (t, av) ∧ Keeps [g] WA wx ∧ HasAttrs wx B (t, av) ∧ Hid (Sw s.data.toList k raw (l.map (·.1)) z t))
        case first => as_aux_lemma =>
          obtain ⟨isO, hO⟩ : ∃ b, tagL s.data.toList k [60] = b := ⟨_, rfl⟩
          obtain ⟨isC, hC⟩ : ∃ b, tagL s.data.toList k [60, 47] = b := ⟨_, rfl⟩
          have HO := hide hO
          have HC := hide hC
          have HOe := hide (tagL_open s k hend H60.out)
          have HCe := hide (tagL_close s k)
          clear hO hC
          go_upto_region 11 with fail
          go_cut [29] (fun s29 wx => s29 = .bool isO ∧ WA = wx)
          case first => as_aux_lemma =>
            by_cases h1 : k + 1 < s.size
            · have hw := hide (fun w => isLetter_any s[k + 1] w)
              have hb1 : s[k + 1].toNat < 256 := UInt8.toNat_lt s[k + 1]
              have hx : Hid (isO = letterB s[k + 1]) := by rw [Hid, ← HO.out, HOe.out, byteAt_get s (k + 1) h1]; simp [h1]
              generalize letterB s[k + 1] = bl at *
              go_wp2_with (go_at_call 107; refine (hw.out _).mono ?_; rintro e w9 ⟨rfl, rfl⟩)
              go_meet
              case rel => exact ⟨by rw [hx.out], by first | rfl | trivial⟩
            · have hx : Hid (isO = false) := by rw [Hid, ← HO.out, HOe.out]; simp [h1]
              go_wp2_with fail
              go_meet
              case rel => exact ⟨by rw [hx.out], by first | rfl | trivial⟩
          case rest =>
            obtain ⟨rfl, hwc⟩ := hcut
            subst hwc
            go_upto_if 29 with fail
            go_cut [29] (fun s29 wx => s29 = .bool (isO || isC) ∧ WA = wx)
            case first => as_aux_lemma =>
              cases isO
              · have hst := hide (fun w => startsAt_any s k ⟨#[60, 47]⟩ hs (by omega) (by decide) w)
                rw [show (⟨#[60, 47]⟩ : ByteArray).data.toList = [60, 47] from rfl] at hst
                cases hb : stAt s k [60, 47]
                · rw [hb] at hst
                  have hx : Hid (isC = false) := by rw [Hid, ← HC.out, HCe.out, hb]; rfl
                  clear hb
                  go_wp2_with (go_at_call 108; refine (hst.out _).mono ?_; rintro e w9 ⟨rfl, rfl⟩)
                  go_meet
                  case rel => exact ⟨by rw [hx.out]; rfl, by first | rfl | trivial⟩
                · rw [hb] at hst
                  by_cases h2 : k + 2 < s.size
                  · have hw := hide (fun w => isLetter_any s[k + 2] w)
                    have hb1 : s[k + 2].toNat < 256 := UInt8.toNat_lt s[k + 2]
                    have hx : Hid (isC = letterB s[k + 2]) := by rw [Hid, ← HC.out, HCe.out, hb, byteAt_get s (k + 2) h2]; simp [h2]
                    clear hb
                    generalize letterB s[k + 2] = bl at *
                    go_wp2_with (first | (go_at_call 108; refine (hst.out _).mono ?_; rintro e w9 ⟨rfl, rfl⟩) | (go_at_call 107; refine (hw.out _).mono ?_; rintro e w9 ⟨rfl, rfl⟩))
                    go_meet
                    case rel => exact ⟨by rw [hx.out]; rfl, by first | rfl | trivial⟩
                  · have hx : Hid (isC = false) := by rw [Hid, ← HC.out, HCe.out]; simp [h2]
                    clear hb
                    go_wp2_with (go_at_call 108; refine (hst.out _).mono ?_; rintro e w9 ⟨rfl, rfl⟩)
                    go_meet
                    case rel => exact ⟨by rw [hx.out]; rfl, by first | rfl | trivial⟩
              · go_wp2_with fail
                go_meet
                case rel => exact ⟨rfl, by first | rfl | trivial⟩
            case rest =>
              obtain ⟨rfl, hwc⟩ := hcut
              subst hwc
              have c0 : WA.cell? ⟨g, 0, none⟩ = some (.int .i64 0) := by rw [hA.cell 0]; rfl
              have f0 := tok_free hA 0
              cases isO
              · cases isC
                · as_aux_lemma =>
                  have s3 := hide (fun w => startsAt_any s k ⟨#[60, 33, 45, 45]⟩ hs (by omega) (by decide) w)
                  have s4 := hide (fun w => startsAt_any s k ⟨#[60, 33]⟩ hs (by omega) (by decide) w)
                  have s5 := hide (fun w => startsAt_any s k ⟨#[60, 63]⟩ hs (by omega) (by decide) w)
                  have s6 := hide (fun w => startsAt_any s k ⟨#[60, 47]⟩ hs (by omega) (by decide) w)
                  rw [show (⟨#[60, 33, 45, 45]⟩ : ByteArray).data.toList = [60, 33, 45, 45] from rfl] at s3
                  rw [show (⟨#[60, 33]⟩ : ByteArray).data.toList = [60, 33] from rfl] at s4
                  rw [show (⟨#[60, 63]⟩ : ByteArray).data.toList = [60, 63] from rfl] at s5
                  rw [show (⟨#[60, 47]⟩ : ByteArray).data.toList = [60, 47] from rfl] at s6
                  have hz : HasAttrs WA B (⟨0, [], [], []⟩, .slice none 0 0) := World.ownsRow_nil _ _ _ _
                  cases h3 : stAt s k [60, 33, 45, 45]
                  · rw [h3] at s3
                    cases h4 : stAt s k [60, 33]
                    · rw [h4] at s4
                      cases h5 : stAt s k [60, 63]
                      · rw [h5] at s5
                        cases h6 : stAt s k [60, 47]
                        · rw [h6] at s6
                          have HS := hide (sw_text (raw := raw) (out := l.map (·.1)) HO.out HC.out h3 (by rw [h4, h5, h6]; rfl) ⟨0, [], [], []⟩)
                          clear h3 h4 h5 h6
                          go_wp2_with fail
                          refine (s3.out _).mono ?_
                          rintro e y3 ⟨rfl, hy3⟩
                          obtain rfl : WA = y3 := hy3.symm
                          go_wp2_with fail
                          refine (s4.out _).mono ?_
                          rintro e y4 ⟨rfl, hy4⟩
                          obtain rfl : WA = y4 := hy4.symm
                          go_wp2_with fail
                          refine (s5.out _).mono ?_
                          rintro e y5 ⟨rfl, hy5⟩
                          obtain rfl : WA = y5 := hy5.symm
                          go_wp2_with fail
                          refine (s6.out _).mono ?_
                          rintro e y6 ⟨rfl, hy6⟩
                          obtain rfl : WA = y6 := hy6.symm
                          go_wp2_with fail
                          go_meet
                          case rel => exact ⟨_, ⟨0, [], [], []⟩, _, rfl, hA, Keeps.refl _ _, hz, HS⟩
                        · rw [h6] at s6
                          have h456 : (stAt s k [60, 33] || (stAt s k [60, 63] || stAt s k [60, 47])) = true := by rw [h4, h5, h6]; rfl
                          clear h4 h5 h6
                          have hnx := hide (fun w => nextOf_any s ⟨#[62]⟩ k w hs (by decide) (by decide) (by omega))
                          rw [show (⟨#[62]⟩ : ByteArray).data.toList = [62] from rfl] at hnx
                          obtain ⟨E, hE2⟩ : ∃ E, nextIR s.data.toList [62] k = E := ⟨_, rfl⟩
                          rw [hE2] at hnx
                          by_cases hneg : E < 0
                          · have hE1 := nextIR_neg (l := s.data.toList) (p := [62]) (k := k) (by rw [hE2]; exact hneg)
                            rw [hE2] at hE1
                            have HS := hide (sw_decl0 (raw := raw) (out := l.map (·.1)) HO.out HC.out h3 h456 (by rw [hE2]; exact hneg) ⟨0, [], [], []⟩)
                            subst hE1
                            clear hE2 hneg h3 h456
                            go_wp2_with fail
                            refine (s3.out _).mono ?_
                            rintro e y3 ⟨rfl, hy3⟩
                            obtain rfl : WA = y3 := hy3.symm
                            go_wp2_with fail
                            refine (s4.out _).mono ?_
                            rintro e y4 ⟨rfl, hy4⟩
                            obtain rfl : WA = y4 := hy4.symm
                            go_wp2_with fail
                            refine (s5.out _).mono ?_
                            rintro e y5 ⟨rfl, hy5⟩
                            obtain rfl : WA = y5 := hy5.symm
                            go_wp2_with fail
                            refine (s6.out _).mono ?_
                            rintro e y6 ⟨rfl, hy6⟩
                            obtain rfl : WA = y6 := hy6.symm
                            go_wp2_with fail
                            refine (hnx.out _).mono ?_
                            rintro e w5 ⟨rfl, h5⟩
                            obtain rfl : WA = w5 := h5.symm
                            go_wp2_with fail
                            go_meet
                            case rel => exact ⟨_, ⟨0, [], [], []⟩, _, rfl, hA, Keeps.refl _ _, hz, HS⟩
                          · obtain ⟨m, hm, hm1, hm2⟩ := nextIR_nat (l := s.data.toList) (p := [62]) (k := k) (by rw [hE2]; omega) (by simp)
                            have HS := hide (sw_decl (raw := raw) (out := l.map (·.1)) (t := ⟨0, [], [], []⟩) HO.out HC.out h3 h456 hm hm1 rfl)
                            rw [hE2] at hm
                            subst hm
                            have hge : decide ((0 : Int) ≤ (m : Int)) = true := by simp
                            have hmb : m ≤ 3000 := by rw [hl] at hm2; omega
                            clear hE2 hneg hm2 h3 h456
                            go_wp2_with fail
                            refine (s3.out _).mono ?_
                            rintro e y3 ⟨rfl, hy3⟩
                            obtain rfl : WA = y3 := hy3.symm
                            go_wp2_with fail
                            refine (s4.out _).mono ?_
                            rintro e y4 ⟨rfl, hy4⟩
                            obtain rfl : WA = y4 := hy4.symm
                            go_wp2_with fail
                            refine (s5.out _).mono ?_
                            rintro e y5 ⟨rfl, hy5⟩
                            obtain rfl : WA = y5 := hy5.symm
                            go_wp2_with fail
                            refine (s6.out _).mono ?_
                            rintro e y6 ⟨rfl, hy6⟩
                            obtain rfl : WA = y6 := hy6.symm
                            go_wp2_with fail
                            refine (hnx.out _).mono ?_
                            rintro e w5 ⟨rfl, h5⟩
                            obtain rfl : WA = w5 := h5.symm
                            go_wp2_with fail
                            go_meet
                            case rel => exact ⟨_, ⟨0, [], [], []⟩, _, by go_num, hA, Keeps.refl _ _, hz, HS⟩
                      · rw [h5] at s5
                        have h456 : (stAt s k [60, 33] || (stAt s k [60, 63] || stAt s k [60, 47])) = true := by rw [h4, h5]; rfl
                        clear h4 h5
                        have hnx := hide (fun w => nextOf_any s ⟨#[62]⟩ k w hs (by decide) (by decide) (by omega))
                        rw [show (⟨#[62]⟩ : ByteArray).data.toList = [62] from rfl] at hnx
                        obtain ⟨E, hE2⟩ : ∃ E, nextIR s.data.toList [62] k = E := ⟨_, rfl⟩
                        rw [hE2] at hnx
                        by_cases hneg : E < 0
                        · have hE1 := nextIR_neg (l := s.data.toList) (p := [62]) (k := k) (by rw [hE2]; exact hneg)
                          rw [hE2] at hE1
                          have HS := hide (sw_decl0 (raw := raw) (out := l.map (·.1)) HO.out HC.out h3 h456 (by rw [hE2]; exact hneg) ⟨0, [], [], []⟩)
                          subst hE1
                          clear hE2 hneg h3 h456
                          go_wp2_with fail
                          refine (s3.out _).mono ?_
                          rintro e y3 ⟨rfl, hy3⟩
                          obtain rfl : WA = y3 := hy3.symm
                          go_wp2_with fail
                          refine (s4.out _).mono ?_
                          rintro e y4 ⟨rfl, hy4⟩
                          obtain rfl : WA = y4 := hy4.symm
                          go_wp2_with fail
                          refine (s5.out _).mono ?_
                          rintro e y5 ⟨rfl, hy5⟩
                          obtain rfl : WA = y5 := hy5.symm
                          go_wp2_with fail
                          refine (hnx.out _).mono ?_
                          rintro e w5 ⟨rfl, h5⟩
                          obtain rfl : WA = w5 := h5.symm
                          go_wp2_with fail
                          go_meet
                          case rel => exact ⟨_, ⟨0, [], [], []⟩, _, rfl, hA, Keeps.refl _ _, hz, HS⟩
                        · obtain ⟨m, hm, hm1, hm2⟩ := nextIR_nat (l := s.data.toList) (p := [62]) (k := k) (by rw [hE2]; omega) (by simp)
                          have HS := hide (sw_decl (raw := raw) (out := l.map (·.1)) (t := ⟨0, [], [], []⟩) HO.out HC.out h3 h456 hm hm1 rfl)
                          rw [hE2] at hm
                          subst hm
                          have hge : decide ((0 : Int) ≤ (m : Int)) = true := by simp
                          have hmb : m ≤ 3000 := by rw [hl] at hm2; omega
                          clear hE2 hneg hm2 h3 h456
                          go_wp2_with fail
                          refine (s3.out _).mono ?_
                          rintro e y3 ⟨rfl, hy3⟩
                          obtain rfl : WA = y3 := hy3.symm
                          go_wp2_with fail
                          refine (s4.out _).mono ?_
                          rintro e y4 ⟨rfl, hy4⟩
                          obtain rfl : WA = y4 := hy4.symm
                          go_wp2_with fail
                          refine (s5.out _).mono ?_
                          rintro e y5 ⟨rfl, hy5⟩
                          obtain rfl : WA = y5 := hy5.symm
                          go_wp2_with fail
                          refine (hnx.out _).mono ?_
                          rintro e w5 ⟨rfl, h5⟩
                          obtain rfl : WA = w5 := h5.symm
                          go_wp2_with fail
                          go_meet
                          case rel => exact ⟨_, ⟨0, [], [], []⟩, _, by go_num, hA, Keeps.refl _ _, hz, HS⟩
                    · rw [h4] at s4
                      have h456 : (stAt s k [60, 33] || (stAt s k [60, 63] || stAt s k [60, 47])) = true := by rw [h4]; rfl
                      clear h4
                      have hnx := hide (fun w => nextOf_any s ⟨#[62]⟩ k w hs (by decide) (by decide) (by omega))
                      rw [show (⟨#[62]⟩ : ByteArray).data.toList = [62] from rfl] at hnx
                      obtain ⟨E, hE2⟩ : ∃ E, nextIR s.data.toList [62] k = E := ⟨_, rfl⟩
                      rw [hE2] at hnx
                      by_cases hneg : E < 0
                      · have hE1 := nextIR_neg (l := s.data.toList) (p := [62]) (k := k) (by rw [hE2]; exact hneg)
                        rw [hE2] at hE1
                        have HS := hide (sw_decl0 (raw := raw) (out := l.map (·.1)) HO.out HC.out h3 h456 (by rw [hE2]; exact hneg) ⟨0, [], [], []⟩)
                        subst hE1
                        clear hE2 hneg h3 h456
                        go_wp2_with fail
                        refine (s3.out _).mono ?_
                        rintro e y3 ⟨rfl, hy3⟩
                        obtain rfl : WA = y3 := hy3.symm
                        go_wp2_with fail
                        refine (s4.out _).mono ?_
                        rintro e y4 ⟨rfl, hy4⟩
                        obtain rfl : WA = y4 := hy4.symm
                        go_wp2_with fail
                        refine (hnx.out _).mono ?_
                        rintro e w5 ⟨rfl, h5⟩
                        obtain rfl : WA = w5 := h5.symm
                        go_wp2_with fail
                        go_meet
                        case rel => exact ⟨_, ⟨0, [], [], []⟩, _, rfl, hA, Keeps.refl _ _, hz, HS⟩
                      · obtain ⟨m, hm, hm1, hm2⟩ := nextIR_nat (l := s.data.toList) (p := [62]) (k := k) (by rw [hE2]; omega) (by simp)
                        have HS := hide (sw_decl (raw := raw) (out := l.map (·.1)) (t := ⟨0, [], [], []⟩) HO.out HC.out h3 h456 hm hm1 rfl)
                        rw [hE2] at hm
                        subst hm
                        have hge : decide ((0 : Int) ≤ (m : Int)) = true := by simp
                        have hmb : m ≤ 3000 := by rw [hl] at hm2; omega
                        clear hE2 hneg hm2 h3 h456
                        go_wp2_with fail
                        refine (s3.out _).mono ?_
                        rintro e y3 ⟨rfl, hy3⟩
                        obtain rfl : WA = y3 := hy3.symm
                        go_wp2_with fail
                        refine (s4.out _).mono ?_
                        rintro e y4 ⟨rfl, hy4⟩
                        obtain rfl : WA = y4 := hy4.symm
                        go_wp2_with fail
                        refine (hnx.out _).mono ?_
                        rintro e w5 ⟨rfl, h5⟩
                        obtain rfl : WA = w5 := h5.symm
                        go_wp2_with fail
                        go_meet
                        case rel => exact ⟨_, ⟨0, [], [], []⟩, _, by go_num, hA, Keeps.refl _ _, hz, HS⟩
                  · rw [h3] at s3
                    have hnx := hide (fun w => nextOf_any s ⟨#[45, 45, 62]⟩ (k + 2) w hs (by decide) (by decide) (by
                      have h9 := h3
                      unfold stAt at h9
                      have := (List.isPrefixOf_iff_prefix.1 h9).length_le
                      rw [List.length_drop, hl] at this
                      simp at this
                      omega))
                    rw [show (⟨#[45, 45, 62]⟩ : ByteArray).data.toList = [45, 45, 62] from rfl] at hnx
                    obtain ⟨E, hE2⟩ : ∃ E, nextIR s.data.toList [45, 45, 62] (k + 2) = E := ⟨_, rfl⟩
                    rw [hE2] at hnx
                    by_cases hneg : E < 0
                    · have hE1 := nextIR_neg (l := s.data.toList) (p := [45, 45, 62]) (k := k + 2) (by rw [hE2]; exact hneg)
                      rw [hE2] at hE1
                      have HS := hide (sw_com0 (raw := raw) (out := l.map (·.1)) HO.out HC.out h3 (by rw [hE2]; exact hneg) ⟨0, [], [], []⟩)
                      subst hE1
                      clear hE2 hneg h3
                      go_wp2_with fail
                      refine (s3.out _).mono ?_
                      rintro e y3 ⟨rfl, hy3⟩
                      obtain rfl : WA = y3 := hy3.symm
                      go_wp2_with fail
                      refine (hnx.out _).mono ?_
                      rintro e w5 ⟨rfl, h5⟩
                      obtain rfl : WA = w5 := h5.symm
                      go_wp2_with fail
                      go_meet
                      case rel => exact ⟨_, ⟨0, [], [], []⟩, _, rfl, hA, Keeps.refl _ _, hz, HS⟩
                    · obtain ⟨m, hm, hm1, hm2⟩ := nextIR_nat (l := s.data.toList) (p := [45, 45, 62]) (k := k + 2) (by rw [hE2]; omega) (by simp)
                      have HS := hide (sw_com (raw := raw) (out := l.map (·.1)) (t := ⟨0, [], [], []⟩) HO.out HC.out h3 hm hm1 rfl)
                      rw [hE2] at hm
                      subst hm
                      have hge : decide ((0 : Int) ≤ (m : Int)) = true := by simp
                      have hmb : m ≤ 3000 := by rw [hl] at hm2; omega
                      clear hE2 hneg hm2 h3
                      go_wp2_with fail
                      refine (s3.out _).mono ?_
                      rintro e y3 ⟨rfl, hy3⟩
                      obtain rfl : WA = y3 := hy3.symm
                      go_wp2_with fail
                      refine (hnx.out _).mono ?_
                      rintro e w5 ⟨rfl, h5⟩
                      obtain rfl : WA = w5 := h5.symm
                      go_wp2_with fail
                      go_meet
                      case rel => exact ⟨_, ⟨0, [], [], []⟩, _, by go_num, hA, Keeps.refl _ _, hz, HS⟩
                · as_aux_lemma =>
                  have hbd := HC.out
                  rw [HCe.out, Bool.and_eq_true, Bool.and_eq_true, decide_eq_true_eq] at hbd
                  have h2 : k + 2 < s.size := hbd.2.1
                  have h1 : k + 1 < s.size := by omega
                  have h47 : s[k + 1] = 47 := by
                    have h9 := hbd.1
                    unfold stAt at h9
                    rw [drop_get s k hend, drop_get s (k + 1) h1] at h9
                    simp [List.isPrefixOf] at h9
                    exact h9.2.symm
                  have e47 : ((s[k + 1].toNat : Int) == 47) = true := by rw [h47]; rfl
                  have hb1 : s[k + 1].toNat < 256 := UInt8.toNat_lt s[k + 1]
                  clear hbd h47
                  have hA0 := tok_set0 hA 2
                  simp only at hA0
                  have c1 : (WA.setCell ⟨g, 0, none⟩ (.int .i64 2)).cell? ⟨g, 0, none⟩ = some (.int .i64 2) := by rw [hA0.cell 0]; rfl
                  have f1 := tok_free hA0 0
                  have hA1 := tok_set0 hA0 3
                  have hkx : Keeps [g] WA ((WA.setCell ⟨g, 0, none⟩ (.int .i64 2)).setCell ⟨g, 0, none⟩ (.int .i64 3)) := (keeps_one _).trans (keeps_one _)
                  simp only at hA1
                  have hk2a := runTo_ge tagN s (k + 2)
                  have hk2b := runTo_le tagN (s := s) (k := k + 2) (by omega)
                  obtain ⟨k2, hk2⟩ : ∃ k2, runTo tagN s (k + 2) = k2 := ⟨_, rfl⟩
                  rw [hk2] at hk2a hk2b
                  have HK2 := hide hk2
                  clear hk2
                  go_upto_block 3 with fail
                  go_cut [10] (fun s10 wx => s10 = .int .i64 k2 ∧ IsTok wx g (⟨3, [], [], []⟩, .slice none 0 0) ∧ Keeps [g] WA wx)
                  case first => as_aux_lemma =>
                    clear c0 f0 c1 f1
                    go_wp2_with fail
                    go_loopw [10] (fun i wq => ∃ j : Nat, j ≤ s.size ∧ i = .int .i64 j ∧ IsTok wq g (⟨3, [], [], []⟩, .slice none 0 0) ∧ Keeps [g] WA wq ∧ Hid (runTo tagN s j = k2)) (fun i _ => s.size - (intOf i).toNat)
                    case atStart => exact ⟨k + 2, by omega, by go_num, by first | exact hA1 | (simpa using hA1), by first | exact hkx | (simpa using hkx), HK2⟩
                    case round =>
                      obtain ⟨j, hj, rfl, hA2, hkq, hH⟩ := hrel
                      by_cases hlt : j < s.size
                      · have hw := hide (fun w => isWhite_any s[j] w)
                        have hb256 : s[j].toNat < 256 := UInt8.toNat_lt s[j]
                        cases hwb : whiteB s[j]
                        · rw [hwb] at hw
                          by_cases h47 : s[j] = 47
                          · have e47 : ((s[j].toNat : Int) != 47) = false := by rw [h47]; rfl
                            have hjt : Hid (j = k2) := by rw [Hid, ← hH.out]; exact (runTo_stop hlt (by rw [h47]; rfl)).symm
                            clear hH hwb h47
                            go_wp2_with (go_at_call 109; refine (hw.out _).mono ?_; rintro e w9 ⟨rfl, rfl⟩)
                            go_meet
                            case rel => exact ⟨by rw [hjt.out], hA2, hkq⟩
                          · have e47 : ((s[j].toNat : Int) != 47) = true := byte_ne (d := 47) rfl h47
                            by_cases h62 : s[j] = 62
                            · have e62 : ((s[j].toNat : Int) != 62) = false := by rw [h62]; rfl
                              have hjt : Hid (j = k2) := by rw [Hid, ← hH.out]; exact (runTo_stop hlt (by rw [h62]; rfl)).symm
                              clear hH hwb h47 h62
                              go_wp2_with (go_at_call 109; refine (hw.out _).mono ?_; rintro e w9 ⟨rfl, rfl⟩)
                              go_meet
                              case rel => exact ⟨by rw [hjt.out], hA2, hkq⟩
                            · have e62 : ((s[j].toNat : Int) != 62) = true := byte_ne (d := 62) rfl h62
                              have hH2 : Hid (runTo tagN s (j + 1) = k2) := by rw [← hH.out]; exact (runTo_step hlt (by simp [tagN, hwb, h47, h62])).symm
                              clear hH hwb h47 h62
                              go_wp2_with (go_at_call 109; refine (hw.out _).mono ?_; rintro e w9 ⟨rfl, rfl⟩)
                              go_roundw
                              case rel => exact ⟨j + 1, by omega, by go_num, hA2, hkq, hH2⟩
                              case measure => simp [intOf]; omega
                        · rw [hwb] at hw
                          have hjt : Hid (j = k2) := by rw [Hid, ← hH.out]; exact (runTo_stop hlt (by simp [tagN, hwb])).symm
                          clear hH hwb 
                          go_wp2_with (go_at_call 109; refine (hw.out _).mono ?_; rintro e w9 ⟨rfl, rfl⟩)
                          go_meet
                          case rel => exact ⟨by rw [hjt.out], hA2, hkq⟩
                      · have hjt : Hid (j = k2) := by rw [Hid, ← hH.out]; exact (runTo_end (by omega)).symm
                        clear hH
                        go_wp2_with fail
                        go_meet
                        case rel => exact ⟨by rw [hjt.out], hA2, hkq⟩
                  case rest =>
                    obtain ⟨rfl, hA2, hkx2⟩ := hcut
                    generalize wc = W1 at *
                    clear c0 f0 hA1 hkx c1 f1 hA0
                    have hfold := hide (fun w => fold_any (s.extract (k + 2) k2) w (by simp; omega))
                    obtain ⟨n, hn⟩ : ∃ n, lowerL (s.extract (k + 2) k2).data.toList = n := ⟨_, rfl⟩
                    rw [hn] at hfold
                    have HN := hide hn
                    have hnl : n.length ≤ 3000 := by rw [← hn]; simp [lowerL]; omega
                    clear hn
                    go_wp2_with fail
                    refine (hfold.out _).mono ?_
                    rintro e w3 ⟨rfl, hk3⟩
                    have hA3 := hA2.keeps hk3 List.not_mem_nil
                    have d1 : w3.cell? ⟨g, 1, none⟩ = some (.string ⟨#[]⟩) := by rw [hA3.cell 1]; rfl
                    have d2 := tok_free hA3 1
                    have hA4 := tok_set1 hA3 n
                    simp only at hA4
                    have d3 : (w3.setCell ⟨g, 1, none⟩ (.string ⟨n.toArray⟩)).cell? ⟨g, 0, none⟩ = some (.int .i64 3) := by rw [hA4.cell 0]; rfl
                    have hkx4 : Keeps [g] WA (w3.setCell ⟨g, 1, none⟩ (.string ⟨n.toArray⟩)) := (hkx2.trans (hk3.to (by simp))).trans (keeps_one _)
                    have hBw4 : B ≤ (w3.setCell ⟨g, 1, none⟩ (.string ⟨n.toArray⟩)).heap.size := Nat.le_trans hBA hkx4.size
                    have hnx := hide (fun w => nextOf_any s ⟨#[62]⟩ k2 w hs (by decide) (by decide) hk2b)
                    rw [show (⟨#[62]⟩ : ByteArray).data.toList = [62] from rfl] at hnx
                    obtain ⟨E, hE2⟩ : ∃ E, nextIR s.data.toList [62] k2 = E := ⟨_, rfl⟩
                    rw [hE2] at hnx
                    clear hfold
                    by_cases hneg : E < 0
                    · have hE1 := nextIR_neg (l := s.data.toList) (p := [62]) (k := k2) (by rw [hE2]; exact hneg)
                      rw [hE2] at hE1
                      have HS := hide (sw_close0 (raw := raw) (out := l.map (·.1)) HO.out HC.out HK2.out (by rw [hE2]; exact hneg) ⟨3, n, [], []⟩)
                      subst hE1
                      clear hE2 hneg
                      go_wp2_with fail
                      refine (hnx.out _).mono ?_
                      rintro e w5 ⟨rfl, rfl⟩
                      go_wp2_with fail
                      go_meet
                      case rel => exact ⟨_, ⟨3, n, [], []⟩, _, rfl, hA4, hkx4, World.ownsRow_nil _ _ _ _, HS⟩
                    · obtain ⟨m, hm, hm1, hm2⟩ := nextIR_nat (l := s.data.toList) (p := [62]) (k := k2) (by rw [hE2]; omega) (by simp)
                      have HS := hide (sw_close (raw := raw) (out := l.map (·.1)) HO.out HC.out HK2.out HN.out hnl hm hm1)
                      rw [hE2] at hm
                      subst hm
                      have hge : decide ((0 : Int) ≤ (m : Int)) = true := by simp
                      have hmb : m ≤ 3000 := by rw [hl] at hm2; omega
                      clear hE2 hneg hm2
                      go_wp2_with fail
                      refine (hnx.out _).mono ?_
                      rintro e w5 ⟨rfl, rfl⟩
                      go_wp2_with fail
                      go_meet
                      case rel => exact ⟨_, ⟨3, n, [], []⟩, _, by go_num, hA4, hkx4, World.ownsRow_nil _ _ _ _, HS⟩
              · as_aux_lemma =>
                simp only [Bool.true_or]
                have hbd := HO.out
                rw [HOe.out, Bool.and_eq_true, decide_eq_true_eq] at hbd
                have h1 : k + 1 < s.size := hbd.1
                have hlet : letterB s[k + 1] = true := by rw [← byteAt_get s (k + 1) h1]; exact hbd.2
                have e47 : ((s[k + 1].toNat : Int) == 47) = false := byte_no (d := 47) rfl (fun h => by rw [h] at hlet; exact absurd hlet (by decide))
                have hb1 : s[k + 1].toNat < 256 := UInt8.toNat_lt s[k + 1]
                clear hbd hlet
                have hA1 := tok_set0 hA 2
                have hkx : Keeps [g] WA (WA.setCell ⟨g, 0, none⟩ (.int .i64 2)) := keeps_one _
                simp only at hA1
                have hk2a := runTo_ge tagN s (k + 1)
                have hk2b := runTo_le tagN (s := s) (k := k + 1) (by omega)
                obtain ⟨k2, hk2⟩ : ∃ k2, runTo tagN s (k + 1) = k2 := ⟨_, rfl⟩
                rw [hk2] at hk2a hk2b
                have HK2 := hide hk2
                clear hk2
                go_upto_block 3 with fail
                go_cut [10] (fun s10 wx => s10 = .int .i64 k2 ∧ IsTok wx g (⟨2, [], [], []⟩, .slice none 0 0) ∧ Keeps [g] WA wx)
                case first => as_aux_lemma =>
                  clear c0 f0
                  go_wp2_with fail
                  go_loopw [10] (fun i wq => ∃ j : Nat, j ≤ s.size ∧ i = .int .i64 j ∧ IsTok wq g (⟨2, [], [], []⟩, .slice none 0 0) ∧ Keeps [g] WA wq ∧ Hid (runTo tagN s j = k2)) (fun i _ => s.size - (intOf i).toNat)
                  case atStart => exact ⟨k + 1, by omega, by go_num, by first | exact hA1 | (simpa using hA1), by first | exact hkx | (simpa using hkx), HK2⟩
                  case round =>
                    obtain ⟨j, hj, rfl, hA2, hkq, hH⟩ := hrel
                    by_cases hlt : j < s.size
                    · have hw := hide (fun w => isWhite_any s[j] w)
                      have hb256 : s[j].toNat < 256 := UInt8.toNat_lt s[j]
                      cases hwb : whiteB s[j]
                      · rw [hwb] at hw
                        by_cases h47 : s[j] = 47
                        · have e47 : ((s[j].toNat : Int) != 47) = false := by rw [h47]; rfl
                          have hjt : Hid (j = k2) := by rw [Hid, ← hH.out]; exact (runTo_stop hlt (by rw [h47]; rfl)).symm
                          clear hH hwb h47
                          go_wp2_with (go_at_call 109; refine (hw.out _).mono ?_; rintro e w9 ⟨rfl, rfl⟩)
                          go_meet
                          case rel => exact ⟨by rw [hjt.out], hA2, hkq⟩
                        · have e47 : ((s[j].toNat : Int) != 47) = true := byte_ne (d := 47) rfl h47
                          by_cases h62 : s[j] = 62
                          · have e62 : ((s[j].toNat : Int) != 62) = false := by rw [h62]; rfl
                            have hjt : Hid (j = k2) := by rw [Hid, ← hH.out]; exact (runTo_stop hlt (by rw [h62]; rfl)).symm
                            clear hH hwb h47 h62
                            go_wp2_with (go_at_call 109; refine (hw.out _).mono ?_; rintro e w9 ⟨rfl, rfl⟩)
                            go_meet
                            case rel => exact ⟨by rw [hjt.out], hA2, hkq⟩
                          · have e62 : ((s[j].toNat : Int) != 62) = true := byte_ne (d := 62) rfl h62
                            have hH2 : Hid (runTo tagN s (j + 1) = k2) := by rw [← hH.out]; exact (runTo_step hlt (by simp [tagN, hwb, h47, h62])).symm
                            clear hH hwb h47 h62
                            go_wp2_with (go_at_call 109; refine (hw.out _).mono ?_; rintro e w9 ⟨rfl, rfl⟩)
                            go_roundw
                            case rel => exact ⟨j + 1, by omega, by go_num, hA2, hkq, hH2⟩
                            case measure => simp [intOf]; omega
                      · rw [hwb] at hw
                        have hjt : Hid (j = k2) := by rw [Hid, ← hH.out]; exact (runTo_stop hlt (by simp [tagN, hwb])).symm
                        clear hH hwb 
                        go_wp2_with (go_at_call 109; refine (hw.out _).mono ?_; rintro e w9 ⟨rfl, rfl⟩)
                        go_meet
                        case rel => exact ⟨by rw [hjt.out], hA2, hkq⟩
                    · have hjt : Hid (j = k2) := by rw [Hid, ← hH.out]; exact (runTo_end (by omega)).symm
                      clear hH
                      go_wp2_with fail
                      go_meet
                      case rel => exact ⟨by rw [hjt.out], hA2, hkq⟩
                case rest =>
                  obtain ⟨rfl, hA2, hkx2⟩ := hcut
                  generalize wc = W1 at *
                  clear c0 f0 hA1 hkx
                  have hfold := hide (fun w => fold_any (s.extract (k + 1) k2) w (by simp; omega))
                  obtain ⟨n, hn⟩ : ∃ n, lowerL (s.extract (k + 1) k2).data.toList = n := ⟨_, rfl⟩
                  rw [hn] at hfold
                  have HN := hide hn
                  have hnl : n.length ≤ 3000 := by rw [← hn]; simp [lowerL]; omega
                  clear hn
                  go_wp2_with fail
                  refine (hfold.out _).mono ?_
                  rintro e w3 ⟨rfl, hk3⟩
                  have hA3 := hA2.keeps hk3 List.not_mem_nil
                  have d1 : w3.cell? ⟨g, 1, none⟩ = some (.string ⟨#[]⟩) := by rw [hA3.cell 1]; rfl
                  have d2 := tok_free hA3 1
                  have hA4 := tok_set1 hA3 n
                  simp only at hA4
                  have d3 : (w3.setCell ⟨g, 1, none⟩ (.string ⟨n.toArray⟩)).cell? ⟨g, 0, none⟩ = some (.int .i64 2) := by rw [hA4.cell 0]; rfl
                  have hkx4 : Keeps [g] WA (w3.setCell ⟨g, 1, none⟩ (.string ⟨n.toArray⟩)) := (hkx2.trans (hk3.to (by simp))).trans (keeps_one _)
                  have hBw4 : B ≤ (w3.setCell ⟨g, 1, none⟩ (.string ⟨n.toArray⟩)).heap.size := Nat.le_trans hBA hkx4.size
                  have hat := hide (attrsAtR_any s k2 (w3.setCell ⟨g, 1, none⟩ (.string ⟨n.toArray⟩)) hs hk2b)
                  clear hfold
                  go_wp2_with fail
                  refine hat.out.mono ?_
                  rintro e w5 ⟨⟨a, k', v, ha, rfl, ho, hak, hks⟩ | ⟨ha, rfl⟩, hk5⟩
                  · have hA5 := hA4.keeps hk5 List.not_mem_nil
                    have x1 : w5.cell? ⟨g, 2, none⟩ = some (.slice none 0 0) := by rw [hA5.cell 2]; rfl
                    have x2 := tok_free hA5 2
                    have hA6 := tok_set2 hA5 a v
                    simp only at hA6
                    have hkx6 : Keeps [g] WA (w5.setCell ⟨g, 2, none⟩ v) := (hkx4.trans (hk5.to (by simp))).trans (keeps_one _)
                    have ho5 : HasAttrs w5 B (⟨2, n, a, []⟩, v) := ho.mono hBw4
                    have ho6 : HasAttrs (w5.setCell ⟨g, 2, none⟩ v) B (⟨2, n, a, []⟩, v) := set_row ho5 (fun h => block_ne ho5 hA5 (by decide) h) _
                    have HS := hide (sw_open (raw := raw) (out := l.map (·.1)) HO.out HK2.out HN.out hnl ha)
                    obtain ⟨vo, vc, rfl⟩ := row_form ho
                    clear ha ho ho5 hat
                    go_wp2_with fail
                    go_meet
                    case rel => exact ⟨_, ⟨2, n, a, []⟩, _, rfl, hA6, hkx6, ho6, HS⟩
                  · have hA5 := hA4.keeps hk5 List.not_mem_nil
                    have x1 : w5.cell? ⟨g, 2, none⟩ = some (.slice none 0 0) := by rw [hA5.cell 2]; rfl
                    have x2 := tok_free hA5 2
                    have hA6 := tok_set2 hA5 [] (.slice none 0 0)
                    simp only at hA6
                    have hkx6 : Keeps [g] WA (w5.setCell ⟨g, 2, none⟩ (.slice none 0 0)) := (hkx4.trans (hk5.to (by simp))).trans (keeps_one _)
                    have HS := hide (sw_open0 (raw := raw) (out := l.map (·.1)) HO.out HK2.out ha ⟨2, n, [], []⟩)
                    clear ha hat
                    go_wp2_with fail
                    go_meet
                    case rel => exact ⟨_, ⟨2, n, [], []⟩, _, rfl, hA6, hkx6, World.ownsRow_nil _ _ _ _, HS⟩
        case rest =>
          obtain ⟨z, t, av, rfl, hT, hkx, hat, hSw⟩ := hcut
          generalize wc = W2 at *
          have hR2 := hR.keepsNew hRA hWg hkx
          have hB2 := Nat.le_trans hBA hkx.size
          have hkp2 : Keeps [] w W2 := (((hkp.trans hkA).to (by simp)).trans hkx).mono fun i hi hlt => by simp at hi; have := HBO.out; omega
          have t0 := one_cell hR2.tx
          have t1 := one_free hR2.tx
          have hkR := hide (fun (u : Value) => show Keeps [] w (W2.setCell ⟨bt, 0, none⟩ u) from (hkp2.setCell (.inr (by have := HBO.out; show w.heap.size ≤ bt; omega)) u))
          clear hA hRA hkx
          rcases hSw.out with ⟨rfl, hp⟩ | ⟨rfl, hp⟩ | ⟨k', rfl, hkd, hp⟩ | ⟨k', rfl, hkd, htx, hnl, hp⟩
          · as_aux_lemma =>
            have HF2 := hide (hF.out.none hkl hp)
            rw [hl] at HF2
            have hsub : (s.extract k s.size).data.toList = s.data.toList.drop k := Lib.extract_to_end s k
            have hlen2 : (raw ++ s.data.toList.drop k).length ≤ s.size := by rw [List.length_append, List.length_drop, hl]; omega
            have hsum : ¬ 9223372036854775807 < (⟨raw.toArray⟩ : ByteArray).size + (s.extract k s.size).size := by rw [str_size]; simp; omega
            have hstr : Hid ((⟨raw.toArray⟩ : ByteArray) ++ s.extract k s.size = ⟨(raw ++ s.data.toList.drop k).toArray⟩) := WideShapes.bytes_inj (by rw [app_str, str_list, hsub, str_list])
            have hR3 := hR2.set (raw ++ s.data.toList.drop k)
            have hk3 := hkR.out (.string ⟨(raw ++ s.data.toList.drop k).toArray⟩)
            clear hp hsub hSw hF
            go_wp2_with fail
            go_region
            go_wp2_with fail
            go_roundg f
            case measure => omega
            case rel => exact ⟨s.size, raw ++ s.data.toList.drop k, outv, l, Nat.le_refl _, by omega, rfl, by rw [hstr.out]; first | exact hR3 | exact hR3.keepsNil ((Keeps.refl _ _).drewN _), by simpa using hB2, by rw [hstr.out]; first | exact hk3 | exact hk3.drewN _, hlen2, by omega, HF2⟩
          · as_aux_lemma =>
            have hb := hF.out.byte hkl hp
            rw [hlk, H60.out] at hb
            have HF2 := hide hb
            have hsum : ¬ 9223372036854775807 < (⟨raw.toArray⟩ : ByteArray).size + 1 := by rw [str_size]; omega
            have hstr : Hid ((⟨raw.toArray⟩ : ByteArray) ++ ⟨#[60]⟩ = ⟨(raw ++ [60]).toArray⟩) := WideShapes.bytes_inj (by rw [app_str, str_list, str_list])
            have hR3 := hR2.set (raw ++ [60])
            have hk3 := hkR.out (.string ⟨(raw ++ [60]).toArray⟩)
            clear hp hb hSw hF
            go_wp2_with fail
            go_roundg f
            case measure => omega
            case rel => exact ⟨k + 1, raw ++ [60], outv, l, by omega, by omega, by go_num, by rw [hstr.out]; exact hR3, by simpa using hB2, by rw [hstr.out]; exact hk3, by simp; omega, by omega, HF2⟩
          · as_aux_lemma =>
            have hbd := pieceL_bound hp hkl
            have HF2 := hide (hF.out.piece hkl hp)
            have c0 : W2.cell? ⟨g, 0, none⟩ = some (.int .i64 0) := by rw [hT.cell 0]; simp [hkd]
            rw [hl] at hbd
            have hk1 := hbd.1
            have hk2 := hbd.2.1
            have e1 : ((k' : Int) == -1) = false := by simp
            have e2 : ((k' : Int) == -2) = false := by simp
            clear hp hSw hF hkd hbd
            go_wp2_with fail
            go_roundg f
            case measure => omega
            case rel => exact ⟨k', raw, outv, l, by omega, by omega, rfl, hR2, hB2, hkp2, by omega, by omega, HF2⟩
          · as_aux_lemma =>
            have hbd := pieceL_bound hp hkl
            rw [hl] at hbd
            have hk1 := hbd.1
            have hk2 := hbd.2.1
            have e1 : ((k' : Int) == -1) = false := by simp
            have e2 : ((k' : Int) == -2) = false := by simp
            obtain ⟨kd, nm, at', tx⟩ := t
            simp only at htx hnl hkd hp
            subst htx
            have c0 : W2.cell? ⟨g, 0, none⟩ = some (.int .i64 kd) := by rw [hT.cell 0]; rfl
            have c1 : W2.cell? ⟨g, 1, none⟩ = some (.string ⟨nm.toArray⟩) := by rw [hT.cell 1]; rfl
            have ek : (kd != 0) = true := by rcases hkd with rfl | rfl <;> rfl
            have hnm := hide (fun w => isNameR_any ⟨nm.toArray⟩ w (by rw [str_size]; unfold maxLen; omega))
            rw [str_list] at hnm
            cases hin : isNameL nm
            · rw [hin] at hnm
              rw [hin, if_neg (by simp)] at hp
              have HF2 := hide (hF.out.piece hkl hp)
              clear hp hSw hF hkd hbd hin
              go_wp2_with fail
              refine (hnm.out _).mono ?_
              rintro e w6 ⟨rfl, h6⟩
              obtain rfl : W2 = w6 := h6.symm
              go_wp2_with fail
              go_roundg f
              case measure => omega
              case rel => exact ⟨k', raw, outv, l, by omega, by omega, rfl, hR2, hB2, hkp2, by omega, by omega, HF2⟩
            · rw [hin] at hnm
              rw [hin, if_pos rfl] at hp
              have HF2 := hide (hF.out.piece hkl hp)
              obtain ⟨ao, an, ac, hav⟩ := hat.form
              simp only at hav
              subst hav
              clear hp hSw hF hkd hbd hin
              have hfl := hide (flush_any W2 B bt bo outv raw l hR2 hB2 (by omega) (by omega))
              have hgo : g ∉ bt :: bo :: outv.ownBlock.toList := by
                intro hm
                have := lt_of_block hR.tx
                have := lt_of_block hR.ob
                simp at hm
                rcases hm with hm | hm | hm
                · omega
                · omega
                · have := (hR.out.lt g hm).2; omega
              have hat0 : ∀ b, (Value.slice ao an ac).ownBlock = some b → b ∉ bt :: bo :: outv.ownBlock.toList := by
                intro b hb hm
                have h8 := (hat.lt b hb).1
                have := hR2.hbt
                have := hR2.hbo
                simp at hm
                rcases hm with hm | hm | hm
                · omega
                · omega
                · exact rows_apart hat hR2.out (by decide) hb hm
              have hel : (l ++ endToks raw).length ≤ 2 * k + 1 := by
                unfold endToks
                split <;> simp <;> omega
              go_wp2_with fail
              refine (hnm.out _).mono ?_
              rintro e w6 ⟨rfl, h6⟩
              obtain rfl : W2 = w6 := h6.symm
              go_wp2_with fail
              refine hfl.out.mono ?_
              rintro e w7 ⟨rfl, outv', h7, hk7⟩
              have hT7 := hT.keeps hk7 hgo
              have hat7 : HasAttrs w7 B (⟨kd, nm, at', []⟩, .slice ao an ac) := hk7.owns hat hat0
              have hB7 := Nat.le_trans hB2 hk7.size
              have hkp7 : Keeps [] w w7 := ((hkp2.to (by simp)).trans hk7).mono fun i hi hlt => by
                have := HBO.out
                simp at hi
                rcases hi with hi | hi | hi
                · omega
                · omega
                · have := (hR2.out.lt i hi).1; omega
              obtain ⟨oo, oc, rfl⟩ := row_form h7.out
              generalize hll : l ++ endToks raw = ll at *
              have hlm : ll.map (·.1) = l.map (·.1) ++ endT raw := by rw [← hll, List.map_append, endToks_map]
              have HLM := hide hlm
              clear hll hlm
              have b0 : w7.cell? ⟨g, 0, none⟩ = some (.int .i64 kd) := by rw [hT7.cell 0]; rfl
              have b1 : w7.cell? ⟨g, 1, none⟩ = some (.string ⟨nm.toArray⟩) := by rw [hT7.cell 1]; rfl
              have b2 : w7.cell? ⟨g, 2, none⟩ = some (.slice ao an ac) := by rw [hT7.cell 2]; rfl
              have b3 : w7.cell? ⟨g, 3, none⟩ = some (.string ⟨#[]⟩) := by rw [hT7.cell 3]; rfl
              have d1 := one_cell h7.ob
              clear c0 c1 t0 t1
              go_wp2_with (at_builtin; refine wpList_append_own _ rfl _ _ 26 rfl B 117 i0 _ 4 64 Tryz.underlying26 hi hz0 hz1 hz2 (by kernel_rfl) (by decide) _ _ _ rfl (h7.out.alloc _) ⟨w7.heap.size, 0, none⟩ 1 1 (tokCells (⟨kd, nm, at', []⟩, .slice ao an ac)) rfl rfl ?c1 ?c2 ?c3 ?c4 ?c5 ?_)
              case c1 => exact lit_cells w7 _ 117
              case c2 => exact one_cells rfl
              case c3 => unfold maxLen; omega
              case c4 => omega
              case c5 => simp; omega
              intro v3 w8 ho3 hg3 _
              obtain ⟨ov, cv, rfl⟩ := row_form ho3
              have hk8 : Keeps (Value.slice oo ll.length oc).ownBlock.toList w7 w8 := ((Keeps.refl _ w7).alloc _).grown hg3 fun i e => .inl (by simp [e])
              have hr := h7.grow hk8 ho3 (hk8.owns hat7 (fun b hb hm => rows_apart hat7 h7.out (by decide) hb (by simpa using hm)))
              have o3 : w8.heap[bo]? = some (.cells #[.slice oo ll.length oc] 26 (0, 0)) := by
                have := h7.hbo
                rw [hk8.block bo (lt_of_block h7.ob) (fun hm => by have := (h7.out.lt bo (by simpa using hm)).1; omega)]; exact h7.ob
              have x0 := one_cell o3
              have x1 := one_free o3
              have hkp8 : Keeps [] w (w8.setCell ⟨bo, 0, none⟩ (.slice ov (ll.length + 1) cv)) := (((hkp7.to (by simp)).trans hk8).mono (T := []) fun i hi hlt => by
                have := HBO.out
                have := (h7.out.lt i (by simpa using hi)).1
                omega).setCell (.inr (by have := HBO.out; show w.heap.size ≤ bo; omega)) _
              have hB8 : B ≤ (w8.setCell ⟨bo, 0, none⟩ (.slice ov (ll.length + 1) cv)).heap.size := by have := hk8.size; simp; omega
              have HF3 : Hid (Rds s.data.toList k' [] ((ll ++ [((⟨kd, nm, at', []⟩ : Tok), Value.slice ao an ac)]).map (·.1)) R) := by
                rw [Hid, List.map_append, HLM.out]
                exact HF2.out
              go_wp2_with fail
              go_roundg f
              case measure => omega
              case rel => exact ⟨k', [], _, _, by omega, by omega, rfl, hr, hB8, hkp8, by simp, by rw [List.length_append]; simp; omega, HF3⟩
      · have e60 : ((s[k].toNat : Int) != 60) = true := byte_ne (d := 60) rfl h60
        have hb := hF.out.byte hkl (piece_plainR hkl (by rw [hlk]; exact h60) _ _)
        rw [hlk] at hb
        have HF2 := hide hb
        have t0 := one_cell hR.tx
        have t1 := one_free hR.tx
        have hsum : ¬ 9223372036854775807 < (⟨raw.toArray⟩ : ByteArray).size + (s.extract k (k + 1)).size := by rw [str_size]; simp; omega
        have hstr : Hid ((⟨raw.toArray⟩ : ByteArray) ++ s.extract k (k + 1) = ⟨(raw ++ [s[k]]).toArray⟩) := WideShapes.bytes_inj (by rw [app_str, str_list, one_byte s k hend, str_list])
        have hR3 := hR.set (raw ++ [s[k]])
        have hk3 : Keeps [] w (W.setCell ⟨bt, 0, none⟩ (.string ⟨(raw ++ [s[k]]).toArray⟩)) := hkp.setCell (.inr (by have := HBO.out; show w.heap.size ≤ bt; omega)) _
        clear hb h60 hF
        go_wp2_with fail
        go_region
        go_wp2_with fail
        go_roundg f
        case measure => omega
        case rel => exact ⟨k + 1, raw ++ [s[k]], outv, l, by omega, by omega, by go_num, by rw [hstr.out]; first | exact hR3 | exact hR3.keepsNil ((Keeps.refl _ _).drewN _), by simpa using hBw, by rw [hstr.out]; first | exact hk3 | exact hk3.drewN _, by simp; omega, by omega, HF2⟩
    · have hE2 := hF.out.done (by rw [hl]; omega)
      have HE2 := hide hE2
      have hfl := hide (flush_any W B bt bo outv raw l hR hBw (by omega) (by omega))
      clear hF hE2
      go_wp2_with fail
      refine hfl.out.mono ?_
      rintro e w7 ⟨rfl, outv', h7, hk7⟩
      have d1 := one_cell h7.ob
      obtain ⟨oo, oc, rfl⟩ := row_form h7.out
      have hkp7 : Keeps [] w w7 := ((hkp.to (by simp)).trans hk7).mono fun i hi hlt => by
        have := HBO.out
        simp at hi
        rcases hi with hi | hi | hi
        · omega
        · omega
        · have := (hR.out.lt i hi).1; omega
      go_wp2_with fail
      go_ret
      refine ⟨_, rfl, ?_, hkp7⟩
      rw [← HE2.out, ← endToks_map, ← List.map_append]
      have h8 := h7.toks.toks
      rw [List.length_append] at h8
      exact h8
end Go.Proofs.YtlcljanibjdejaaGreat
namespace Go.Proofs.YtlcljanibjdejaaGreat
theorem drop_parts {l : List UInt8} {k : Nat} {a : UInt8} {r : List UInt8} (h : l.drop k = a :: r) : k < l.length ∧ l.getD k 0 = a ∧ l.drop (k + 1) = r ∧ l.length = k + 1 + r.length := by
  have hk : k < l.length := by
    rcases Nat.lt_or_ge k l.length with h' | h'
    · exact h'
    · rw [List.drop_eq_nil_of_le h'] at h; simp at h
  have e := List.drop_eq_getElem_cons hk
  rw [h] at e
  simp only [List.cons.injEq] at e
  refine ⟨hk, ?_, e.2.symm, ?_⟩
  · rw [List.getD_eq_getElem?_getD, List.getElem?_eq_getElem hk]; exact e.1.symm
  · have := congrArg List.length h
    rw [List.length_drop] at this
    simp at this
    omega
theorem st_head {l : List UInt8} {k : Nat} {a : UInt8} {r : List UInt8} (h : l.drop k = a :: r) (ha : a ≠ 60) (p : List UInt8) : stL l k (60 :: p) = false := by
  unfold stL
  rw [h]
  have : ((60 : UInt8) == a) = false := by simpa using Ne.symm ha
  simp [List.isPrefixOf, this]
theorem text_piece {l : List UInt8} {k : Nat} {a : UInt8} {r : List UInt8} (h : l.drop k = a :: r) (ha : a ≠ 60) (raw : List UInt8) (out : List Tok) :
    pieceL l k raw out = some (k + 1 + (r.takeWhile noLt).length, raw ++ [a] ++ r.takeWhile noLt, out) := by
  obtain ⟨h1, h2, h3, _⟩ := drop_parts h
  have e1 := st_head h ha []
  have e2 := st_head h ha [47]
  have e3 := st_head h ha [33, 45, 45]
  have e4 := st_head h ha [33]
  have e5 := st_head h ha [63]
  unfold pieceL tagL
  rw [e1, e2, e3, e4, e5]
  simp only [Bool.false_and, Bool.false_or, Bool.false_eq_true, if_false]
  unfold textL
  rw [h2, h3]
theorem noLt_all {s : List UInt8} (h : ∀ c ∈ s, c ≠ 60) : s.takeWhile noLt = s := by
  induction s with
  | nil => rfl
  | cons a s ih =>
    have : noLt a = true := by simp [noLt, h a (by simp)]
    rw [List.takeWhile_cons, this]
    simp [ih (fun c hc => h c (by simp [hc]))]
theorem noLt_upto {s t : List UInt8} (h : ∀ c ∈ s, c ≠ 60) : (s ++ 60 :: t).takeWhile noLt = s := by
  induction s with
  | nil => rfl
  | cons a s ih =>
    have : noLt a = true := by simp [noLt, h a (by simp)]
    rw [List.cons_append, List.takeWhile_cons, this]
    simp [ih (fun c hc => h c (by simp [hc]))]
theorem takeWhile_stop {f : UInt8 → Bool} {sk : List UInt8} {d : UInt8} {q : List UInt8} (h : ∀ x ∈ sk, f x = true) (hd : f d = false) : (sk ++ d :: q).takeWhile f = sk := by
  induction sk with
  | nil => simp [hd]
  | cons a sk ih =>
    rw [List.cons_append, List.takeWhile_cons, h a (by simp)]
    simp [ih (fun x hx => h x (by simp [hx]))]
theorem valL_quote {qu : UInt8} (hq : qu = 34 ∨ qu = 39) (V t : List UInt8) (hV : ∀ x ∈ V, x ≠ qu) : valL (qu :: (V ++ qu :: t)) = some (V, V.length + 2) := by
  have h := takeWhile_stop (f := (· != qu)) (sk := V) (d := qu) (q := t) (fun x hx => by simpa using hV x hx) (by simp)
  unfold valL
  simp only [if_pos hq]
  rw [h, if_pos (by simp)]
theorem attrs_end {l : List UInt8} {f k : Nat} {acc : List Pair} {sk q : List UInt8} (h : l.drop k = sk ++ 62 :: q) (hsk : ∀ x ∈ sk, skipB x = true) : attrsAt l (f + 1) k acc = some (acc, k + sk.length) := by
  have e1 : (l.drop k).takeWhile skipB = sk := by rw [h]; exact takeWhile_stop hsk (by decide)
  have e2 : l.drop (k + sk.length) = 62 :: q := by rw [← drop_drop', h, List.drop_left]
  rw [attrsAt, e1, e2]
  simp
theorem attrs_one {l : List UInt8} {f k : Nat} {acc : List Pair} {sk q : List UInt8} {d : UInt8} {p : Pair} {m : Nat} (h : l.drop k = sk ++ d :: q) (hsk : ∀ x ∈ sk, skipB x = true) (hd : skipB d = false) (h62 : d ≠ 62) (ha : attrL (d :: q) = some (p, m))
    (hnew : p.1 ∉ acc.map (·.1)) (hn : isNameL p.1 = true) : attrsAt l (f + 1) k acc = attrsAt l f (k + sk.length + m) (acc ++ [p]) := by
  have e1 : (l.drop k).takeWhile skipB = sk := by rw [h]; exact takeWhile_stop hsk hd
  have e2 : l.drop (k + sk.length) = d :: q := by rw [← drop_drop', h, List.drop_left]
  rw [attrsAt, e1, e2]
  simp only [if_neg h62, ha]
  rw [if_neg (by simp only [hn]; simpa using hnew)]
theorem putB_signs (c d : UInt8) (h : d ∈ putB c) : d ≠ 60 ∧ d ≠ 62 ∧ d ≠ 34 := by
  unfold putB at h
  split at h
  · simp at h; rcases h with h | h | h | h | h <;> subst h <;> decide
  · split at h
    · simp at h; rcases h with h | h | h | h <;> subst h <;> decide
    · split at h
      · simp at h; rcases h with h | h | h | h <;> subst h <;> decide
      · split at h
        · simp at h; rcases h with h | h | h | h | h | h <;> subst h <;> decide
        · rename_i h1 h2 h3 h4
          simp at h; subst h; exact ⟨h2, h3, h4⟩
theorem putL_signs (l : List UInt8) (d : UInt8) (h : d ∈ putL l) : d ≠ 60 ∧ d ≠ 62 ∧ d ≠ 34 := by
  simp only [putL, List.mem_flatMap] at h
  obtain ⟨c, _, hc⟩ := h
  exact putB_signs c d hc
theorem nameB_facts {c : UInt8} (h : nameB c = true) : tagN c = true ∧ attrN c = true ∧ lowB c = c ∧ skipB c = false ∧ c ≠ 62 := by
  have h256 : ∀ i : Fin 256, nameB (UInt8.ofNat i.val) = true → tagN (UInt8.ofNat i.val) = true ∧ attrN (UInt8.ofNat i.val) = true ∧ lowB (UInt8.ofNat i.val) = UInt8.ofNat i.val ∧ skipB (UInt8.ofNat i.val) = false ∧ UInt8.ofNat i.val ≠ 62 := by decide +kernel
  have := h256 ⟨c.toNat, UInt8.toNat_lt c⟩
  simp only [UInt8.ofNat_toNat] at this
  exact this h
theorem smallB_letter {c : UInt8} (h : smallB c = true) : letterB c = true := by simp [letterB, h]
theorem name_parts {n : List UInt8} (h : isNameL n = true) : (∀ c ∈ n, nameB c = true) ∧ ∃ c r, n = c :: r ∧ smallB c = true := by
  unfold isNameL at h
  simp only [Bool.and_eq_true, decide_eq_true_eq, List.all_eq_true] at h
  obtain ⟨⟨⟨h1, _⟩, h3⟩, h4⟩ := h
  refine ⟨h4, ?_⟩
  cases n with
  | nil => simp at h1
  | cons c r => exact ⟨c, r, rfl, by simpa using h3⟩
theorem lower_name {n : List UInt8} (h : ∀ c ∈ n, nameB c = true) : lowerL n = n := by
  unfold lowerL
  induction n with
  | nil => rfl
  | cons a n ih =>
    rw [List.map_cons, (nameB_facts (h a (by simp))).2.2.1, ih (fun c hc => h c (by simp [hc]))]
theorem attrL_printed {n v t : List UInt8} (hn : isNameL n = true) : attrL (n ++ [61, 34] ++ putL v ++ [34] ++ t) = some ((n, v), n.length + 2 + (putL v).length + 1) := by
  obtain ⟨hall, c, r, rfl, hc⟩ := name_parts hn
  have hr : ∀ x ∈ r, attrN x = true := fun x hx => (nameB_facts (hall x (by simp [hx]))).2.1
  have e0 : c :: r ++ [61, 34] ++ putL v ++ [34] ++ t = c :: (r ++ 61 :: (34 :: (putL v ++ 34 :: t))) := by simp
  rw [e0]
  have hL : (r ++ 61 :: (34 :: (putL v ++ 34 :: t))).takeWhile attrN = r := takeWhile_stop hr (by decide)
  have hd : (c :: (r ++ 61 :: (34 :: (putL v ++ 34 :: t)))).drop (1 + r.length) = 61 :: (34 :: (putL v ++ 34 :: t)) := by
    rw [show c :: (r ++ 61 :: (34 :: (putL v ++ 34 :: t))) = (c :: r) ++ 61 :: (34 :: (putL v ++ 34 :: t)) from rfl, show 1 + r.length = (c :: r).length from by simp; omega, List.drop_left]
  have hW : ((c :: (r ++ 61 :: (34 :: (putL v ++ 34 :: t)))).drop (1 + r.length)).takeWhile whiteB = [] := by rw [hd]; rfl
  rw [attrL_cons _ _ r [] hL hW]
  have hv := valL_quote (.inl rfl) (putL v) t (fun x hx => (putL_signs v x hx).2.2)
  have hw : (34 :: (putL v ++ 34 :: t)).takeWhile whiteB = [] := rfl
  simp only [List.length_nil, Nat.add_zero, hd, if_true, hw, List.drop_zero, hv]
  rw [lower_name hall, takeL_putL]
  simp
  omega
theorem attrs_printed (L : List UInt8) : ∀ (la acc : List Pair) (f k : Nat) (t : List UInt8), L.drop k = pairsP la ++ 62 :: t → la.length < f → chkA la (acc.map (·.1)) = 0 → attrsAt L f k acc = some (acc ++ la, k + (pairsP la).length)
  | [], acc, f, k, t, h, hf, _ => by
    obtain ⟨g, rfl⟩ : ∃ g, f = g + 1 := ⟨f - 1, by simp at hf; omega⟩
    rw [attrs_end (sk := []) (by simpa [pairsP] using h) (by simp)]
    simp [pairsP]
  | p :: la, acc, f, k, t, h, hf, hc => by
    obtain ⟨g, rfl⟩ : ∃ g, f = g + 1 := ⟨f - 1, by simp at hf; omega⟩
    unfold chkA at hc
    have hn : isNameL p.1 = true := by
      cases hq : isNameL p.1
      · simp [hq] at hc
      · rfl
    have hm : p.1 ∉ acc.map (·.1) := by
      intro hm
      simp [hn, hm] at hc
    have hc' : chkA la ((acc ++ [p]).map (·.1)) = 0 := by
      rw [List.map_append]
      simpa [hn, hm] using hc
    have ha := attrL_printed (v := p.2) (t := pairsP la ++ 62 :: t) hn
    obtain ⟨hall, c, r, hcr, _⟩ := name_parts hn
    have e1 : L.drop k = [32] ++ c :: (r ++ [61, 34] ++ putL p.2 ++ [34] ++ (pairsP la ++ 62 :: t)) := by
      rw [h]
      simp [pairsP, pairP, hcr]
    have ha' : attrL (c :: (r ++ [61, 34] ++ putL p.2 ++ [34] ++ (pairsP la ++ 62 :: t))) = some (p, p.1.length + 2 + (putL p.2).length + 1) := by
      rw [← ha, hcr]
      simp
    have hcf := nameB_facts (hall c (by rw [hcr]; simp))
    rw [attrs_one e1 (by decide) hcf.2.2.2.1 hcf.2.2.2.2 ha' hm hn]
    have hlen : (pairP p).length = 1 + (p.1.length + 2 + (putL p.2).length + 1) := by simp [pairP]; omega
    have e2 : L.drop (k + ([32] : List UInt8).length + (p.1.length + 2 + (putL p.2).length + 1)) = pairsP la ++ 62 :: t := by
      rw [show k + ([32] : List UInt8).length + (p.1.length + 2 + (putL p.2).length + 1) = k + (pairP p).length from by rw [hlen]; simp; omega, ← drop_drop', h, show pairsP (p :: la) = pairP p ++ pairsP la from by simp [pairsP], List.append_assoc, List.drop_left]
    rw [attrs_printed L la (acc ++ [p]) g _ t e2 (by simp at hf; omega) hc']
    have e3 : pairsP (p :: la) = pairP p ++ pairsP la := by simp [pairsP]
    rw [e3, List.length_append, hlen]
    simp
    omega
theorem chkT_cases {t : Tok} (h : chkT t = 0) :
    (∃ x, x ≠ [] ∧ t = ⟨1, [], [], x⟩) ∨ (∃ n a, isNameL n = true ∧ chkA a [] = 0 ∧ t = ⟨2, n, a, []⟩) ∨ (∃ n, isNameL n = true ∧ t = ⟨3, n, [], []⟩) := by
  obtain ⟨kd, nm, la, tx⟩ := t
  unfold chkT at h
  simp only at h
  by_cases k1 : kd = 1
  · subst k1
    rw [if_pos rfl] at h
    split at h
    · simp at h
    · rename_i hc
      simp only [not_or, Classical.not_not, ne_eq] at hc
      obtain ⟨rfl, rfl, h3⟩ := hc
      exact .inl ⟨tx, h3, rfl⟩
  · rw [if_neg k1] at h
    by_cases k2 : kd = 2
    · subst k2
      rw [if_pos rfl] at h
      split at h
      · simp at h
      · rename_i hc
        simp only [not_or, Classical.not_not, ne_eq] at hc
        obtain ⟨rfl, h3⟩ := hc
        exact .inr (.inl ⟨nm, la, by simpa using h3, h, rfl⟩)
    · rw [if_neg k2] at h
      by_cases k3 : kd = 3
      · subst k3
        rw [if_pos rfl] at h
        split at h
        · simp at h
        · rename_i hc
          simp only [not_or, Classical.not_not, ne_eq] at hc
          obtain ⟨rfl, rfl, h3⟩ := hc
          exact .inr (.inr ⟨nm, by simpa using h3, rfl⟩)
      · rw [if_neg k3] at h
        simp at h
theorem chkFrom_cons {p : Int} {t : Tok} {r : List Tok} (h : chkFrom p (t :: r) = 0) : chkT t = 0 ∧ ¬ (t.kind = 1 ∧ p = 1) ∧ chkFrom t.kind r = 0 := by
  unfold chkFrom at h
  split at h
  · rename_i hc; exact absurd h hc
  · rename_i hc
    split at h
    · simp at h
    · rename_i h2
      exact ⟨by simpa using hc, h2, h⟩
theorem putB_ne (c : UInt8) : putB c ≠ [] := by
  unfold putB
  repeat (first | (split) | simp)
theorem putL_cons {x : List UInt8} (h : x ≠ []) : ∃ a r, putL x = a :: r := by
  cases x with
  | nil => exact absurd rfl h
  | cons c x =>
    cases hp : putL (c :: x) with
    | nil =>
      have e : putL (c :: x) = putB c ++ putL x := by simp [putL]
      rw [e] at hp
      exact absurd (List.append_eq_nil_iff.1 hp).1 (putB_ne c)
    | cons a r => exact ⟨a, r, rfl⟩
theorem toksP_head {r : List Tok} (h : chkFrom 1 r = 0) : toksP r = [] ∨ ∃ z, toksP r = 60 :: z := by
  cases r with
  | nil => exact .inl rfl
  | cons t r =>
    obtain ⟨h1, h2, _⟩ := chkFrom_cons h
    have e : toksP (t :: r) = tokP t ++ toksP r := by simp [toksP]
    rcases chkT_cases h1 with ⟨x, _, rfl⟩ | ⟨n, a, _, _, rfl⟩ | ⟨n, _, rfl⟩
    · exact absurd ⟨rfl, rfl⟩ h2
    · exact .inr ⟨_, by rw [e]; simp [tokP, openP]; rfl⟩
    · exact .inr ⟨_, by rw [e]; simp [tokP]; rfl⟩
theorem pairs_head (la : List Pair) (t : List UInt8) : ∃ d q, pairsP la ++ 62 :: t = d :: q ∧ tagN d = false := by
  cases la with
  | nil => exact ⟨62, t, rfl, by decide⟩
  | cons p la => exact ⟨32, _, by simp [pairsP, pairP]; rfl, by decide⟩
theorem pairs_len (la : List Pair) : la.length ≤ (pairsP la).length := by
  induction la with
  | nil => simp
  | cons p la ih =>
    have e : pairsP (p :: la) = pairP p ++ pairsP la := by simp [pairsP]
    rw [e, List.length_append]
    have : 1 ≤ (pairP p).length := by simp [pairP]
    simp only [List.length_cons]; omega
theorem open_piece {L : List UInt8} {k : Nat} {n t : List UInt8} {la : List Pair} (h : L.drop k = 60 :: (n ++ (pairsP la ++ 62 :: t))) (hn : isNameL n = true) (ha : chkA la [] = 0) (raw : List UInt8) (out : List Tok) :
    pieceL L k raw out = some (k + (tokP ⟨2, n, la, []⟩).length, [], out ++ endT raw ++ [⟨2, n, la, []⟩]) := by
  obtain ⟨hall, c, r, rfl, hc⟩ := name_parts hn
  obtain ⟨h1, _, h3, h4⟩ := drop_parts h
  obtain ⟨g1, g2, _, _⟩ := drop_parts (show L.drop (k + 1) = c :: (r ++ (pairsP la ++ 62 :: t)) from h3)
  have e1 : tagL L k [60] = true := by
    unfold tagL stL
    rw [h]
    have e : L.getD (k + ([60] : List UInt8).length) 0 = c := g2
    rw [e, smallB_letter hc]
    simp [List.isPrefixOf]
    exact g1
  obtain ⟨d, q, hd, hdt⟩ := pairs_head la t
  have hN : (L.drop (k + 1)).takeWhile tagN = c :: r := by
    rw [h3, hd]
    exact takeWhile_stop (fun x hx => (nameB_facts (hall x hx)).1) hdt
  have hd2 : L.drop (k + 1 + (c :: r).length) = pairsP la ++ 62 :: t := by rw [← drop_drop', h3, List.drop_left]
  have hlen := pairs_len la
  have hat := attrs_printed L la [] (L.length + 1) _ t hd2 (by simp only [List.length_cons, List.length_append] at h4; omega) ha
  unfold pieceL
  rw [if_pos e1]
  unfold openL
  rw [hN, hat]
  simp only [lower_name hall, hn, if_true, List.nil_append]
  simp [tokP, openP]
  omega
theorem close_piece {L : List UInt8} {k : Nat} {n t : List UInt8} (h : L.drop k = 60 :: 47 :: (n ++ 62 :: t)) (hn : isNameL n = true) (raw : List UInt8) (out : List Tok) :
    pieceL L k raw out = some (k + (tokP ⟨3, n, [], []⟩).length, [], out ++ endT raw ++ [⟨3, n, [], []⟩]) := by
  obtain ⟨hall, c, r, rfl, hc⟩ := name_parts hn
  obtain ⟨h1, _, h3, h4⟩ := drop_parts h
  obtain ⟨g1, g2, g3, _⟩ := drop_parts h3
  obtain ⟨i1, i2, _, _⟩ := drop_parts (show L.drop (k + 1 + 1) = c :: (r ++ 62 :: t) from g3)
  have e1 : tagL L k [60] = false := by
    unfold tagL
    have e : L.getD (k + ([60] : List UInt8).length) 0 = 47 := g2
    rw [e]
    simp
    intro _ _
    decide
  have e2 : tagL L k [60, 47] = true := by
    unfold tagL stL
    rw [h]
    have e : L.getD (k + ([60, 47] : List UInt8).length) 0 = c := i2
    rw [e, smallB_letter hc]
    simp [List.isPrefixOf]
    exact i1
  have hN : (L.drop (k + 2)).takeWhile tagN = c :: r := by
    rw [show k + 2 = k + 1 + 1 from rfl, g3]
    exact takeWhile_stop (fun x hx => (nameB_facts (hall x hx)).1) (by decide)
  have hd2 : L.drop (k + 2 + (c :: r).length) = 62 :: t := by rw [← drop_drop', show k + 2 = k + 1 + 1 from rfl, g3, List.drop_left]
  have he : endOf [62] (62 :: t) = some 1 := endOf_here (by unfold Lib.hasPrefix; simp [List.isPrefixOf])
  unfold pieceL
  rw [if_neg (by rw [e1]; simp), if_pos e2]
  unfold closeL
  rw [hN, hd2, he]
  simp only [lower_name hall, hn, if_true]
  simp [tokP]
  omega
theorem read_printed_at (L : List UInt8) : ∀ (rest : List Tok) (f k : Nat) (raw : List UInt8) (out : List Tok) (pk : Int), L.drop k = toksP rest → chkFrom pk rest = 0 → (pk ≠ 1 → raw = []) → (toksP rest).length < f → readAt L f k raw out = out ++ endT raw ++ rest
  | [], f, k, raw, out, pk, h, _, _, hf => by
    obtain ⟨g, rfl⟩ : ∃ g, f = g + 1 := ⟨f - 1, by omega⟩
    rw [readAt_end (List.drop_eq_nil_iff.1 h)]
    simp
  | t :: r, f, k, raw, out, pk, h, hc, hraw, hf => by
    obtain ⟨g, rfl⟩ : ∃ g, f = g + 1 := ⟨f - 1, by omega⟩
    obtain ⟨h1, h2, h3⟩ := chkFrom_cons hc
    have e : toksP (t :: r) = tokP t ++ toksP r := by simp [toksP]
    rw [e] at h hf
    rw [List.length_append] at hf
    rcases chkT_cases h1 with ⟨x, hx, rfl⟩ | ⟨n, a, hn, ha, rfl⟩ | ⟨n, hn, rfl⟩
    · have hr0 : raw = [] := hraw (fun e => h2 ⟨rfl, e⟩)
      subst hr0
      obtain ⟨b, y, hby⟩ := putL_cons hx
      have et : tokP ⟨1, [], [], x⟩ = putL x := rfl
      rw [et] at h hf
      have hb : b ≠ 60 := (putL_signs x b (by rw [hby]; simp)).1
      have hy : ∀ z ∈ y, z ≠ 60 := fun z hz => (putL_signs x z (by rw [hby]; simp [hz])).1
      have h' : L.drop k = b :: (y ++ toksP r) := by rw [h, hby]; rfl
      obtain ⟨p1, _, _, _⟩ := drop_parts h'
      have htw : (y ++ toksP r).takeWhile noLt = y := by
        rcases toksP_head h3 with e0 | ⟨z, e0⟩
        · rw [e0, List.append_nil]; exact noLt_all hy
        · rw [e0]; exact noLt_upto hy
      have hp := text_piece h' hb [] out
      rw [htw] at hp
      have hlen : (putL x).length = 1 + y.length := by rw [hby]; simp; omega
      have hd : L.drop (k + 1 + y.length) = toksP r := by
        rw [show k + 1 + y.length = k + (putL x).length from by omega, ← drop_drop', h, List.drop_left]
      rw [readAt_some p1 hp, read_printed_at L r g _ _ out 1 hd h3 (fun hq => absurd rfl hq) (by omega)]
      have e1 : ([] : List UInt8) ++ [b] ++ y = putL x := by rw [hby]; rfl
      have e2 : endT (putL x) = [textTok x] := by
        unfold endT
        rw [if_neg (by rw [hby]; simp), takeL_putL]
      rw [e1, e2]
      simp [endT, textTok]
    · have h' : L.drop k = 60 :: (n ++ (pairsP a ++ 62 :: toksP r)) := by rw [h]; simp [tokP, openP]
      obtain ⟨p1, _, _, _⟩ := drop_parts h'
      have hd : L.drop (k + (tokP ⟨2, n, a, []⟩).length) = toksP r := by rw [← drop_drop', h, List.drop_left]
      have hpos : 1 ≤ (tokP ⟨2, n, a, []⟩).length := by simp [tokP, openP]
      rw [readAt_some p1 (open_piece h' hn ha raw out), read_printed_at L r g _ _ _ 2 hd h3 (fun _ => rfl) (by omega)]
      simp [endT]
    · have h' : L.drop k = 60 :: 47 :: (n ++ 62 :: toksP r) := by rw [h]; simp [tokP]
      obtain ⟨p1, _, _, _⟩ := drop_parts h'
      have hd : L.drop (k + (tokP ⟨3, n, [], []⟩).length) = toksP r := by rw [← drop_drop', h, List.drop_left]
      have hpos : 1 ≤ (tokP ⟨3, n, [], []⟩).length := by simp [tokP]
      rw [readAt_some p1 (close_piece h' hn raw out), read_printed_at L r g _ _ _ 3 hd h3 (fun _ => rfl) (by omega)]
      simp [endT]
theorem read_printed (l : List Tok) (h : chkL l = 0) : readL (toksP l) = l := by
  unfold chkL at h
  split at h
  · simp at h
  · unfold readL
    rw [read_printed_at (toksP l) l _ 0 [] [] 0 rfl h (fun _ => rfl) (by omega)]
    simp [endT]
theorem encode_ne (n : Nat) : Lib.encodeRune n ≠ [] := by
  unfold Lib.encodeRune Lib.encodeRuneZ
  rw [Ne, List.map_eq_nil_iff]
  repeat' split
  all_goals simp
theorem takeOne_ne (l : List UInt8) (h : l ≠ []) : (takeOne l).1 ≠ [] := by
  unfold takeOne
  split
  · split
    · exact encode_ne _
    · exact encode_ne _
  · cases l with
    | nil => exact absurd rfl h
    | cons a l => simp
theorem takeL_ne {l : List UInt8} (h : l ≠ []) : (takeL l).1 ≠ [] := by
  cases l with
  | nil => exact absurd rfl h
  | cons c l =>
    by_cases hc : c = 38
    · rw [takeL_and c l hc]
      intro e
      exact takeOne_ne (c :: l) (by simp) (List.append_eq_nil_iff.1 e).1
    · rw [takeL_other c l hc]
      simp
def lastK : Int → List Tok → Int
  | p, [] => p
  | _, t :: r => lastK t.kind r
theorem lastK_app (p : Int) (a b : List Tok) : lastK p (a ++ b) = lastK (lastK p a) b := by
  induction a generalizing p with
  | nil => rfl
  | cons t a ih => exact ih t.kind
theorem chkFrom_app {p : Int} {a b : List Tok} (ha : chkFrom p a = 0) (hb : chkFrom (lastK p a) b = 0) : chkFrom p (a ++ b) = 0 := by
  induction a generalizing p with
  | nil => exact hb
  | cons t a ih =>
    obtain ⟨h1, h2, h3⟩ := chkFrom_cons ha
    rw [List.cons_append]
    unfold chkFrom
    rw [if_neg (by simpa using h1), if_neg h2]
    exact ih h3 hb
theorem chkFrom_one {p : Int} {t : Tok} (h1 : chkT t = 0) (h2 : ¬ (t.kind = 1 ∧ p = 1)) : chkFrom p [t] = 0 := by
  unfold chkFrom
  rw [if_neg (by simpa using h1), if_neg h2]
  rfl
theorem endT_good {p : Int} (hp : p ≠ 1) (raw : List UInt8) : chkFrom p (endT raw) = 0 := by
  unfold endT
  split
  · rfl
  · rename_i h
    exact chkFrom_one (by simp [chkT, textTok, takeL_ne h]) (fun hq => hp hq.2)
theorem chkA_app (a : List Pair) (met : List (List UInt8)) (p : Pair) (h : chkA a met = 0) (hn : isNameL p.1 = true) (hm : p.1 ∉ met) (ha : p.1 ∉ a.map (·.1)) : chkA (a ++ [p]) met = 0 := by
  induction a generalizing met with
  | nil => simp [chkA, hn, hm]
  | cons q a ih =>
    unfold chkA at h
    rw [List.cons_append]
    unfold chkA
    split at h
    · simp at h
    · rename_i h1
      split at h
      · simp at h
      · rename_i h2
        rw [if_neg h1, if_neg h2]
        simp only [List.map_cons, List.mem_cons, not_or] at ha
        exact ih _ h (by simp [hm, ha.1]) ha.2
theorem attrsAt_good (l : List UInt8) : ∀ (f k : Nat) (acc a : List Pair) (k2 : Nat), chkA acc [] = 0 → attrsAt l f k acc = some (a, k2) → chkA a [] = 0
  | 0, k, acc, a, k2, _, h => by simp [attrsAt] at h
  | f + 1, k, acc, a, k2, hacc, h => by
    have e := (one_attrsAt h _ rfl).symm
    split at e
    · simp at e
    · split at e
      · simp only [Option.some.injEq, Prod.mk.injEq] at e
        rw [← e.1]; exact hacc
      · split at e
        · simp at e
        · rename_i p m _
          refine attrsAt_good l f _ _ _ _ ?_ e
          split
          · exact hacc
          · rename_i hc
            simp only [not_or] at hc
            exact chkA_app acc [] p hacc (by simpa using hc.2) (by simp) hc.1
def count (raw : List UInt8) (out : List Tok) : Nat := out.length + (endT raw).length
theorem count_tag (raw : List UInt8) (out : List Tok) (t : Tok) : count [] (out ++ endT raw ++ [t]) = count raw out + 1 := by
  simp [count, endT]
  omega
structure Good (k : Nat) (raw : List UInt8) (out : List Tok) : Prop where
  right : chkFrom 0 out = 0
  last : lastK 0 out ≠ 1
  few : count raw out ≤ k
theorem Good.tag {k k' : Nat} {raw : List UInt8} {out : List Tok} (h : Good k raw out) (t : Tok) (ht : chkT t = 0) (hk : t.kind ≠ 1) (hkk : k < k') : Good k' [] (out ++ endT raw ++ [t]) := by
  refine ⟨?_, ?_, by rw [count_tag]; have := h.few; omega⟩
  · exact chkFrom_app (chkFrom_app h.right (endT_good h.last raw)) (chkFrom_one ht (fun hq => hk hq.1))
  · rw [lastK_app]; exact hk
theorem Good.on {k k' : Nat} {raw raw' : List UInt8} {out : List Tok} (h : Good k raw out) (hk : k < k') : Good k' raw' out := by
  refine ⟨h.right, h.last, ?_⟩
  have h1 := h.few
  have h2 := endT_len raw'
  unfold count at h1 ⊢
  omega
theorem piece_good {l : List UInt8} {k : Nat} {raw : List UInt8} {out : List Tok} {k' : Nat} {raw' : List UInt8} {out' : List Tok} (h : pieceL l k raw out = some (k', raw', out')) (hk : k < l.length) (hg : Good k raw out) : Good k' raw' out' := by
  have hb := (pieceL_bound h hk).1
  unfold pieceL at h
  split at h
  · unfold openL at h
    split at h
    · simp at h
    · rename_i a k2 ha
      split at h
      · rename_i hn
        simp only [Option.some.injEq, Prod.mk.injEq] at h
        obtain ⟨rfl, rfl, rfl⟩ := h
        exact hg.tag _ (by simp [chkT, hn, attrsAt_good _ _ _ _ _ _ rfl ha]) (show (2 : Int) ≠ 1 by decide) hb
      · simp only [Option.some.injEq, Prod.mk.injEq] at h
        obtain ⟨rfl, rfl, rfl⟩ := h
        exact hg.on hb
  split at h
  · unfold closeL at h
    split at h
    · simp at h
    · split at h
      · rename_i hn
        simp only [Option.some.injEq, Prod.mk.injEq] at h
        obtain ⟨rfl, rfl, rfl⟩ := h
        exact hg.tag _ (by simp [chkT, hn]) (show (3 : Int) ≠ 1 by decide) hb
      · simp only [Option.some.injEq, Prod.mk.injEq] at h
        obtain ⟨rfl, rfl, rfl⟩ := h
        exact hg.on hb
  split at h
  · unfold comL at h
    split at h
    · simp at h
    · simp only [Option.some.injEq, Prod.mk.injEq] at h
      obtain ⟨rfl, rfl, rfl⟩ := h
      exact hg.on hb
  split at h
  · unfold declL at h
    split at h
    · simp at h
    · simp only [Option.some.injEq, Prod.mk.injEq] at h
      obtain ⟨rfl, rfl, rfl⟩ := h
      exact hg.on hb
  · unfold textL at h
    simp only [Option.some.injEq, Prod.mk.injEq] at h
    obtain ⟨rfl, rfl, rfl⟩ := h
    exact hg.on hb
theorem readAt_good (l : List UInt8) : ∀ (f k : Nat) (raw : List UInt8) (out : List Tok), k ≤ l.length → Good k raw out → chkFrom 0 (readAt l f k raw out) = 0 ∧ (readAt l f k raw out).length ≤ l.length
  | 0, k, raw, out, hk, hg => by
    refine ⟨chkFrom_app hg.right (endT_good hg.last raw), ?_⟩
    have := hg.few
    unfold count at this
    simp only [readAt, List.length_append]
    omega
  | f + 1, k, raw, out, hk, hg => by
    by_cases he : l.length ≤ k
    · rw [readAt_end he]
      refine ⟨chkFrom_app hg.right (endT_good hg.last raw), ?_⟩
      have := hg.few
      unfold count at this
      rw [List.length_append]
      omega
    · have hlt : k < l.length := by omega
      cases hp : pieceL l k raw out with
      | none =>
        rw [readAt_none hlt hp]
        exact readAt_good l f _ _ _ (Nat.le_refl _) (hg.on hlt)
      | some q =>
        obtain ⟨k', raw', out'⟩ := q
        rw [readAt_some hlt hp]
        exact readAt_good l f _ _ _ (pieceL_bound hp hlt).2.1 (piece_good hp hlt hg)
theorem readL_good (l : List UInt8) (h : l.length ≤ 3000) : chkL (readL l) = 0 := by
  have hg : Good 0 [] [] := ⟨rfl, by decide, by simp [count, endT]⟩
  have := readAt_good l (l.length + 1) 0 [] [] (Nat.zero_le _) hg
  unfold chkL readL
  rw [if_neg (by omega)]
  exact this.1
end Go.Proofs.YtlcljanibjdejaaGreat
namespace Go.Proofs.YtlcljanibjdejaaGreat
open Go.RowKit Go.Maps Go.Deep
def bulkP (l : List Pair) : Nat := (l.map fun p => p.1.length + p.2.length + 2).sum
def bulkT (t : Tok) : Nat := t.name.length + t.text.length + bulkP t.attrs + 4
def bulkL (l : List Tok) : Nat := (l.map bulkT).sum
theorem str_backA (s : ByteArray) : (⟨s.data.toList.toArray⟩ : ByteArray) = s := WideShapes.bytes_inj (by simp)
section
variable {H : Type} {enc : TypeId × Value → H} {w : World} {base : Nat} {spare : Nat → Bool} {held : Bool}
end
end Go.Proofs.YtlcljanibjdejaaGreat
namespace Go.Proofs.YtlcljanibjdejaaGreat
open Go.RowKit Go.Maps
theorem bulkP_len (l : List Pair) : l.length ≤ bulkP l ∧ ∀ p ∈ l, p.1.length ≤ bulkP l := by
  induction l with
  | nil => simp [bulkP]
  | cons a l ih =>
    simp only [bulkP, List.map_cons, List.sum_cons] at ih ⊢
    refine ⟨by simp; omega, fun p hp => ?_⟩
    rcases List.mem_cons.1 hp with rfl | hp
    · omega
    · have := ih.2 p hp; omega
theorem bulkL_mem {t : Tok} {l : List Tok} (h : t ∈ l) : bulkT t ≤ bulkL l := by
  induction l with
  | nil => simp at h
  | cons a l ih =>
    simp only [bulkL, List.map_cons, List.sum_cons] at ih ⊢
    rcases List.mem_cons.1 h with rfl | h
    · omega
    · have := ih h; omega
theorem bulkL_text (l : List Tok) : (l.flatMap Tok.text).length ≤ bulkL l := by
  induction l with
  | nil => simp
  | cons a l ih =>
    simp only [bulkL, List.map_cons, List.sum_cons, List.flatMap_cons, List.length_append, bulkT] at ih ⊢
    omega
theorem bulk_fits {l : List Tok} (h : bulkL l ≤ 1100000) : ∀ t ∈ l, FitsT t ∧ t.attrs.length ≤ 2000000 := by
  intro t ht
  have h1 := bulkL_mem ht
  have h2 := bulkP_len t.attrs
  unfold bulkT at h1
  refine ⟨⟨by unfold maxLen; omega, fun p hp => by have := h2.2 p hp; unfold maxLen; omega⟩, by omega⟩
end Go.Proofs.YtlcljanibjdejaaGreat
namespace Go.Proofs.YtlcljanibjdejaaGreat
theorem takeF_len : ∀ (f : Nat) (l : List UInt8), (takeF f l).1.length ≤ 4 * l.length
  | 0, l => by simp [takeF]
  | f + 1, [] => by simp [takeF]
  | f + 1, c :: l => by
    unfold takeF
    split
    · have h1 := takeOne_le (c :: l) (by simp)
      have h2 := takeF_len f ((c :: l).drop (takeOne (c :: l)).2.1)
      rw [List.length_drop] at h2
      simp only [List.length_append]
      omega
    · have h2 := takeF_len f l
      simp only [List.length_cons]
      omega
theorem takeL_len (l : List UInt8) : (takeL l).1.length ≤ 4 * l.length := takeF_len _ _
theorem valL_both {l v : List UInt8} {m : Nat} (h : valL l = some (v, m)) : v.length ≤ m := by
  unfold valL at h
  split at h
  · simp at h
  · split at h
    · split at h
      · simp only [Option.some.injEq, Prod.mk.injEq] at h
        rw [← h.1, ← h.2]; omega
      · simp at h
    · simp only [Option.some.injEq, Prod.mk.injEq] at h
      rw [← h.1, ← h.2]
      exact Nat.le_refl _
theorem attrL_bulk {l : List UInt8} {p : Pair} {m : Nat} (h : attrL l = some (p, m)) : p.1.length + p.2.length + 2 ≤ 6 * m := by
  unfold attrL at h
  split at h
  · simp at h
  · split at h
    · simp at h
    · split at h
      · split at h
        · simp at h
        · rename_i v m' hv
          have h1 := valL_both hv
          have h2 := takeL_len v
          simp only [Option.some.injEq, Prod.mk.injEq] at h
          rw [← h.1]
          simp only [lowerL, List.length_map, List.length_cons]
          omega
      · simp only [Option.some.injEq, Prod.mk.injEq] at h
        rw [← h.1]
        simp only [lowerL, List.length_map, List.length_cons, List.length_nil]
        omega
theorem bulkP_app (a : List Pair) (p : Pair) : bulkP (a ++ [p]) = bulkP a + (p.1.length + p.2.length + 2) := by simp [bulkP]
theorem attrsAt_bulk (l : List UInt8) : ∀ (f k : Nat) (acc a : List Pair) (k2 : Nat), attrsAt l f k acc = some (a, k2) → bulkP a + 6 * k ≤ bulkP acc + 6 * k2
  | 0, k, acc, a, k2, h => by simp [attrsAt] at h
  | f + 1, k, acc, a, k2, h => by
    have e := (one_attrsAt h _ rfl).symm
    split at e
    · simp at e
    · split at e
      · simp only [Option.some.injEq, Prod.mk.injEq] at e
        rw [← e.1]; omega
      · split at e
        · simp at e
        · rename_i p m hp
          have h1 := attrsAt_bulk l f _ _ _ _ e
          have h2 := attrL_bulk hp
          split at h1
          · omega
          · rw [bulkP_app] at h1
            omega
theorem bulkL_app (a b : List Tok) : bulkL (a ++ b) = bulkL a + bulkL b := by simp [bulkL]
theorem endT_bulk (raw : List UInt8) : bulkL (endT raw) ≤ 8 * raw.length := by
  unfold endT
  split
  · simp [bulkL]
  · rename_i h
    have h1 := takeL_len raw
    have h2 : 1 ≤ raw.length := List.length_pos_iff.2 h
    simp [bulkL, bulkT, textTok, bulkP]
    omega
theorem piece_bulk {l : List UInt8} {k : Nat} {raw : List UInt8} {out : List Tok} {k' : Nat} {raw' : List UInt8} {out' : List Tok} (h : pieceL l k raw out = some (k', raw', out')) (hk : k < l.length) (hg : bulkL out + 8 * raw.length ≤ 12 * k) : bulkL out' + 8 * raw'.length ≤ 12 * k' := by
  have hb := (pieceL_bound h hk)
  have he := endT_bulk raw
  unfold pieceL at h
  split at h
  · unfold openL at h
    split at h
    · simp at h
    · rename_i a k2 ha
      have h1 := attrsAt_bulk _ _ _ _ _ _ ha
      have h2 := attrsAt_bound _ _ _ _ _ _ ha
      split at h
      · simp only [Option.some.injEq, Prod.mk.injEq] at h
        obtain ⟨rfl, rfl, rfl⟩ := h
        rw [bulkL_app, bulkL_app]
        simp [bulkL, bulkT, lowerL, bulkP] at h1 he hg ⊢
        omega
      · simp only [Option.some.injEq, Prod.mk.injEq] at h
        obtain ⟨rfl, rfl, rfl⟩ := h
        omega
  split at h
  · unfold closeL at h
    split at h
    · simp at h
    · rename_i m hm
      split at h
      · simp only [Option.some.injEq, Prod.mk.injEq] at h
        obtain ⟨rfl, rfl, rfl⟩ := h
        rw [bulkL_app, bulkL_app]
        simp [bulkL, bulkT, lowerL, bulkP] at he hg ⊢
        omega
      · simp only [Option.some.injEq, Prod.mk.injEq] at h
        obtain ⟨rfl, rfl, rfl⟩ := h
        omega
  split at h
  · unfold comL at h
    split at h
    · simp at h
    · simp only [Option.some.injEq, Prod.mk.injEq] at h
      obtain ⟨rfl, rfl, rfl⟩ := h
      omega
  split at h
  · unfold declL at h
    split at h
    · simp at h
    · simp only [Option.some.injEq, Prod.mk.injEq] at h
      obtain ⟨rfl, rfl, rfl⟩ := h
      omega
  · unfold textL at h
    simp only [Option.some.injEq, Prod.mk.injEq] at h
    obtain ⟨rfl, rfl, rfl⟩ := h
    omega
theorem readAt_bulk (l : List UInt8) : ∀ (f k : Nat) (raw : List UInt8) (out : List Tok), k ≤ l.length → bulkL out + 8 * raw.length ≤ 12 * k → bulkL (readAt l f k raw out) ≤ 12 * l.length
  | 0, k, raw, out, hk, hg => by
    have := endT_bulk raw
    simp only [readAt, bulkL_app]
    omega
  | f + 1, k, raw, out, hk, hg => by
    by_cases he : l.length ≤ k
    · rw [readAt_end he, bulkL_app]
      have := endT_bulk raw
      omega
    · have hlt : k < l.length := by omega
      cases hp : pieceL l k raw out with
      | none =>
        rw [readAt_none hlt hp]
        exact readAt_bulk l f _ _ _ (Nat.le_refl _) (by rw [List.length_append, List.length_drop]; omega)
      | some q =>
        obtain ⟨k', raw', out'⟩ := q
        rw [readAt_some hlt hp]
        exact readAt_bulk l f _ _ _ (pieceL_bound hp hlt).2.1 (piece_bulk hp hlt hg)
theorem readL_bulk (l : List UInt8) : bulkL (readL l) ≤ 12 * l.length := readAt_bulk l _ 0 [] [] (Nat.zero_le _) (by simp [bulkL])
end Go.Proofs.YtlcljanibjdejaaGreat
namespace Go.Proofs.YtlcljanibjdejaaGreat
open Go.RowKit Go.Maps
def bulkNs : List Nd → Nat
  | [] => 0
  | .mk n a t k :: r => n.length + t.length + bulkP a + bulkNs k + 3 + bulkNs r
theorem bulkNs_cons (n : Nd) (r : List Nd) : bulkNs (n :: r) = n.name.length + n.text.length + bulkP n.attrs + bulkNs n.kids + 3 + bulkNs r := by
  obtain ⟨n, a, t, k⟩ := n
  rw [bulkNs]
  rfl
theorem bulkNs_size : (ns : List Nd) → sizeNs ns ≤ bulkNs ns
  | [] => by simp [sizeNs, bulkNs]
  | .mk n a t k :: r => by
    have h1 := bulkNs_size k
    have h2 := bulkNs_size r
    rw [sizeNs, bulkNs]
    omega
theorem bulkNs_fits : (ns : List Nd) → bulkNs ns ≤ 1100000 → FitsNs ns ∧ FewNs ns
  | [], _ => by simp [FitsNs, FewNs]
  | .mk n a t k :: r, h => by
    rw [bulkNs] at h
    have h1 := bulkNs_fits k (by omega)
    have h2 := bulkNs_fits r (by omega)
    have h3 := bulkP_len a
    rw [FitsNs, FewNs]
    exact ⟨⟨⟨by unfold maxLen; omega, fun p hp => by have := h3.2 p hp; unfold maxLen; omega⟩, h1.1, h2.1⟩, by omega, h1.2, h2.2⟩
theorem bulkNs_append (a b : List Nd) : bulkNs (a ++ b) = bulkNs a + bulkNs b := by
  induction a with
  | nil => simp [bulkNs]
  | cons n a ih => rw [List.cons_append, bulkNs_cons, bulkNs_cons, ih]; omega
def opBulk (o : Op) : Nat := o.name.length + bulkP o.attrs + bulkNs o.kids + 3
def St.bulk (s : St) : Nat := (s.all.map opBulk).sum + if s.text = [] then 0 else s.text.length + 3
theorem bulkP_nil : bulkP [] = 0 := rfl
theorem bulk_endText (s : St) : s.endText.bulk = s.bulk := by
  unfold St.endText
  split
  · rfl
  · next h => simp [St.bulk, St.all, opBulk, Op.put, bulkNs_append, textN, bulkNs, bulkP_nil, h]; omega
theorem bulk_pop (s : St) : s.pop.bulk = s.bulk := by
  rw [← bulk_endText s]
  unfold St.pop
  split
  · rfl
  · next o up h =>
    have h1 := endText_up s
    have h2 := endText_text s
    rw [h] at h1
    simp [St.bulk, St.all, opBulk, Op.put, bulkNs_append, h1, h2, Op.nd, bulkNs]
    omega
theorem bulk_close (k : Nat) (s : St) : (s.close k).bulk = s.bulk := by
  induction k generalizing s with
  | zero => rfl
  | succ k ih => rw [St.close, ih, bulk_pop]
theorem bulk_step (s : St) (t : Tok) : (s.step t).bulk ≤ s.bulk + bulkT t := by
  unfold St.step bulkT
  split
  · simp only [St.bulk, St.all]
    split
    · next h => simp at h; simp [h]
    · split
      · next h h2 => simp [h2]; omega
      · simp; omega
  · split
    · unfold St.openTag St.closeFrom
      split
      · rw [bulk_close]; omega
      · rw [← bulk_close (s.up.length + 1 - closedL s.names t.name) s]
        generalize s.close (s.up.length + 1 - closedL s.names t.name) = u
        rw [← bulk_endText u]
        unfold St.openIn
        split
        · simp [St.bulk, St.all, opBulk, St.put, Op.put, bulkNs_append, bulkNs, endText_text]
          omega
        · simp [St.bulk, St.all, opBulk, endText_up, endText_text, bulkNs]
          omega
    · unfold St.closeTag St.closeFrom
      rw [bulk_close]
      omega
theorem bulk_fold (ts : List Tok) (s : St) : (ts.foldl St.step s).bulk ≤ s.bulk + bulkL ts := by
  induction ts generalizing s with
  | nil => simp [bulkL]
  | cons t ts ih =>
    rw [List.foldl_cons, show bulkL (t :: ts) = bulkT t + bulkL ts from by simp [bulkL]]
    have := ih (s.step t)
    have := bulk_step s t
    omega
theorem bulk_build (ts : List Tok) : bulkNs (buildL ts) ≤ bulkL ts := by
  have h1 := bulk_fold ts St.start
  have h0 : St.start.bulk = 3 := by simp [St.bulk, St.all, St.start, opBulk, bulkNs, bulkP_nil]
  rw [h0] at h1
  unfold buildL St.closeFrom
  rw [Nat.add_sub_cancel]
  have hu := close_up (ts.foldl St.step St.start).up.length (ts.foldl St.step St.start)
  rw [List.drop_length] at hu
  rw [← bulk_close (ts.foldl St.step St.start).up.length] at h1
  generalize (ts.foldl St.step St.start).close (ts.foldl St.step St.start).up.length = u at *
  rw [← bulk_endText] at h1
  have h2 := endText_up u
  rw [hu] at h2
  simp [St.bulk, St.all, opBulk, h2, endText_text] at h1
  omega
set_option maxHeartbeats 1000000 in
theorem isSrc_any (n v : List UInt8) (w : World) : Calls Tryz.prog 175 #[.agg #[.string ⟨n.toArray⟩, .string ⟨v.toArray⟩]] w fun e w' => e = .returned (.bool (n == [115, 114, 99])) ∧ Keeps [] w w' := by
  have hk : Keeps [] w (w.alloc (.cells #[.string ⟨n.toArray⟩, .string ⟨v.toArray⟩] 52)) := (Keeps.refl [] w).alloc _
  cases h1 : (n == [115, 114, 99])
  all_goals
    have p1 := (nameEq n _).trans h1
    go_enter Tryz.func175, Tryz.ntmps175
    go_wp2_with fail
    go_ret
    exact ⟨rfl, hk⟩
def idxFrom : List Pair → Nat → Int
  | [], _ => -1
  | p :: r, k => if (p.1 == [115, 114, 99]) = true then (k : Int) else idxFrom r (k + 1)
theorem idx_src : ∀ (l : List Pair) (k : Nat), decide (0 ≤ idxFrom l k) = hasSrc l
  | [], k => by simp [idxFrom, hasSrc]
  | p :: r, k => by
    rw [idxFrom]
    have := idx_src r (k + 1)
    unfold hasSrc at this ⊢
    rw [List.any_cons]
    cases h : (p.1 == [115, 114, 99])
    · simpa using this
    · simp
theorem enters175 : Enters 175 := enters_of Tryz.func175 (by kernel_rfl) (by kernel_rfl)
set_option maxRecDepth 4000 in
set_option maxHeartbeats 4000000 in
theorem indexSrc_any (w : World) (v : Value) (l : List Pair) (hv : Lies w v l.length 2 (pairCells l)) :
    Calls Tryz.prog 245 #[v, .func (.func 175) #[] #[]] w fun e w' => e = .returned (.int .i64 (idxFrom l 0)) ∧ Keeps [] w w' := by
  have hE := enters175
  unfold Enters at hE
  obtain ⟨o, c, rfl, h1, h2⟩ := hv.form
  obtain ⟨R, hR⟩ : ∃ R, idxFrom l 0 = R := ⟨_, rfl⟩
  rw [hR]
  have HR := hide hR
  clear hR
  unfold maxLen at h2
  go_enter Tryz.func245, Tryz.ntmps245
  go_wp2_with fail
  go_loopw [8] (fun i wr => ∃ k : Nat, k ≤ l.length ∧ i = .int .i64 k ∧ Keeps [] w wr ∧ Hid (idxFrom (l.drop k) k = R)) (fun i _ => l.length - (intOf i).toNat)
  case atStart => exact ⟨0, Nat.zero_le _, rfl, Keeps.refl _ _, HR⟩
  case round =>
    obtain ⟨k, hk, rfl, hkw, hC⟩ := hrel
    clear HR
    by_cases hlt : k < l.length
    · obtain ⟨g, x, rfl, hc⟩ := (hv.keeps hkw).addr (by omega)
      have a0 := hc _ _ (pair_at0 l k hlt)
      have a1 := hc _ _ (pair_at1 l k hlt)
      rw [← Nat.add_assoc] at a1
      have hC1 := hC.out
      rw [List.drop_eq_getElem_cons hlt, idxFrom] at hC1
      have HC1 := hide hC1
      clear hC hC1 hc
      generalize l[k] = p at *
      obtain ⟨n, v⟩ := p
      simp only at a0 a1
      have hs := hide (isSrc_any n v wr)
      cases hb : (n == [115, 114, 99])
      · rw [hb] at hs
        go_wp2_with fail
        refine hs.out.mono ?_
        rintro e w1 ⟨rfl, hk1⟩
        clear a0 a1
        go_wp2_with fail
        go_roundw
        case rel => exact ⟨k + 1, by omega, by go_num, hkw.trans hk1, by have h9 := HC1.out; simp only [hb] at h9; exact hide (by simpa using h9)⟩
        case measure => simp [intOf]; omega
      · rw [hb] at hs
        go_wp2_with fail
        refine hs.out.mono ?_
        rintro e w1 ⟨rfl, hk1⟩
        clear a0 a1
        go_wp2_with fail
        go_ret
        refine ⟨?_, hkw.trans hk1⟩
        have h9 := HC1.out
        simp only [hb, if_true] at h9
        rw [← h9]
        rfl
    · have hRR : R = -1 := by
        rw [← hC.out, List.drop_eq_nil_of_le (by omega)]
        rfl
      subst hRR
      go_wp2_with fail
      go_ret
      exact ⟨rfl, hkw⟩
set_option maxHeartbeats 1000000 in
theorem containsSrc_any (w : World) (v : Value) (l : List Pair) (hv : Lies w v l.length 2 (pairCells l)) :
    Calls Tryz.prog 174 #[v, .func (.func 175) #[] #[]] w fun e w' => e = .returned (.bool (hasSrc l)) ∧ Keeps [] w w' := by
  have hs := hide (indexSrc_any w v l hv)
  obtain ⟨o, c, rfl, h1, h2⟩ := hv.form
  rw [← idx_src l 0]
  generalize idxFrom l 0 = R at *
  clear hv
  cases hd : decide (0 ≤ R)
  all_goals
    go_enter Tryz.func174, Tryz.ntmps174
    go_wp2_with fail
    refine hs.out.mono ?_
    rintro e w1 ⟨rfl, hk1⟩
    go_wp2_with fail
    go_ret
    exact ⟨rfl, hk1⟩
end Go.Proofs.YtlcljanibjdejaaGreat
namespace Go.Proofs
open Go.Shelf
def Tryz.lays156_ren : Go.Shelf.Ren := ⟨fun | 156 => 208 | 165 => 279 | 166 => 144 | 169 => 98 | 240 => 214 | 241 => 313 | 276 => 283 | 277 => 332 | n => n, fun | 31 => 62 | 9 => 9 | 3 => 3 | 4 => 4 | 0 => 0 | 20 => 20 | 72 => 134 | 76 => 175 | 70 => 132 | 37 => 107 | 75 => 174 | 127 => 203 | 164 => 257 | 5 => 5 | 80 => 111 | n => n, fun | n => n⟩
theorem Tryz.lays156 : Go.Proofs.Lays.n156 Tryz.prog Tryz.lays156_ren := {
  mixed := by kernel_rfl
  f156 := Tryz.func208.trans (congrArg some (by kernel_rfl))
  f165 := Tryz.func279.trans (congrArg some (by kernel_rfl))
  f166 := Tryz.func144.trans (congrArg some (by kernel_rfl))
  f169 := Tryz.func98.trans (congrArg some (by kernel_rfl))
  f240 := Tryz.func214.trans (congrArg some (by kernel_rfl))
  f241 := Tryz.func313.trans (congrArg some (by kernel_rfl))
  f276 := Tryz.func283.trans (congrArg some (by kernel_rfl))
  f277 := Tryz.func332.trans (congrArg some (by kernel_rfl))
  t0 := Tryz.underlying0
  a0 := Tryz.isAgg0
  z0 := Tryz.sizeOf0
  v0 := Tryz.zeroValue0
  t3 := Tryz.underlying3
  a3 := Tryz.isAgg3
  z3 := Tryz.sizeOf3
  v3 := Tryz.zeroValue3
  t4 := Tryz.underlying4
  a4 := Tryz.isAgg4
  z4 := Tryz.sizeOf4
  v4 := Tryz.zeroValue4
  t9 := Tryz.underlying9
  a9 := Tryz.isAgg9
  z9 := Tryz.sizeOf9
  v9 := Tryz.zeroValue9
  t20 := Tryz.underlying20
  a20 := Tryz.isAgg20
  z20 := Tryz.sizeOf20
  v20 := Tryz.zeroValue20
  t31 := Tryz.underlying62
  a31 := Tryz.isAgg62
  z31 := Tryz.sizeOf62
  v31 := Tryz.zeroValue62
  t37 := Tryz.underlying107
  a37 := Tryz.isAgg107
  z37 := Tryz.sizeOf107
  v37 := Tryz.zeroValue107
  t70 := Tryz.underlying132
  a70 := Tryz.isAgg132
  z70 := Tryz.sizeOf132
  v70 := Tryz.zeroValue132
  t72 := Tryz.underlying134
  a72 := Tryz.isAgg134
  z72 := Tryz.sizeOf134
  v72 := Tryz.zeroValue134
  t75 := Tryz.underlying174
  a75 := Tryz.isAgg174
  z75 := Tryz.sizeOf174
  v75 := Tryz.zeroValue174
  t76 := Tryz.underlying175
  a76 := Tryz.isAgg175
  z76 := Tryz.sizeOf175
  v76 := Tryz.zeroValue175
  t127 := Tryz.underlying203
  a127 := Tryz.isAgg203
  z127 := Tryz.sizeOf203
  v127 := Tryz.zeroValue203
  t164 := Tryz.underlying257
  a164 := Tryz.isAgg257
  z164 := Tryz.sizeOf257
  v164 := Tryz.zeroValue257 }
theorem Tryz.Builder_Extra_156 : Builder.Extra Tryz.prog Tryz.lays156_ren := {
  sizeBuilder := by kernel_rfl
  liesBuilder := by kernel_rfl
  t5 := Tryz.underlying5
  a5 := Tryz.isAgg5
  z5 := Tryz.sizeOf5
  v5 := Tryz.zeroValue5
  infoByte := by kernel_rfl
  cellsByte := by kernel_rfl
  sizeByte := by kernel_rfl
  neB5 := by decide }
open Go.RowKit in
theorem Tryz.strings_Join (bk o c : Nat) (xs : List ByteArray) (sep : ByteArray) (w : World) (hcells : ∀ (j : Nat) x, xs[j]? = some x → w.cell? ⟨bk, o + j, none⟩ = some (.string x)) (hbk : bk < w.heap.size) (hN : xs.length ≤ 140737488355328) (hcap : xs.length ≤ c) (hlen : (Lib.join (xs.map (·.data.toList)) sep.data.toList).length ≤ 140737488355328) :
    Calls Tryz.prog 208 #[.slice (some ⟨bk, o, none⟩) xs.length c, .string sep] w fun e w' => e = .returned (.string ⟨(Lib.join (xs.map (·.data.toList)) sep.data.toList).toArray⟩) ∧ Below w.heap.size w w' := Any.strings_Join Tryz.lays156 Tryz.Builder_Extra_156 bk o c xs sep w hcells hbk hN hcap hlen
def Tryz.lays137_ren : Go.Shelf.Ren := ⟨fun | 137 => 287 | 217 => 315 | 266 => 334 | n => n, fun | 9 => 9 | 5 => 5 | 3 => 3 | n => n, fun | n => n⟩
theorem Tryz.lays137 : Go.Proofs.Lays.n137 Tryz.prog Tryz.lays137_ren := {
  mixed := by kernel_rfl
  f137 := Tryz.func287.trans (congrArg some (by kernel_rfl))
  f217 := Tryz.func315.trans (congrArg some (by kernel_rfl))
  f266 := Tryz.func334.trans (congrArg some (by kernel_rfl))
  t3 := Tryz.underlying3
  a3 := Tryz.isAgg3
  z3 := Tryz.sizeOf3
  v3 := Tryz.zeroValue3
  t5 := Tryz.underlying5
  a5 := Tryz.isAgg5
  z5 := Tryz.sizeOf5
  v5 := Tryz.zeroValue5
  t9 := Tryz.underlying9
  a9 := Tryz.isAgg9
  z9 := Tryz.sizeOf9
  v9 := Tryz.zeroValue9 }
open Go.RowKit in
theorem Tryz.strings_IndexByte (s : ByteArray) (c : Int) (w : World) :
    Calls Tryz.prog 287 #[.string s, .int .u8 c] w fun e w' => e = .returned (.int .i64 (Lib.indexByte s.data.toList c.toNat.toUInt8)) ∧ w' = w := Any.strings_IndexByte Tryz.lays137 s c w
def Tryz.lays149_ren : Go.Shelf.Ren := ⟨fun | 149 => 290 | 222 => 317 | n => n, fun | 9 => 9 | 5 => 5 | 3 => 3 | 4 => 4 | n => n, fun | n => n⟩
theorem Tryz.lays149 : Go.Proofs.Lays.n149 Tryz.prog Tryz.lays149_ren := {
  mixed := by kernel_rfl
  f149 := Tryz.func290.trans (congrArg some (by kernel_rfl))
  f222 := Tryz.func317.trans (congrArg some (by kernel_rfl))
  t3 := Tryz.underlying3
  a3 := Tryz.isAgg3
  z3 := Tryz.sizeOf3
  v3 := Tryz.zeroValue3
  t4 := Tryz.underlying4
  a4 := Tryz.isAgg4
  z4 := Tryz.sizeOf4
  v4 := Tryz.zeroValue4
  t5 := Tryz.underlying5
  a5 := Tryz.isAgg5
  z5 := Tryz.sizeOf5
  v5 := Tryz.zeroValue5
  t9 := Tryz.underlying9
  a9 := Tryz.isAgg9
  z9 := Tryz.sizeOf9
  v9 := Tryz.zeroValue9 }
open Go.RowKit Go.Lib in
theorem Tryz.strings_LastIndexByte (s : ByteArray) (c : Int) (hs : s.size < 4611686018427387904) (w : World) :
    Calls Tryz.prog 290 #[.string s, .int .u8 c] w fun e w' => e = .returned (.int .i64 (Lib.lastIndexByte s c)) ∧ w' = w := Any.strings_LastIndexByte Tryz.lays149 s c hs w
end Go.Proofs
