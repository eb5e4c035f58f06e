/- TokensOf of the document's answer. -/
import Derived.Test.YtaeblkmkpfklkaaRefC
namespace Go.Proofs.Ytaeblkmkpfklkaa
open Go.RowKit Go.Maps

set_option maxRecDepth 4000 in
set_option maxHeartbeats 16000000 in
theorem tokensOf_any (s : ByteArray) (w : World) (hs : s.size ≤ 3000) :
    Calls Try.prog 19 #[.string s] w fun e w' => ∃ v, e = .returned v ∧ Toks w' v (readL s.data.toList) ∧ Keeps [] w w' := by
  have hl := len_size s
  obtain ⟨R, hRR⟩ : ∃ R, readL s.data.toList = R := ⟨_, rfl⟩
  have HR0 : Hid (Rds s.data.toList 0 [] [] R) := hRR ▸ Rds.start _
  rw [hRR]
  clear hRR
  obtain ⟨i0, hi, hz0, hz1, hz2⟩ := info_parts info43
  have hE := enters40
  unfold Enters at hE
  go_enter Try.func19, Try.ntmps19
  go_wp2_with fail
  have hR0 : Rf ((w.alloc (.cells #[.slice none 0 0] 32)).alloc (.cells #[.string ⟨#[]⟩] 9)) (w.heap.size + 2) (w.heap.size + 1) w.heap.size (.slice none 0 0) [] [] :=
    ⟨by have := heap_alloc_new (w.alloc (.cells #[.slice none 0 0] 32)) (.cells #[.string ⟨#[]⟩] 9); simpa using this, by rw [((Keeps.refl [] (w.alloc (.cells #[.slice none 0 0] 32))).alloc _).block w.heap.size (by simp) List.not_mem_nil]; exact heap_alloc_new w _, World.ownsRow_nil _ _ _ _, by simp, by omega, by omega, by omega⟩
  have hk0 : Keeps [] w ((w.alloc (.cells #[.slice none 0 0] 32)).alloc (.cells #[.string ⟨#[]⟩] 9)) := ((Keeps.refl [] w).alloc _).alloc _
  have hs0 : w.heap.size + 2 ≤ ((w.alloc (.cells #[.slice none 0 0] 32)).alloc (.cells #[.string ⟨#[]⟩] 9)).heap.size := by simp
  generalize hbo : w.heap.size = bo at *
  have HBO := hide hbo
  clear hbo
  generalize hB : bo + 2 = B at *
  have hBB : bo ≤ B := by omega
  clear hB
  generalize hbt : bo + 1 = bt at *
  have hbtB : bo ≤ bt := by omega
  clear hbt
  go_loopg [6] (s.size + 1) (fun g i wr => ∃ (k : Nat) (raw : List UInt8) (outv : Value) (l : List (Tok × Value)), k ≤ s.size ∧ s.size + 1 ≤ g + k ∧ i = .int .i64 k ∧ Rf wr B bt bo outv raw l ∧ B ≤ wr.heap.size ∧ Keeps [] w wr ∧ raw.length ≤ k ∧ l.length ≤ 2 * k ∧ Hid (Rds s.data.toList k raw (l.map (·.1)) R))
  case atStart => exact ⟨0, [], _, [], Nat.zero_le _, by omega, rfl, hR0, hs0, hk0, Nat.le_refl _, Nat.le_refl _, HR0⟩
  case round =>
    obtain ⟨k, raw, outv, l, hk, hg, rfl, hR, hBw, hkp, hra, hla, hF⟩ := hrel
    clear HR0 hR0 hk0 hs0
    obtain ⟨f, rfl⟩ : ∃ f, gk = f + 1 := ⟨gk - 1, by omega⟩
    generalize wr = W at *
    by_cases hend : k < s.size
    · have hb256 : s[k].toNat < 256 := UInt8.toNat_lt s[k]
      have hkl : k < s.data.toList.length := by rw [hl]; exact hend
      have hlk : s.data.toList[k] = s[k] := rfl
      by_cases h60 : s[k] = 60
      · have e60 : ((s[k].toNat : Int) != 60) = false := by rw [h60]; rfl
        have H60 := hide h60
        clear h60
        go_upto_block 2 with fail
        have hA : IsTok (W.alloc (.cells #[.int .i64 0, .string ⟨#[]⟩, .slice none 0 0, .string ⟨#[]⟩] 43)) W.heap.size (⟨0, [], [], []⟩, .slice none 0 0) := heap_alloc_new W _
        have hkA : Keeps [] W (W.alloc (.cells #[.int .i64 0, .string ⟨#[]⟩, .slice none 0 0, .string ⟨#[]⟩] 43)) := (Keeps.refl [] W).alloc _
        have hRA := hR.keepsNil hkA
        have hBA := Nat.le_trans hBw hkA.size
        obtain ⟨g, hgW⟩ : ∃ g, W.heap.size = g := ⟨_, rfl⟩
        rw [hgW] at hA
        have hWg : W.heap.size ≤ g := by omega
        have hBg : B ≤ g := by omega
        simp only [hgW]
        clear hgW
        generalize (W.alloc (.cells #[.int .i64 0, .string ⟨#[]⟩, .slice none 0 0, .string ⟨#[]⟩] 43)) = WA at *
        go_cut [7] (fun s7 wx => ∃ (z : Int) (t : Tok) (av : Value), s7 = .int .i64 z ∧ IsTok wx g (t, av) ∧ Keeps [g] WA wx ∧ HasAttrs wx B (t, av) ∧ Hid (Sw s.data.toList k raw (l.map (·.1)) z t))
        case first => as_aux_lemma =>
          obtain ⟨isO, hO⟩ : ∃ b, tagL s.data.toList k [60] = b := ⟨_, rfl⟩
          obtain ⟨isC, hC⟩ : ∃ b, tagL s.data.toList k [60, 47] = b := ⟨_, rfl⟩
          have HO := hide hO
          have HC := hide hC
          have HOe := hide (tagL_open s k hend H60.out)
          have HCe := hide (tagL_close s k)
          clear hO hC
          go_upto_region 11 with fail
          go_cut [29] (fun s29 wx => s29 = .bool isO ∧ WA = wx)
          case first => as_aux_lemma =>
            by_cases h1 : k + 1 < s.size
            · have hw := hide (fun w => isLetter_any s[k + 1] w)
              have hb1 : s[k + 1].toNat < 256 := UInt8.toNat_lt s[k + 1]
              have hx : Hid (isO = letterB s[k + 1]) := by rw [Hid, ← HO.out, HOe.out, byteAt_get s (k + 1) h1]; simp [h1]
              generalize letterB s[k + 1] = bl at *
              go_wp2_with (go_at_call 41; refine (hw.out _).mono ?_; rintro e w9 ⟨rfl, rfl⟩)
              go_meet
              case rel => exact ⟨by rw [hx.out], by first | rfl | trivial⟩
            · have hx : Hid (isO = false) := by rw [Hid, ← HO.out, HOe.out]; simp [h1]
              go_wp2_with fail
              go_meet
              case rel => exact ⟨by rw [hx.out], by first | rfl | trivial⟩
          case rest =>
            obtain ⟨rfl, hwc⟩ := hcut
            subst hwc
            go_upto_if 29 with fail
            go_cut [29] (fun s29 wx => s29 = .bool (isO || isC) ∧ WA = wx)
            case first => as_aux_lemma =>
              cases isO
              · have hst := hide (fun w => startsAt_any s k ⟨#[60, 47]⟩ hs (by omega) (by decide) w)
                rw [show (⟨#[60, 47]⟩ : ByteArray).data.toList = [60, 47] from rfl] at hst
                cases hb : stAt s k [60, 47]
                · rw [hb] at hst
                  have hx : Hid (isC = false) := by rw [Hid, ← HC.out, HCe.out, hb]; rfl
                  clear hb
                  go_wp2_with (go_at_call 42; refine (hst.out _).mono ?_; rintro e w9 ⟨rfl, rfl⟩)
                  go_meet
                  case rel => exact ⟨by rw [hx.out]; rfl, by first | rfl | trivial⟩
                · rw [hb] at hst
                  by_cases h2 : k + 2 < s.size
                  · have hw := hide (fun w => isLetter_any s[k + 2] w)
                    have hb1 : s[k + 2].toNat < 256 := UInt8.toNat_lt s[k + 2]
                    have hx : Hid (isC = letterB s[k + 2]) := by rw [Hid, ← HC.out, HCe.out, hb, byteAt_get s (k + 2) h2]; simp [h2]
                    clear hb
                    generalize letterB s[k + 2] = bl at *
                    go_wp2_with (first | (go_at_call 42; refine (hst.out _).mono ?_; rintro e w9 ⟨rfl, rfl⟩) | (go_at_call 41; refine (hw.out _).mono ?_; rintro e w9 ⟨rfl, rfl⟩))
                    go_meet
                    case rel => exact ⟨by rw [hx.out]; rfl, by first | rfl | trivial⟩
                  · have hx : Hid (isC = false) := by rw [Hid, ← HC.out, HCe.out]; simp [h2]
                    clear hb
                    go_wp2_with (go_at_call 42; refine (hst.out _).mono ?_; rintro e w9 ⟨rfl, rfl⟩)
                    go_meet
                    case rel => exact ⟨by rw [hx.out]; rfl, by first | rfl | trivial⟩
              · go_wp2_with fail
                go_meet
                case rel => exact ⟨rfl, by first | rfl | trivial⟩
            case rest =>
              obtain ⟨rfl, hwc⟩ := hcut
              subst hwc
              have c0 : WA.cell? ⟨g, 0, none⟩ = some (.int .i64 0) := by rw [hA.cell 0]; rfl
              have f0 := tok_free hA 0
              cases isO
              · cases isC
                · as_aux_lemma =>
                  have s3 := hide (fun w => startsAt_any s k ⟨#[60, 33, 45, 45]⟩ hs (by omega) (by decide) w)
                  have s4 := hide (fun w => startsAt_any s k ⟨#[60, 33]⟩ hs (by omega) (by decide) w)
                  have s5 := hide (fun w => startsAt_any s k ⟨#[60, 63]⟩ hs (by omega) (by decide) w)
                  have s6 := hide (fun w => startsAt_any s k ⟨#[60, 47]⟩ hs (by omega) (by decide) w)
                  rw [show (⟨#[60, 33, 45, 45]⟩ : ByteArray).data.toList = [60, 33, 45, 45] from rfl] at s3
                  rw [show (⟨#[60, 33]⟩ : ByteArray).data.toList = [60, 33] from rfl] at s4
                  rw [show (⟨#[60, 63]⟩ : ByteArray).data.toList = [60, 63] from rfl] at s5
                  rw [show (⟨#[60, 47]⟩ : ByteArray).data.toList = [60, 47] from rfl] at s6
                  have hz : HasAttrs WA B (⟨0, [], [], []⟩, .slice none 0 0) := World.ownsRow_nil _ _ _ _
                  cases h3 : stAt s k [60, 33, 45, 45]
                  · rw [h3] at s3
                    cases h4 : stAt s k [60, 33]
                    · rw [h4] at s4
                      cases h5 : stAt s k [60, 63]
                      · rw [h5] at s5
                        cases h6 : stAt s k [60, 47]
                        · rw [h6] at s6
                          have HS := hide (sw_text (raw := raw) (out := l.map (·.1)) HO.out HC.out h3 (by rw [h4, h5, h6]; rfl) ⟨0, [], [], []⟩)
                          clear h3 h4 h5 h6
                          go_wp2_with fail
                          refine (s3.out _).mono ?_
                          rintro e y3 ⟨rfl, hy3⟩
                          obtain rfl : WA = y3 := hy3.symm
                          go_wp2_with fail
                          refine (s4.out _).mono ?_
                          rintro e y4 ⟨rfl, hy4⟩
                          obtain rfl : WA = y4 := hy4.symm
                          go_wp2_with fail
                          refine (s5.out _).mono ?_
                          rintro e y5 ⟨rfl, hy5⟩
                          obtain rfl : WA = y5 := hy5.symm
                          go_wp2_with fail
                          refine (s6.out _).mono ?_
                          rintro e y6 ⟨rfl, hy6⟩
                          obtain rfl : WA = y6 := hy6.symm
                          go_wp2_with fail
                          go_meet
                          case rel => exact ⟨_, ⟨0, [], [], []⟩, _, rfl, hA, Keeps.refl _ _, hz, HS⟩
                        · rw [h6] at s6
                          have h456 : (stAt s k [60, 33] || (stAt s k [60, 63] || stAt s k [60, 47])) = true := by rw [h4, h5, h6]; rfl
                          clear h4 h5 h6
                          have hnx := hide (fun w => nextOf_any s ⟨#[62]⟩ k w hs (by decide) (by decide) (by omega))
                          rw [show (⟨#[62]⟩ : ByteArray).data.toList = [62] from rfl] at hnx
                          obtain ⟨E, hE2⟩ : ∃ E, nextIR s.data.toList [62] k = E := ⟨_, rfl⟩
                          rw [hE2] at hnx
                          by_cases hneg : E < 0
                          · have hE1 := nextIR_neg (l := s.data.toList) (p := [62]) (k := k) (by rw [hE2]; exact hneg)
                            rw [hE2] at hE1
                            have HS := hide (sw_decl0 (raw := raw) (out := l.map (·.1)) HO.out HC.out h3 h456 (by rw [hE2]; exact hneg) ⟨0, [], [], []⟩)
                            subst hE1
                            clear hE2 hneg h3 h456
                            go_wp2_with fail
                            refine (s3.out _).mono ?_
                            rintro e y3 ⟨rfl, hy3⟩
                            obtain rfl : WA = y3 := hy3.symm
                            go_wp2_with fail
                            refine (s4.out _).mono ?_
                            rintro e y4 ⟨rfl, hy4⟩
                            obtain rfl : WA = y4 := hy4.symm
                            go_wp2_with fail
                            refine (s5.out _).mono ?_
                            rintro e y5 ⟨rfl, hy5⟩
                            obtain rfl : WA = y5 := hy5.symm
                            go_wp2_with fail
                            refine (s6.out _).mono ?_
                            rintro e y6 ⟨rfl, hy6⟩
                            obtain rfl : WA = y6 := hy6.symm
                            go_wp2_with fail
                            refine (hnx.out _).mono ?_
                            rintro e w5 ⟨rfl, h5⟩
                            obtain rfl : WA = w5 := h5.symm
                            go_wp2_with fail
                            go_meet
                            case rel => exact ⟨_, ⟨0, [], [], []⟩, _, rfl, hA, Keeps.refl _ _, hz, HS⟩
                          · obtain ⟨m, hm, hm1, hm2⟩ := nextIR_nat (l := s.data.toList) (p := [62]) (k := k) (by rw [hE2]; omega) (by simp)
                            have HS := hide (sw_decl (raw := raw) (out := l.map (·.1)) (t := ⟨0, [], [], []⟩) HO.out HC.out h3 h456 hm hm1 rfl)
                            rw [hE2] at hm
                            subst hm
                            have hge : decide ((0 : Int) ≤ (m : Int)) = true := by simp
                            have hmb : m ≤ 3000 := by rw [hl] at hm2; omega
                            clear hE2 hneg hm2 h3 h456
                            go_wp2_with fail
                            refine (s3.out _).mono ?_
                            rintro e y3 ⟨rfl, hy3⟩
                            obtain rfl : WA = y3 := hy3.symm
                            go_wp2_with fail
                            refine (s4.out _).mono ?_
                            rintro e y4 ⟨rfl, hy4⟩
                            obtain rfl : WA = y4 := hy4.symm
                            go_wp2_with fail
                            refine (s5.out _).mono ?_
                            rintro e y5 ⟨rfl, hy5⟩
                            obtain rfl : WA = y5 := hy5.symm
                            go_wp2_with fail
                            refine (s6.out _).mono ?_
                            rintro e y6 ⟨rfl, hy6⟩
                            obtain rfl : WA = y6 := hy6.symm
                            go_wp2_with fail
                            refine (hnx.out _).mono ?_
                            rintro e w5 ⟨rfl, h5⟩
                            obtain rfl : WA = w5 := h5.symm
                            go_wp2_with fail
                            go_meet
                            case rel => exact ⟨_, ⟨0, [], [], []⟩, _, by go_num, hA, Keeps.refl _ _, hz, HS⟩
                      · rw [h5] at s5
                        have h456 : (stAt s k [60, 33] || (stAt s k [60, 63] || stAt s k [60, 47])) = true := by rw [h4, h5]; rfl
                        clear h4 h5
                        have hnx := hide (fun w => nextOf_any s ⟨#[62]⟩ k w hs (by decide) (by decide) (by omega))
                        rw [show (⟨#[62]⟩ : ByteArray).data.toList = [62] from rfl] at hnx
                        obtain ⟨E, hE2⟩ : ∃ E, nextIR s.data.toList [62] k = E := ⟨_, rfl⟩
                        rw [hE2] at hnx
                        by_cases hneg : E < 0
                        · have hE1 := nextIR_neg (l := s.data.toList) (p := [62]) (k := k) (by rw [hE2]; exact hneg)
                          rw [hE2] at hE1
                          have HS := hide (sw_decl0 (raw := raw) (out := l.map (·.1)) HO.out HC.out h3 h456 (by rw [hE2]; exact hneg) ⟨0, [], [], []⟩)
                          subst hE1
                          clear hE2 hneg h3 h456
                          go_wp2_with fail
                          refine (s3.out _).mono ?_
                          rintro e y3 ⟨rfl, hy3⟩
                          obtain rfl : WA = y3 := hy3.symm
                          go_wp2_with fail
                          refine (s4.out _).mono ?_
                          rintro e y4 ⟨rfl, hy4⟩
                          obtain rfl : WA = y4 := hy4.symm
                          go_wp2_with fail
                          refine (s5.out _).mono ?_
                          rintro e y5 ⟨rfl, hy5⟩
                          obtain rfl : WA = y5 := hy5.symm
                          go_wp2_with fail
                          refine (hnx.out _).mono ?_
                          rintro e w5 ⟨rfl, h5⟩
                          obtain rfl : WA = w5 := h5.symm
                          go_wp2_with fail
                          go_meet
                          case rel => exact ⟨_, ⟨0, [], [], []⟩, _, rfl, hA, Keeps.refl _ _, hz, HS⟩
                        · obtain ⟨m, hm, hm1, hm2⟩ := nextIR_nat (l := s.data.toList) (p := [62]) (k := k) (by rw [hE2]; omega) (by simp)
                          have HS := hide (sw_decl (raw := raw) (out := l.map (·.1)) (t := ⟨0, [], [], []⟩) HO.out HC.out h3 h456 hm hm1 rfl)
                          rw [hE2] at hm
                          subst hm
                          have hge : decide ((0 : Int) ≤ (m : Int)) = true := by simp
                          have hmb : m ≤ 3000 := by rw [hl] at hm2; omega
                          clear hE2 hneg hm2 h3 h456
                          go_wp2_with fail
                          refine (s3.out _).mono ?_
                          rintro e y3 ⟨rfl, hy3⟩
                          obtain rfl : WA = y3 := hy3.symm
                          go_wp2_with fail
                          refine (s4.out _).mono ?_
                          rintro e y4 ⟨rfl, hy4⟩
                          obtain rfl : WA = y4 := hy4.symm
                          go_wp2_with fail
                          refine (s5.out _).mono ?_
                          rintro e y5 ⟨rfl, hy5⟩
                          obtain rfl : WA = y5 := hy5.symm
                          go_wp2_with fail
                          refine (hnx.out _).mono ?_
                          rintro e w5 ⟨rfl, h5⟩
                          obtain rfl : WA = w5 := h5.symm
                          go_wp2_with fail
                          go_meet
                          case rel => exact ⟨_, ⟨0, [], [], []⟩, _, by go_num, hA, Keeps.refl _ _, hz, HS⟩
                    · rw [h4] at s4
                      have h456 : (stAt s k [60, 33] || (stAt s k [60, 63] || stAt s k [60, 47])) = true := by rw [h4]; rfl
                      clear h4
                      have hnx := hide (fun w => nextOf_any s ⟨#[62]⟩ k w hs (by decide) (by decide) (by omega))
                      rw [show (⟨#[62]⟩ : ByteArray).data.toList = [62] from rfl] at hnx
                      obtain ⟨E, hE2⟩ : ∃ E, nextIR s.data.toList [62] k = E := ⟨_, rfl⟩
                      rw [hE2] at hnx
                      by_cases hneg : E < 0
                      · have hE1 := nextIR_neg (l := s.data.toList) (p := [62]) (k := k) (by rw [hE2]; exact hneg)
                        rw [hE2] at hE1
                        have HS := hide (sw_decl0 (raw := raw) (out := l.map (·.1)) HO.out HC.out h3 h456 (by rw [hE2]; exact hneg) ⟨0, [], [], []⟩)
                        subst hE1
                        clear hE2 hneg h3 h456
                        go_wp2_with fail
                        refine (s3.out _).mono ?_
                        rintro e y3 ⟨rfl, hy3⟩
                        obtain rfl : WA = y3 := hy3.symm
                        go_wp2_with fail
                        refine (s4.out _).mono ?_
                        rintro e y4 ⟨rfl, hy4⟩
                        obtain rfl : WA = y4 := hy4.symm
                        go_wp2_with fail
                        refine (hnx.out _).mono ?_
                        rintro e w5 ⟨rfl, h5⟩
                        obtain rfl : WA = w5 := h5.symm
                        go_wp2_with fail
                        go_meet
                        case rel => exact ⟨_, ⟨0, [], [], []⟩, _, rfl, hA, Keeps.refl _ _, hz, HS⟩
                      · obtain ⟨m, hm, hm1, hm2⟩ := nextIR_nat (l := s.data.toList) (p := [62]) (k := k) (by rw [hE2]; omega) (by simp)
                        have HS := hide (sw_decl (raw := raw) (out := l.map (·.1)) (t := ⟨0, [], [], []⟩) HO.out HC.out h3 h456 hm hm1 rfl)
                        rw [hE2] at hm
                        subst hm
                        have hge : decide ((0 : Int) ≤ (m : Int)) = true := by simp
                        have hmb : m ≤ 3000 := by rw [hl] at hm2; omega
                        clear hE2 hneg hm2 h3 h456
                        go_wp2_with fail
                        refine (s3.out _).mono ?_
                        rintro e y3 ⟨rfl, hy3⟩
                        obtain rfl : WA = y3 := hy3.symm
                        go_wp2_with fail
                        refine (s4.out _).mono ?_
                        rintro e y4 ⟨rfl, hy4⟩
                        obtain rfl : WA = y4 := hy4.symm
                        go_wp2_with fail
                        refine (hnx.out _).mono ?_
                        rintro e w5 ⟨rfl, h5⟩
                        obtain rfl : WA = w5 := h5.symm
                        go_wp2_with fail
                        go_meet
                        case rel => exact ⟨_, ⟨0, [], [], []⟩, _, by go_num, hA, Keeps.refl _ _, hz, HS⟩
                  · rw [h3] at s3
                    have hnx := hide (fun w => nextOf_any s ⟨#[45, 45, 62]⟩ (k + 2) w hs (by decide) (by decide) (by
                      have h9 := h3
                      unfold stAt at h9
                      have := (List.isPrefixOf_iff_prefix.1 h9).length_le
                      rw [List.length_drop, hl] at this
                      simp at this
                      omega))
                    rw [show (⟨#[45, 45, 62]⟩ : ByteArray).data.toList = [45, 45, 62] from rfl] at hnx
                    obtain ⟨E, hE2⟩ : ∃ E, nextIR s.data.toList [45, 45, 62] (k + 2) = E := ⟨_, rfl⟩
                    rw [hE2] at hnx
                    by_cases hneg : E < 0
                    · have hE1 := nextIR_neg (l := s.data.toList) (p := [45, 45, 62]) (k := k + 2) (by rw [hE2]; exact hneg)
                      rw [hE2] at hE1
                      have HS := hide (sw_com0 (raw := raw) (out := l.map (·.1)) HO.out HC.out h3 (by rw [hE2]; exact hneg) ⟨0, [], [], []⟩)
                      subst hE1
                      clear hE2 hneg h3
                      go_wp2_with fail
                      refine (s3.out _).mono ?_
                      rintro e y3 ⟨rfl, hy3⟩
                      obtain rfl : WA = y3 := hy3.symm
                      go_wp2_with fail
                      refine (hnx.out _).mono ?_
                      rintro e w5 ⟨rfl, h5⟩
                      obtain rfl : WA = w5 := h5.symm
                      go_wp2_with fail
                      go_meet
                      case rel => exact ⟨_, ⟨0, [], [], []⟩, _, rfl, hA, Keeps.refl _ _, hz, HS⟩
                    · obtain ⟨m, hm, hm1, hm2⟩ := nextIR_nat (l := s.data.toList) (p := [45, 45, 62]) (k := k + 2) (by rw [hE2]; omega) (by simp)
                      have HS := hide (sw_com (raw := raw) (out := l.map (·.1)) (t := ⟨0, [], [], []⟩) HO.out HC.out h3 hm hm1 rfl)
                      rw [hE2] at hm
                      subst hm
                      have hge : decide ((0 : Int) ≤ (m : Int)) = true := by simp
                      have hmb : m ≤ 3000 := by rw [hl] at hm2; omega
                      clear hE2 hneg hm2 h3
                      go_wp2_with fail
                      refine (s3.out _).mono ?_
                      rintro e y3 ⟨rfl, hy3⟩
                      obtain rfl : WA = y3 := hy3.symm
                      go_wp2_with fail
                      refine (hnx.out _).mono ?_
                      rintro e w5 ⟨rfl, h5⟩
                      obtain rfl : WA = w5 := h5.symm
                      go_wp2_with fail
                      go_meet
                      case rel => exact ⟨_, ⟨0, [], [], []⟩, _, by go_num, hA, Keeps.refl _ _, hz, HS⟩
                · as_aux_lemma =>
                  have hbd := HC.out
                  rw [HCe.out, Bool.and_eq_true, Bool.and_eq_true, decide_eq_true_eq] at hbd
                  have h2 : k + 2 < s.size := hbd.2.1
                  have h1 : k + 1 < s.size := by omega
                  have h47 : s[k + 1] = 47 := by
                    have h9 := hbd.1
                    unfold stAt at h9
                    rw [drop_get s k hend, drop_get s (k + 1) h1] at h9
                    simp [List.isPrefixOf] at h9
                    exact h9.2.symm
                  have e47 : ((s[k + 1].toNat : Int) == 47) = true := by rw [h47]; rfl
                  have hb1 : s[k + 1].toNat < 256 := UInt8.toNat_lt s[k + 1]
                  clear hbd h47
                  have hA0 := tok_set0 hA 2
                  simp only at hA0
                  have c1 : (WA.setCell ⟨g, 0, none⟩ (.int .i64 2)).cell? ⟨g, 0, none⟩ = some (.int .i64 2) := by rw [hA0.cell 0]; rfl
                  have f1 := tok_free hA0 0
                  have hA1 := tok_set0 hA0 3
                  have hkx : Keeps [g] WA ((WA.setCell ⟨g, 0, none⟩ (.int .i64 2)).setCell ⟨g, 0, none⟩ (.int .i64 3)) := (keeps_one _).trans (keeps_one _)
                  simp only at hA1
                  have hk2a := runTo_ge tagN s (k + 2)
                  have hk2b := runTo_le tagN (s := s) (k := k + 2) (by omega)
                  obtain ⟨k2, hk2⟩ : ∃ k2, runTo tagN s (k + 2) = k2 := ⟨_, rfl⟩
                  rw [hk2] at hk2a hk2b
                  have HK2 := hide hk2
                  clear hk2
                  go_upto_block 3 with fail
                  go_cut [10] (fun s10 wx => s10 = .int .i64 k2 ∧ IsTok wx g (⟨3, [], [], []⟩, .slice none 0 0) ∧ Keeps [g] WA wx)
                  case first => as_aux_lemma =>
                    clear c0 f0 c1 f1
                    go_wp2_with fail
                    go_loopw [10] (fun i wq => ∃ j : Nat, j ≤ s.size ∧ i = .int .i64 j ∧ IsTok wq g (⟨3, [], [], []⟩, .slice none 0 0) ∧ Keeps [g] WA wq ∧ Hid (runTo tagN s j = k2)) (fun i _ => s.size - (intOf i).toNat)
                    case atStart => exact ⟨k + 2, by omega, by go_num, by first | exact hA1 | (simpa using hA1), by first | exact hkx | (simpa using hkx), HK2⟩
                    case round =>
                      obtain ⟨j, hj, rfl, hA2, hkq, hH⟩ := hrel
                      by_cases hlt : j < s.size
                      · have hw := hide (fun w => isWhite_any s[j] w)
                        have hb256 : s[j].toNat < 256 := UInt8.toNat_lt s[j]
                        cases hwb : whiteB s[j]
                        · rw [hwb] at hw
                          by_cases h47 : s[j] = 47
                          · have e47 : ((s[j].toNat : Int) != 47) = false := by rw [h47]; rfl
                            have hjt : Hid (j = k2) := by rw [Hid, ← hH.out]; exact (runTo_stop hlt (by rw [h47]; rfl)).symm
                            clear hH hwb h47
                            go_wp2_with (go_at_call 43; refine (hw.out _).mono ?_; rintro e w9 ⟨rfl, rfl⟩)
                            go_meet
                            case rel => exact ⟨by rw [hjt.out], hA2, hkq⟩
                          · have e47 : ((s[j].toNat : Int) != 47) = true := byte_ne (d := 47) rfl h47
                            by_cases h62 : s[j] = 62
                            · have e62 : ((s[j].toNat : Int) != 62) = false := by rw [h62]; rfl
                              have hjt : Hid (j = k2) := by rw [Hid, ← hH.out]; exact (runTo_stop hlt (by rw [h62]; rfl)).symm
                              clear hH hwb h47 h62
                              go_wp2_with (go_at_call 43; refine (hw.out _).mono ?_; rintro e w9 ⟨rfl, rfl⟩)
                              go_meet
                              case rel => exact ⟨by rw [hjt.out], hA2, hkq⟩
                            · have e62 : ((s[j].toNat : Int) != 62) = true := byte_ne (d := 62) rfl h62
                              have hH2 : Hid (runTo tagN s (j + 1) = k2) := by rw [← hH.out]; exact (runTo_step hlt (by simp [tagN, hwb, h47, h62])).symm
                              clear hH hwb h47 h62
                              go_wp2_with (go_at_call 43; refine (hw.out _).mono ?_; rintro e w9 ⟨rfl, rfl⟩)
                              go_roundw
                              case rel => exact ⟨j + 1, by omega, by go_num, hA2, hkq, hH2⟩
                              case measure => simp [intOf]; omega
                        · rw [hwb] at hw
                          have hjt : Hid (j = k2) := by rw [Hid, ← hH.out]; exact (runTo_stop hlt (by simp [tagN, hwb])).symm
                          clear hH hwb 
                          go_wp2_with (go_at_call 43; refine (hw.out _).mono ?_; rintro e w9 ⟨rfl, rfl⟩)
                          go_meet
                          case rel => exact ⟨by rw [hjt.out], hA2, hkq⟩
                      · have hjt : Hid (j = k2) := by rw [Hid, ← hH.out]; exact (runTo_end (by omega)).symm
                        clear hH
                        go_wp2_with fail
                        go_meet
                        case rel => exact ⟨by rw [hjt.out], hA2, hkq⟩
                  case rest =>
                    obtain ⟨rfl, hA2, hkx2⟩ := hcut
                    generalize wc = W1 at *
                    clear c0 f0 hA1 hkx c1 f1 hA0
                    have hfold := hide (fun w => fold_any (s.extract (k + 2) k2) w (by simp; omega))
                    obtain ⟨n, hn⟩ : ∃ n, lowerL (s.extract (k + 2) k2).data.toList = n := ⟨_, rfl⟩
                    rw [hn] at hfold
                    have HN := hide hn
                    have hnl : n.length ≤ 3000 := by rw [← hn]; simp [lowerL]; omega
                    clear hn
                    go_wp2_with fail
                    refine (hfold.out _).mono ?_
                    rintro e w3 ⟨rfl, hk3⟩
                    have hA3 := hA2.keeps hk3 List.not_mem_nil
                    have d1 : w3.cell? ⟨g, 1, none⟩ = some (.string ⟨#[]⟩) := by rw [hA3.cell 1]; rfl
                    have d2 := tok_free hA3 1
                    have hA4 := tok_set1 hA3 n
                    simp only at hA4
                    have d3 : (w3.setCell ⟨g, 1, none⟩ (.string ⟨n.toArray⟩)).cell? ⟨g, 0, none⟩ = some (.int .i64 3) := by rw [hA4.cell 0]; rfl
                    have hkx4 : Keeps [g] WA (w3.setCell ⟨g, 1, none⟩ (.string ⟨n.toArray⟩)) := (hkx2.trans (hk3.to (by simp))).trans (keeps_one _)
                    have hBw4 : B ≤ (w3.setCell ⟨g, 1, none⟩ (.string ⟨n.toArray⟩)).heap.size := Nat.le_trans hBA hkx4.size
                    have hnx := hide (fun w => nextOf_any s ⟨#[62]⟩ k2 w hs (by decide) (by decide) hk2b)
                    rw [show (⟨#[62]⟩ : ByteArray).data.toList = [62] from rfl] at hnx
                    obtain ⟨E, hE2⟩ : ∃ E, nextIR s.data.toList [62] k2 = E := ⟨_, rfl⟩
                    rw [hE2] at hnx
                    clear hfold
                    by_cases hneg : E < 0
                    · have hE1 := nextIR_neg (l := s.data.toList) (p := [62]) (k := k2) (by rw [hE2]; exact hneg)
                      rw [hE2] at hE1
                      have HS := hide (sw_close0 (raw := raw) (out := l.map (·.1)) HO.out HC.out HK2.out (by rw [hE2]; exact hneg) ⟨3, n, [], []⟩)
                      subst hE1
                      clear hE2 hneg
                      go_wp2_with fail
                      refine (hnx.out _).mono ?_
                      rintro e w5 ⟨rfl, rfl⟩
                      go_wp2_with fail
                      go_meet
                      case rel => exact ⟨_, ⟨3, n, [], []⟩, _, rfl, hA4, hkx4, World.ownsRow_nil _ _ _ _, HS⟩
                    · obtain ⟨m, hm, hm1, hm2⟩ := nextIR_nat (l := s.data.toList) (p := [62]) (k := k2) (by rw [hE2]; omega) (by simp)
                      have HS := hide (sw_close (raw := raw) (out := l.map (·.1)) HO.out HC.out HK2.out HN.out hnl hm hm1)
                      rw [hE2] at hm
                      subst hm
                      have hge : decide ((0 : Int) ≤ (m : Int)) = true := by simp
                      have hmb : m ≤ 3000 := by rw [hl] at hm2; omega
                      clear hE2 hneg hm2
                      go_wp2_with fail
                      refine (hnx.out _).mono ?_
                      rintro e w5 ⟨rfl, rfl⟩
                      go_wp2_with fail
                      go_meet
                      case rel => exact ⟨_, ⟨3, n, [], []⟩, _, by go_num, hA4, hkx4, World.ownsRow_nil _ _ _ _, HS⟩
              · as_aux_lemma =>
                simp only [Bool.true_or]
                have hbd := HO.out
                rw [HOe.out, Bool.and_eq_true, decide_eq_true_eq] at hbd
                have h1 : k + 1 < s.size := hbd.1
                have hlet : letterB s[k + 1] = true := by rw [← byteAt_get s (k + 1) h1]; exact hbd.2
                have e47 : ((s[k + 1].toNat : Int) == 47) = false := byte_no (d := 47) rfl (fun h => by rw [h] at hlet; exact absurd hlet (by decide))
                have hb1 : s[k + 1].toNat < 256 := UInt8.toNat_lt s[k + 1]
                clear hbd hlet
                have hA1 := tok_set0 hA 2
                have hkx : Keeps [g] WA (WA.setCell ⟨g, 0, none⟩ (.int .i64 2)) := keeps_one _
                simp only at hA1
                have hk2a := runTo_ge tagN s (k + 1)
                have hk2b := runTo_le tagN (s := s) (k := k + 1) (by omega)
                obtain ⟨k2, hk2⟩ : ∃ k2, runTo tagN s (k + 1) = k2 := ⟨_, rfl⟩
                rw [hk2] at hk2a hk2b
                have HK2 := hide hk2
                clear hk2
                go_upto_block 3 with fail
                go_cut [10] (fun s10 wx => s10 = .int .i64 k2 ∧ IsTok wx g (⟨2, [], [], []⟩, .slice none 0 0) ∧ Keeps [g] WA wx)
                case first => as_aux_lemma =>
                  clear c0 f0
                  go_wp2_with fail
                  go_loopw [10] (fun i wq => ∃ j : Nat, j ≤ s.size ∧ i = .int .i64 j ∧ IsTok wq g (⟨2, [], [], []⟩, .slice none 0 0) ∧ Keeps [g] WA wq ∧ Hid (runTo tagN s j = k2)) (fun i _ => s.size - (intOf i).toNat)
                  case atStart => exact ⟨k + 1, by omega, by go_num, by first | exact hA1 | (simpa using hA1), by first | exact hkx | (simpa using hkx), HK2⟩
                  case round =>
                    obtain ⟨j, hj, rfl, hA2, hkq, hH⟩ := hrel
                    by_cases hlt : j < s.size
                    · have hw := hide (fun w => isWhite_any s[j] w)
                      have hb256 : s[j].toNat < 256 := UInt8.toNat_lt s[j]
                      cases hwb : whiteB s[j]
                      · rw [hwb] at hw
                        by_cases h47 : s[j] = 47
                        · have e47 : ((s[j].toNat : Int) != 47) = false := by rw [h47]; rfl
                          have hjt : Hid (j = k2) := by rw [Hid, ← hH.out]; exact (runTo_stop hlt (by rw [h47]; rfl)).symm
                          clear hH hwb h47
                          go_wp2_with (go_at_call 43; refine (hw.out _).mono ?_; rintro e w9 ⟨rfl, rfl⟩)
                          go_meet
                          case rel => exact ⟨by rw [hjt.out], hA2, hkq⟩
                        · have e47 : ((s[j].toNat : Int) != 47) = true := byte_ne (d := 47) rfl h47
                          by_cases h62 : s[j] = 62
                          · have e62 : ((s[j].toNat : Int) != 62) = false := by rw [h62]; rfl
                            have hjt : Hid (j = k2) := by rw [Hid, ← hH.out]; exact (runTo_stop hlt (by rw [h62]; rfl)).symm
                            clear hH hwb h47 h62
                            go_wp2_with (go_at_call 43; refine (hw.out _).mono ?_; rintro e w9 ⟨rfl, rfl⟩)
                            go_meet
                            case rel => exact ⟨by rw [hjt.out], hA2, hkq⟩
                          · have e62 : ((s[j].toNat : Int) != 62) = true := byte_ne (d := 62) rfl h62
                            have hH2 : Hid (runTo tagN s (j + 1) = k2) := by rw [← hH.out]; exact (runTo_step hlt (by simp [tagN, hwb, h47, h62])).symm
                            clear hH hwb h47 h62
                            go_wp2_with (go_at_call 43; refine (hw.out _).mono ?_; rintro e w9 ⟨rfl, rfl⟩)
                            go_roundw
                            case rel => exact ⟨j + 1, by omega, by go_num, hA2, hkq, hH2⟩
                            case measure => simp [intOf]; omega
                      · rw [hwb] at hw
                        have hjt : Hid (j = k2) := by rw [Hid, ← hH.out]; exact (runTo_stop hlt (by simp [tagN, hwb])).symm
                        clear hH hwb 
                        go_wp2_with (go_at_call 43; refine (hw.out _).mono ?_; rintro e w9 ⟨rfl, rfl⟩)
                        go_meet
                        case rel => exact ⟨by rw [hjt.out], hA2, hkq⟩
                    · have hjt : Hid (j = k2) := by rw [Hid, ← hH.out]; exact (runTo_end (by omega)).symm
                      clear hH
                      go_wp2_with fail
                      go_meet
                      case rel => exact ⟨by rw [hjt.out], hA2, hkq⟩
                case rest =>
                  obtain ⟨rfl, hA2, hkx2⟩ := hcut
                  generalize wc = W1 at *
                  clear c0 f0 hA1 hkx
                  have hfold := hide (fun w => fold_any (s.extract (k + 1) k2) w (by simp; omega))
                  obtain ⟨n, hn⟩ : ∃ n, lowerL (s.extract (k + 1) k2).data.toList = n := ⟨_, rfl⟩
                  rw [hn] at hfold
                  have HN := hide hn
                  have hnl : n.length ≤ 3000 := by rw [← hn]; simp [lowerL]; omega
                  clear hn
                  go_wp2_with fail
                  refine (hfold.out _).mono ?_
                  rintro e w3 ⟨rfl, hk3⟩
                  have hA3 := hA2.keeps hk3 List.not_mem_nil
                  have d1 : w3.cell? ⟨g, 1, none⟩ = some (.string ⟨#[]⟩) := by rw [hA3.cell 1]; rfl
                  have d2 := tok_free hA3 1
                  have hA4 := tok_set1 hA3 n
                  simp only at hA4
                  have d3 : (w3.setCell ⟨g, 1, none⟩ (.string ⟨n.toArray⟩)).cell? ⟨g, 0, none⟩ = some (.int .i64 2) := by rw [hA4.cell 0]; rfl
                  have hkx4 : Keeps [g] WA (w3.setCell ⟨g, 1, none⟩ (.string ⟨n.toArray⟩)) := (hkx2.trans (hk3.to (by simp))).trans (keeps_one _)
                  have hBw4 : B ≤ (w3.setCell ⟨g, 1, none⟩ (.string ⟨n.toArray⟩)).heap.size := Nat.le_trans hBA hkx4.size
                  have hat := hide (attrsAtR_any s k2 (w3.setCell ⟨g, 1, none⟩ (.string ⟨n.toArray⟩)) hs hk2b)
                  clear hfold
                  go_wp2_with fail
                  refine hat.out.mono ?_
                  rintro e w5 ⟨⟨a, k', v, ha, rfl, ho, hak, hks⟩ | ⟨ha, rfl⟩, hk5⟩
                  · have hA5 := hA4.keeps hk5 List.not_mem_nil
                    have x1 : w5.cell? ⟨g, 2, none⟩ = some (.slice none 0 0) := by rw [hA5.cell 2]; rfl
                    have x2 := tok_free hA5 2
                    have hA6 := tok_set2 hA5 a v
                    simp only at hA6
                    have hkx6 : Keeps [g] WA (w5.setCell ⟨g, 2, none⟩ v) := (hkx4.trans (hk5.to (by simp))).trans (keeps_one _)
                    have ho5 : HasAttrs w5 B (⟨2, n, a, []⟩, v) := ho.mono hBw4
                    have ho6 : HasAttrs (w5.setCell ⟨g, 2, none⟩ v) B (⟨2, n, a, []⟩, v) := set_row ho5 (fun h => block_ne ho5 hA5 (by decide) h) _
                    have HS := hide (sw_open (raw := raw) (out := l.map (·.1)) HO.out HK2.out HN.out hnl ha)
                    obtain ⟨vo, vc, rfl⟩ := row_form ho
                    clear ha ho ho5 hat
                    go_wp2_with fail
                    go_meet
                    case rel => exact ⟨_, ⟨2, n, a, []⟩, _, rfl, hA6, hkx6, ho6, HS⟩
                  · have hA5 := hA4.keeps hk5 List.not_mem_nil
                    have x1 : w5.cell? ⟨g, 2, none⟩ = some (.slice none 0 0) := by rw [hA5.cell 2]; rfl
                    have x2 := tok_free hA5 2
                    have hA6 := tok_set2 hA5 [] (.slice none 0 0)
                    simp only at hA6
                    have hkx6 : Keeps [g] WA (w5.setCell ⟨g, 2, none⟩ (.slice none 0 0)) := (hkx4.trans (hk5.to (by simp))).trans (keeps_one _)
                    have HS := hide (sw_open0 (raw := raw) (out := l.map (·.1)) HO.out HK2.out ha ⟨2, n, [], []⟩)
                    clear ha hat
                    go_wp2_with fail
                    go_meet
                    case rel => exact ⟨_, ⟨2, n, [], []⟩, _, rfl, hA6, hkx6, World.ownsRow_nil _ _ _ _, HS⟩
        case rest =>
          obtain ⟨z, t, av, rfl, hT, hkx, hat, hSw⟩ := hcut
          generalize wc = W2 at *
          have hR2 := hR.keepsNew hRA hWg hkx
          have hB2 := Nat.le_trans hBA hkx.size
          have hkp2 : Keeps [] w W2 := (((hkp.trans hkA).to (by simp)).trans hkx).mono fun i hi hlt => by simp at hi; have := HBO.out; omega
          have t0 := one_cell hR2.tx
          have t1 := one_free hR2.tx
          have hkR := hide (fun (u : Value) => show Keeps [] w (W2.setCell ⟨bt, 0, none⟩ u) from (hkp2.setCell (.inr (by have := HBO.out; show w.heap.size ≤ bt; omega)) u))
          clear hA hRA hkx
          rcases hSw.out with ⟨rfl, hp⟩ | ⟨rfl, hp⟩ | ⟨k', rfl, hkd, hp⟩ | ⟨k', rfl, hkd, htx, hnl, hp⟩
          · as_aux_lemma =>
            have HF2 := hide (hF.out.none hkl hp)
            rw [hl] at HF2
            have hsub : (s.extract k s.size).data.toList = s.data.toList.drop k := Lib.extract_to_end s k
            have hlen2 : (raw ++ s.data.toList.drop k).length ≤ s.size := by rw [List.length_append, List.length_drop, hl]; omega
            have hsum : ¬ 9223372036854775807 < (⟨raw.toArray⟩ : ByteArray).size + (s.extract k s.size).size := by rw [str_size]; simp; omega
            have hstr : Hid ((⟨raw.toArray⟩ : ByteArray) ++ s.extract k s.size = ⟨(raw ++ s.data.toList.drop k).toArray⟩) := WideShapes.bytes_inj (by rw [app_str, str_list, hsub, str_list])
            have hR3 := hR2.set (raw ++ s.data.toList.drop k)
            have hk3 := hkR.out (.string ⟨(raw ++ s.data.toList.drop k).toArray⟩)
            clear hp hsub hSw hF
            go_wp2_with fail
            go_region
            go_wp2_with fail
            go_roundg f
            case measure => omega
            case rel => exact ⟨s.size, raw ++ s.data.toList.drop k, outv, l, Nat.le_refl _, by omega, rfl, by rw [hstr.out]; first | exact hR3 | exact hR3.keepsNil ((Keeps.refl _ _).drewN _), by simpa using hB2, by rw [hstr.out]; first | exact hk3 | exact hk3.drewN _, hlen2, by omega, HF2⟩
          · as_aux_lemma =>
            have hb := hF.out.byte hkl hp
            rw [hlk, H60.out] at hb
            have HF2 := hide hb
            have hsum : ¬ 9223372036854775807 < (⟨raw.toArray⟩ : ByteArray).size + 1 := by rw [str_size]; omega
            have hstr : Hid ((⟨raw.toArray⟩ : ByteArray) ++ ⟨#[60]⟩ = ⟨(raw ++ [60]).toArray⟩) := WideShapes.bytes_inj (by rw [app_str, str_list, str_list])
            have hR3 := hR2.set (raw ++ [60])
            have hk3 := hkR.out (.string ⟨(raw ++ [60]).toArray⟩)
            clear hp hb hSw hF
            go_wp2_with fail
            go_roundg f
            case measure => omega
            case rel => exact ⟨k + 1, raw ++ [60], outv, l, by omega, by omega, by go_num, by rw [hstr.out]; exact hR3, by simpa using hB2, by rw [hstr.out]; exact hk3, by simp; omega, by omega, HF2⟩
          · as_aux_lemma =>
            have hbd := pieceL_bound hp hkl
            have HF2 := hide (hF.out.piece hkl hp)
            have c0 : W2.cell? ⟨g, 0, none⟩ = some (.int .i64 0) := by rw [hT.cell 0]; simp [hkd]
            rw [hl] at hbd
            have hk1 := hbd.1
            have hk2 := hbd.2.1
            have e1 : ((k' : Int) == -1) = false := by simp
            have e2 : ((k' : Int) == -2) = false := by simp
            clear hp hSw hF hkd hbd
            go_wp2_with fail
            go_roundg f
            case measure => omega
            case rel => exact ⟨k', raw, outv, l, by omega, by omega, rfl, hR2, hB2, hkp2, by omega, by omega, HF2⟩
          · as_aux_lemma =>
            have hbd := pieceL_bound hp hkl
            rw [hl] at hbd
            have hk1 := hbd.1
            have hk2 := hbd.2.1
            have e1 : ((k' : Int) == -1) = false := by simp
            have e2 : ((k' : Int) == -2) = false := by simp
            obtain ⟨kd, nm, at', tx⟩ := t
            simp only at htx hnl hkd hp
            subst htx
            have c0 : W2.cell? ⟨g, 0, none⟩ = some (.int .i64 kd) := by rw [hT.cell 0]; rfl
            have c1 : W2.cell? ⟨g, 1, none⟩ = some (.string ⟨nm.toArray⟩) := by rw [hT.cell 1]; rfl
            have ek : (kd != 0) = true := by rcases hkd with rfl | rfl <;> rfl
            have hnm := hide (fun w => isNameR_any ⟨nm.toArray⟩ w (by rw [str_size]; unfold maxLen; omega))
            rw [str_list] at hnm
            cases hin : isNameL nm
            · rw [hin] at hnm
              rw [hin, if_neg (by simp)] at hp
              have HF2 := hide (hF.out.piece hkl hp)
              clear hp hSw hF hkd hbd hin
              go_wp2_with fail
              refine (hnm.out _).mono ?_
              rintro e w6 ⟨rfl, h6⟩
              obtain rfl : W2 = w6 := h6.symm
              go_wp2_with fail
              go_roundg f
              case measure => omega
              case rel => exact ⟨k', raw, outv, l, by omega, by omega, rfl, hR2, hB2, hkp2, by omega, by omega, HF2⟩
            · rw [hin] at hnm
              rw [hin, if_pos rfl] at hp
              have HF2 := hide (hF.out.piece hkl hp)
              obtain ⟨ao, an, ac, hav⟩ := hat.form
              simp only at hav
              subst hav
              clear hp hSw hF hkd hbd hin
              have hfl := hide (flush_any W2 B bt bo outv raw l hR2 hB2 (by omega) (by omega))
              have hgo : g ∉ bt :: bo :: outv.ownBlock.toList := by
                intro hm
                have := lt_of_block hR.tx
                have := lt_of_block hR.ob
                simp at hm
                rcases hm with hm | hm | hm
                · omega
                · omega
                · have := (hR.out.lt g hm).2; omega
              have hat0 : ∀ b, (Value.slice ao an ac).ownBlock = some b → b ∉ bt :: bo :: outv.ownBlock.toList := by
                intro b hb hm
                have h8 := (hat.lt b hb).1
                have := hR2.hbt
                have := hR2.hbo
                simp at hm
                rcases hm with hm | hm | hm
                · omega
                · omega
                · exact rows_apart hat hR2.out (by decide) hb hm
              have hel : (l ++ endToks raw).length ≤ 2 * k + 1 := by
                unfold endToks
                split <;> simp <;> omega
              go_wp2_with fail
              refine (hnm.out _).mono ?_
              rintro e w6 ⟨rfl, h6⟩
              obtain rfl : W2 = w6 := h6.symm
              go_wp2_with fail
              refine hfl.out.mono ?_
              rintro e w7 ⟨rfl, outv', h7, hk7⟩
              have hT7 := hT.keeps hk7 hgo
              have hat7 : HasAttrs w7 B (⟨kd, nm, at', []⟩, .slice ao an ac) := hk7.owns hat hat0
              have hB7 := Nat.le_trans hB2 hk7.size
              have hkp7 : Keeps [] w w7 := ((hkp2.to (by simp)).trans hk7).mono fun i hi hlt => by
                have := HBO.out
                simp at hi
                rcases hi with hi | hi | hi
                · omega
                · omega
                · have := (hR2.out.lt i hi).1; omega
              obtain ⟨oo, oc, rfl⟩ := row_form h7.out
              generalize hll : l ++ endToks raw = ll at *
              have hlm : ll.map (·.1) = l.map (·.1) ++ endT raw := by rw [← hll, List.map_append, endToks_map]
              have HLM := hide hlm
              clear hll hlm
              have b0 : w7.cell? ⟨g, 0, none⟩ = some (.int .i64 kd) := by rw [hT7.cell 0]; rfl
              have b1 : w7.cell? ⟨g, 1, none⟩ = some (.string ⟨nm.toArray⟩) := by rw [hT7.cell 1]; rfl
              have b2 : w7.cell? ⟨g, 2, none⟩ = some (.slice ao an ac) := by rw [hT7.cell 2]; rfl
              have b3 : w7.cell? ⟨g, 3, none⟩ = some (.string ⟨#[]⟩) := by rw [hT7.cell 3]; rfl
              have d1 := one_cell h7.ob
              clear c0 c1 t0 t1
              go_wp2_with (at_builtin; refine wpList_append_own _ rfl _ _ 32 rfl B 43 i0 _ 4 64 Try.underlying32 hi hz0 hz1 hz2 (by kernel_rfl) (by decide) _ _ _ rfl (h7.out.alloc _) ⟨w7.heap.size, 0, none⟩ 1 1 (tokCells (⟨kd, nm, at', []⟩, .slice ao an ac)) rfl rfl ?c1 ?c2 ?c3 ?c4 ?c5 ?_)
              case c1 => exact lit_cells w7 _ 43
              case c2 => exact one_cells rfl
              case c3 => unfold maxLen; omega
              case c4 => omega
              case c5 => simp; omega
              intro v3 w8 ho3 hg3 _
              obtain ⟨ov, cv, rfl⟩ := row_form ho3
              have hk8 : Keeps (Value.slice oo ll.length oc).ownBlock.toList w7 w8 := ((Keeps.refl _ w7).alloc _).grown hg3 fun i e => .inl (by simp [e])
              have hr := h7.grow hk8 ho3 (hk8.owns hat7 (fun b hb hm => rows_apart hat7 h7.out (by decide) hb (by simpa using hm)))
              have o3 : w8.heap[bo]? = some (.cells #[.slice oo ll.length oc] 32 (0, 0)) := by
                have := h7.hbo
                rw [hk8.block bo (lt_of_block h7.ob) (fun hm => by have := (h7.out.lt bo (by simpa using hm)).1; omega)]; exact h7.ob
              have x0 := one_cell o3
              have x1 := one_free o3
              have hkp8 : Keeps [] w (w8.setCell ⟨bo, 0, none⟩ (.slice ov (ll.length + 1) cv)) := (((hkp7.to (by simp)).trans hk8).mono (T := []) fun i hi hlt => by
                have := HBO.out
                have := (h7.out.lt i (by simpa using hi)).1
                omega).setCell (.inr (by have := HBO.out; show w.heap.size ≤ bo; omega)) _
              have hB8 : B ≤ (w8.setCell ⟨bo, 0, none⟩ (.slice ov (ll.length + 1) cv)).heap.size := by have := hk8.size; simp; omega
              have HF3 : Hid (Rds s.data.toList k' [] ((ll ++ [((⟨kd, nm, at', []⟩ : Tok), Value.slice ao an ac)]).map (·.1)) R) := by
                rw [Hid, List.map_append, HLM.out]
                exact HF2.out
              go_wp2_with fail
              go_roundg f
              case measure => omega
              case rel => exact ⟨k', [], _, _, by omega, by omega, rfl, hr, hB8, hkp8, by simp, by rw [List.length_append]; simp; omega, HF3⟩
      · have e60 : ((s[k].toNat : Int) != 60) = true := byte_ne (d := 60) rfl h60
        have hb := hF.out.byte hkl (piece_plainR hkl (by rw [hlk]; exact h60) _ _)
        rw [hlk] at hb
        have HF2 := hide hb
        have t0 := one_cell hR.tx
        have t1 := one_free hR.tx
        have hsum : ¬ 9223372036854775807 < (⟨raw.toArray⟩ : ByteArray).size + (s.extract k (k + 1)).size := by rw [str_size]; simp; omega
        have hstr : Hid ((⟨raw.toArray⟩ : ByteArray) ++ s.extract k (k + 1) = ⟨(raw ++ [s[k]]).toArray⟩) := WideShapes.bytes_inj (by rw [app_str, str_list, one_byte s k hend, str_list])
        have hR3 := hR.set (raw ++ [s[k]])
        have hk3 : Keeps [] w (W.setCell ⟨bt, 0, none⟩ (.string ⟨(raw ++ [s[k]]).toArray⟩)) := hkp.setCell (.inr (by have := HBO.out; show w.heap.size ≤ bt; omega)) _
        clear hb h60 hF
        go_wp2_with fail
        go_region
        go_wp2_with fail
        go_roundg f
        case measure => omega
        case rel => exact ⟨k + 1, raw ++ [s[k]], outv, l, by omega, by omega, by go_num, by rw [hstr.out]; first | exact hR3 | exact hR3.keepsNil ((Keeps.refl _ _).drewN _), by simpa using hBw, by rw [hstr.out]; first | exact hk3 | exact hk3.drewN _, by simp; omega, by omega, HF2⟩
    · have hE2 := hF.out.done (by rw [hl]; omega)
      have HE2 := hide hE2
      have hfl := hide (flush_any W B bt bo outv raw l hR hBw (by omega) (by omega))
      clear hF hE2
      go_wp2_with fail
      refine hfl.out.mono ?_
      rintro e w7 ⟨rfl, outv', h7, hk7⟩
      have d1 := one_cell h7.ob
      obtain ⟨oo, oc, rfl⟩ := row_form h7.out
      have hkp7 : Keeps [] w w7 := ((hkp.to (by simp)).trans hk7).mono fun i hi hlt => by
        have := HBO.out
        simp at hi
        rcases hi with hi | hi | hi
        · omega
        · omega
        · have := (hR.out.lt i hi).1; omega
      go_wp2_with fail
      go_ret
      refine ⟨_, rfl, ?_, hkp7⟩
      rw [← HE2.out, ← endToks_map, ← List.map_append]
      have h8 := h7.toks.toks
      rw [List.length_append] at h8
      exact h8
end Go.Proofs.Ytaeblkmkpfklkaa
