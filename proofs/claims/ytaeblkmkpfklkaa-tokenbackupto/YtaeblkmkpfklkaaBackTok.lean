/- TokenBack: what is printed is read as it was; what is read is right, and printed it is read the same. -/
import Derived.Test.YtaeblkmkpfklkaaReadBulk
import Derived.Test.YtaeblkmkpfklkaaPlain
namespace Go.Proofs.Ytaeblkmkpfklkaa
open Go.RowKit Go.Maps

theorem fits_bulk {ts : List Tok} (hn : bulkL ts ≤ 1100000) : ∀ t ∈ ts, FitsT t := fun t ht => by
  have h1 := bulkL_mem ht
  unfold bulkT at h1
  exact ⟨by unfold maxLen; omega, fun p hp => by have h2 := bulkP_mem hp; unfold maxLen; omega⟩

set_option maxHeartbeats 1000000 in
theorem print_bad (w : World) (v : Value) (ts : List Tok) (hv : Toks w v ts) (hn : bulkL ts ≤ 1100000) (c : Int) (hc : chkL ts = c) (h0 : c ≠ 0) :
    Calls Try.prog 17 #[v] w fun e w' => e = .returned (.tuple #[.string ⟨#[]⟩, .int .i64 c]) ∧ Keeps [] w w' := by
  have hchk := hide (check_any w v ts hv (fits_bulk hn))
  rw [hc] at hchk
  have hcb : (c != 0) = true := by simpa using h0
  clear hc
  go_enter Try.func17, Try.ntmps17
  go_wp2_with fail
  refine hchk.out.mono ?_
  rintro e w1 ⟨rfl, hk1⟩
  go_wp2_with fail
  go_ret2
  exact ⟨rfl, hk1⟩

/-- Print, the error too. -/
theorem print_any (ts : List Tok) (hn : bulkL ts ≤ 1100000) : ∃ X : ByteArray, (chkL ts = 0 → X = ⟨(toksP ts).toArray⟩) ∧ ∀ (w : World) (v : Value), Toks w v ts →
    Calls Try.prog 17 #[v] w fun e w' => e = .returned (.tuple #[.string X, .int .i64 (chkL ts)]) ∧ Keeps [] w w' := by
  by_cases h : chkL ts = 0
  · exact ⟨_, fun _ => rfl, fun w v hv => by rw [h]; exact print_all w v ts hv hn h⟩
  · exact ⟨⟨#[]⟩, fun e => absurd e h, fun w v hv => print_bad w v ts hv hn _ rfl h⟩

set_option maxRecDepth 8000 in
set_option maxHeartbeats 8000000 in
theorem back_tokens (s : ByteArray) (hs : s.size ≤ maxLen) (w : World) (v : Value) (ts : List Tok) (hv : Toks w v ts) (hn : bulkL ts ≤ 1100000) (hM : HasMax w) :
    Calls Try.prog 7 #[.string s, v] w fun e w' => e = .returned (.bool true) ∧ Keeps [] w w' := by
  obtain ⟨X, hXe, hpL⟩ := print_any ts hn
  have pL := hide (fun (w : World) (h : Toks w v ts) => hpL w v h)
  have rX := hide (fun (hc : chkL ts = 0) (hl : X.size ≤ 3000) (w : World) hM => read_want X w hl hM ts (by rw [hXe hc, str_list]; exact read_printed ts hc))
  clear hpL hXe
  generalize chkL ts = c at *
  by_cases hbig : 3000 < s.size
  · have rL := hide (fun (w : World) hM => (read_any s w hs hM).mono fun e w' (h : Keeps [] w w' ∧ _) => (⟨by have := h.2; rw [if_pos hbig] at this; exact this, h.1⟩ : e = .returned (.tuple #[.slice none 0 0, .int .i64 2]) ∧ Keeps [] w w'))
    clear hs
    by_cases hc0 : c = 0
    · subst hc0
      go_enter Try.func7, Try.ntmps7
      go_wp2_with fail
      refine (tokenBegun_any _ hM).mono ?_
      rintro e w1 ⟨rfl, hk1⟩
      have hM1 := hM.keeps hk1 List.not_mem_nil
      go_wp2_with fail
      refine (pL.out _ (hv.keeps hk1)).mono ?_
      rintro e w2 ⟨rfl, hk2⟩
      have hM2 := hM1.keeps hk2 List.not_mem_nil
      by_cases hX : X.size ≤ 3000
      · have hXd : decide ((X.size : Int) ≤ 3000) = true := by simp; omega
        go_wp2_with fail
        refine (rX.out (by simp) hX _ hM2).mono ?_
        rintro e w3 ⟨v3, rfl, ht3, hk3⟩
        have hM3 := hM2.keeps hk3 List.not_mem_nil
        go_wp2_with fail
        refine (sameTokens_eq _ v3 v _ ht3 (((hv.keeps hk1).keeps hk2).keeps hk3)).mono ?_
        rintro e w4 ⟨rfl, n4, hw4⟩
        have hk4 : Keeps [] w3 w4 := by rw [hw4]; exact (Keeps.refl _ _).drewN _
        clear hw4
        have hMW := hM3.keeps hk4 List.not_mem_nil
        have hKW : Keeps [] w w4 := ((hk1.trans hk2).trans hk3).trans hk4
        go_wp2_with fail
        refine (rL.out _ hMW).mono ?_
        rintro e wa ⟨rfl, hka⟩
        go_wp2_with fail
        go_ret
        exact ⟨rfl, hKW.trans hka⟩
      · have hXd : decide ((X.size : Int) ≤ 3000) = false := by simp; omega
        have hMW := hM2
        have hKW : Keeps [] w w2 := hk1.trans hk2
        go_wp2_with fail
        refine (rL.out _ hMW).mono ?_
        rintro e wa ⟨rfl, hka⟩
        go_wp2_with fail
        go_ret
        exact ⟨rfl, hKW.trans hka⟩
    · have hcb : (c == 0) = false := by simpa using hc0
      go_enter Try.func7, Try.ntmps7
      go_wp2_with fail
      refine (tokenBegun_any _ hM).mono ?_
      rintro e w1 ⟨rfl, hk1⟩
      have hM1 := hM.keeps hk1 List.not_mem_nil
      go_wp2_with fail
      refine (pL.out _ (hv.keeps hk1)).mono ?_
      rintro e w2 ⟨rfl, hk2⟩
      have hMW := hM1.keeps hk2 List.not_mem_nil
      have hKW : Keeps [] w w2 := hk1.trans hk2
      go_wp2_with fail
      refine (rL.out _ hMW).mono ?_
      rintro e wa ⟨rfl, hka⟩
      go_wp2_with fail
      go_ret
      exact ⟨rfl, hKW.trans hka⟩
  · have rS := hide (fun (w : World) hM => read_want s w (by omega) hM _ rfl)
    have hg := readL_good s.data.toList (by rw [len_size]; omega)
    have hbk := readL_bulk s.data.toList
    rw [len_size] at hbk
    obtain ⟨Y, hYe, hpS⟩ := print_any (readL s.data.toList) (by omega)
    have rY := hide (fun (hl : Y.size ≤ 3000) (w : World) hM => read_want Y w hl hM (readL s.data.toList) (by rw [hYe hg, str_list]; exact read_printed _ hg))
    rw [hg] at hpS
    have pS := hide hpS
    clear hpS hYe hg hbk hs
    generalize readL s.data.toList = R at *
    by_cases hc0 : c = 0
    · subst hc0
      go_enter Try.func7, Try.ntmps7
      go_wp2_with fail
      refine (tokenBegun_any _ hM).mono ?_
      rintro e w1 ⟨rfl, hk1⟩
      have hM1 := hM.keeps hk1 List.not_mem_nil
      go_wp2_with fail
      refine (pL.out _ (hv.keeps hk1)).mono ?_
      rintro e w2 ⟨rfl, hk2⟩
      have hM2 := hM1.keeps hk2 List.not_mem_nil
      by_cases hX : X.size ≤ 3000
      · have hXd : decide ((X.size : Int) ≤ 3000) = true := by simp; omega
        go_wp2_with fail
        refine (rX.out (by simp) hX _ hM2).mono ?_
        rintro e w3 ⟨v3, rfl, ht3, hk3⟩
        have hM3 := hM2.keeps hk3 List.not_mem_nil
        go_wp2_with fail
        refine (sameTokens_eq _ v3 v _ ht3 (((hv.keeps hk1).keeps hk2).keeps hk3)).mono ?_
        rintro e w4 ⟨rfl, n4, hw4⟩
        have hk4 : Keeps [] w3 w4 := by rw [hw4]; exact (Keeps.refl _ _).drewN _
        clear hw4
        have hMW := hM3.keeps hk4 List.not_mem_nil
        have hKW : Keeps [] w w4 := ((hk1.trans hk2).trans hk3).trans hk4
        go_wp2_with fail
        refine (rS.out _ hMW).mono ?_
        rintro e wa ⟨va, rfl, hta, hka⟩
        have hMa := hMW.keeps hka List.not_mem_nil
        go_wp2_with fail
        refine (pS.out _ va hta).mono ?_
        rintro e wb ⟨rfl, hkb⟩
        have hMb := hMa.keeps hkb List.not_mem_nil
        have htb := hta.keeps hkb
        by_cases hY : 3000 < Y.size
        · have hYd : decide ((3000 : Int) < (Y.size : Int)) = true := by simp; omega
          go_wp2_with fail
          go_ret
          exact ⟨rfl, (hKW.trans hka).trans hkb⟩
        · have hYd : decide ((3000 : Int) < (Y.size : Int)) = false := by simp; omega
          go_wp2_with fail
          refine (rY.out (by omega) _ hMb).mono ?_
          rintro e wc ⟨vc, rfl, htc, hkc⟩
          go_wp2_with fail
          refine (sameTokens_eq _ vc va _ htc (htb.keeps hkc)).mono ?_
          rintro e wd ⟨rfl, nd, rfl⟩
          go_wp2_with fail
          go_ret
          exact ⟨rfl, (((hKW.trans hka).trans hkb).trans hkc).drewN _⟩
      · have hXd : decide ((X.size : Int) ≤ 3000) = false := by simp; omega
        have hMW := hM2
        have hKW : Keeps [] w w2 := hk1.trans hk2
        go_wp2_with fail
        refine (rS.out _ hMW).mono ?_
        rintro e wa ⟨va, rfl, hta, hka⟩
        have hMa := hMW.keeps hka List.not_mem_nil
        go_wp2_with fail
        refine (pS.out _ va hta).mono ?_
        rintro e wb ⟨rfl, hkb⟩
        have hMb := hMa.keeps hkb List.not_mem_nil
        have htb := hta.keeps hkb
        by_cases hY : 3000 < Y.size
        · have hYd : decide ((3000 : Int) < (Y.size : Int)) = true := by simp; omega
          go_wp2_with fail
          go_ret
          exact ⟨rfl, (hKW.trans hka).trans hkb⟩
        · have hYd : decide ((3000 : Int) < (Y.size : Int)) = false := by simp; omega
          go_wp2_with fail
          refine (rY.out (by omega) _ hMb).mono ?_
          rintro e wc ⟨vc, rfl, htc, hkc⟩
          go_wp2_with fail
          refine (sameTokens_eq _ vc va _ htc (htb.keeps hkc)).mono ?_
          rintro e wd ⟨rfl, nd, rfl⟩
          go_wp2_with fail
          go_ret
          exact ⟨rfl, (((hKW.trans hka).trans hkb).trans hkc).drewN _⟩
    · have hcb : (c == 0) = false := by simpa using hc0
      go_enter Try.func7, Try.ntmps7
      go_wp2_with fail
      refine (tokenBegun_any _ hM).mono ?_
      rintro e w1 ⟨rfl, hk1⟩
      have hM1 := hM.keeps hk1 List.not_mem_nil
      go_wp2_with fail
      refine (pL.out _ (hv.keeps hk1)).mono ?_
      rintro e w2 ⟨rfl, hk2⟩
      have hMW := hM1.keeps hk2 List.not_mem_nil
      have hKW : Keeps [] w w2 := hk1.trans hk2
      go_wp2_with fail
      refine (rS.out _ hMW).mono ?_
      rintro e wa ⟨va, rfl, hta, hka⟩
      have hMa := hMW.keeps hka List.not_mem_nil
      go_wp2_with fail
      refine (pS.out _ va hta).mono ?_
      rintro e wb ⟨rfl, hkb⟩
      have hMb := hMa.keeps hkb List.not_mem_nil
      have htb := hta.keeps hkb
      by_cases hY : 3000 < Y.size
      · have hYd : decide ((3000 : Int) < (Y.size : Int)) = true := by simp; omega
        go_wp2_with fail
        go_ret
        exact ⟨rfl, (hKW.trans hka).trans hkb⟩
      · have hYd : decide ((3000 : Int) < (Y.size : Int)) = false := by simp; omega
        go_wp2_with fail
        refine (rY.out (by omega) _ hMb).mono ?_
        rintro e wc ⟨vc, rfl, htc, hkc⟩
        go_wp2_with fail
        refine (sameTokens_eq _ vc va _ htc (htb.keeps hkc)).mono ?_
        rintro e wd ⟨rfl, nd, rfl⟩
        go_wp2_with fail
        go_ret
        exact ⟨rfl, (((hKW.trans hka).trans hkb).trans hkc).drewN _⟩
end Go.Proofs.Ytaeblkmkpfklkaa
