/- mail. -/
import Derived.Test.YtngojdajamgabadDoorWeb
namespace Go.Proofs.YtngojdajamgabadDoor
open Go.RowKit

set_option maxRecDepth 100000 in
set_option maxHeartbeats 2000000 in
theorem mail_any (r b : Nat) (s : ByteArray) (w : World) (hs : s.size ≤ 140737488351232) (hT : IsText w b s 0) (hrb : r ≠ b) (hD0 : IsRd w r b 0 0 0 0 0) :
    Calls Tryd.prog 14 #[.pointer (some ⟨r, 0, none⟩)] w fun e w' => Reader r b s w (mailL s.data.toList) e w' := by
  have hrS : (r : Nat) ∉ [b] := by simpa using hrb
  obtain ⟨R, hR⟩ : ∃ R, mailL s.data.toList = R := ⟨_, rfl⟩
  rw [hR]
  unfold mailL at hR
  have hE0 := hide hR.symm
  clear hR
  have hK0 : Keeps [b, r] w w := Keeps.refl _ _
  have c0 := hD0.cell0
  go_enter Tryd.func14, Tryd.ntmps14
  have h1 := hide (weekday_any r b s 0 w hs hT (Nat.zero_le _) hrb c0)
  go_wp2_with fail
  refine h1.out.mono ?_
  rintro e w1 ⟨⟨v, k1, hv, hk1, rfl, hT1⟩ | ⟨hv, rfl, j, hT1⟩, hkp1⟩
  case' inr => (have hE' := hE0.out; (try simp only [Option.bind_some] at hE'); rw [unitR_none hv] at hE'; have hE1 := hide hE'; clear hE' hE0; go_wp2_with fail; exact ⟨rfl, Reader.no (by rw [hE1.out]; rfl) hT1 (hK0.trans (hkp1.mono (by simp)))⟩)
  obtain ⟨hx1, rfl⟩ := unitR_some hv
  have hE' := hE0.out
  (try simp only [Option.bind_some] at hE')
  rw [hx1] at hE'
  have hE1 := hide hE'
  clear hv hx1 h1 hE0 hE' c0
  have hK1 := hK0.trans (hkp1.mono (by simp))
  have hD1 := hD0.keeps hkp1 hrS
  have c1 := hD1.cell0
  have h2 := hide (shortNumber_any r b s k1 w1 hs hT1 hk1 hrb c1)
  go_wp2_with fail
  refine h2.out.mono ?_
  rintro e w2 ⟨⟨v, k2, hv, hk2, rfl, hT2⟩ | ⟨hv, rfl, j, hT2⟩, hkp2⟩
  case' inr => (have hE' := hE1.out; (try simp only [Option.bind_some] at hE'); rw [intR_none hv] at hE'; have hE2 := hide hE'; clear hE' hE1; go_wp2_with fail; exact ⟨rfl, Reader.no (by rw [hE2.out]; rfl) hT2 (hK1.trans (hkp2.mono (by simp)))⟩)
  obtain ⟨x2, hx2, rfl⟩ := intR_some hv
  have hE' := hE1.out
  (try simp only [Option.bind_some] at hE')
  rw [hx2] at hE'
  have hE2 := hide hE'
  clear hv hx2 h2 hE1 hE' c1
  have hK2 := hK1.trans (hkp2.mono (by simp))
  have hD2 := hD1.keeps hkp2 hrS
  have c2 := hD2.cell0
  have g2 := hD2.cell3
  have f2 := hD2.free 3 (by omega)
  have hT2' := hT2.other (i := 3) hrb (.int .i64 (x2 : Nat))
  have hD2' := hD2.set3 (x2 : Nat)
  have hK2' := hK2.setCell (p := ⟨r, 3, none⟩) (.inl (by simp)) (.int .i64 (x2 : Nat))
  have c2' := hD2'.cell0
  have h3 := hide (must_any b s k2 ⟨#[32]⟩ (w2.setCell ⟨r, 3, none⟩ (.int .i64 (x2 : Nat))) hs hT2' hk2)
  go_wp2_with fail
  refine h3.out.mono ?_
  rintro e w3 ⟨⟨v, k3, hv, hk3, rfl, hT3⟩ | ⟨hv, rfl, j, hT3⟩, hkp3⟩
  case' inr => (have hE' := hE2.out; (try simp only [Option.bind_some] at hE'); rw [unitR_none hv] at hE'; have hE3 := hide hE'; clear hE' hE2; go_wp2_with fail; exact ⟨rfl, Reader.no (by rw [hE3.out]; rfl) hT3 (hK2'.trans (hkp3.mono (by simp)))⟩)
  obtain ⟨hx3, rfl⟩ := unitR_some hv
  have hE' := hE2.out
  (try simp only [Option.bind_some] at hE')
  rw [hx3] at hE'
  have hE3 := hide hE'
  clear hv hx3 h3 hE2 hE' c2'
  have hK3 := hK2'.trans (hkp3.mono (by simp))
  have hD3 := hD2'.keeps hkp3 hrS
  have c3 := hD3.cell0
  have h4 := hide (monthName_any r b s k3 w3 hs hT3 hk3 hrb c3)
  go_wp2_with fail
  refine h4.out.mono ?_
  rintro e w4 ⟨⟨v, k4, hv, hk4, rfl, hT4⟩ | ⟨hv, rfl, j, hT4⟩, hkp4⟩
  case' inr => (have hE' := hE3.out; (try simp only [Option.bind_some] at hE'); rw [intR_none hv] at hE'; have hE4 := hide hE'; clear hE' hE3; go_wp2_with fail; exact ⟨rfl, Reader.no (by rw [hE4.out]; rfl) hT4 (hK3.trans (hkp4.mono (by simp)))⟩)
  obtain ⟨x4, hx4, rfl⟩ := intR_some hv
  have hE' := hE3.out
  (try simp only [Option.bind_some] at hE')
  rw [hx4] at hE'
  have hE4 := hide hE'
  clear hv hx4 h4 hE3 hE' c3
  have hK4 := hK3.trans (hkp4.mono (by simp))
  have hD4 := hD3.keeps hkp4 hrS
  have c4 := hD4.cell0
  have g4 := hD4.cell2
  have f4 := hD4.free 2 (by omega)
  have hT4' := hT4.other (i := 2) hrb (.int .i64 (x4 : Nat))
  have hD4' := hD4.set2 (x4 : Nat)
  have hK4' := hK4.setCell (p := ⟨r, 2, none⟩) (.inl (by simp)) (.int .i64 (x4 : Nat))
  have c4' := hD4'.cell0
  have h5 := hide (must_any b s k4 ⟨#[32]⟩ (w4.setCell ⟨r, 2, none⟩ (.int .i64 (x4 : Nat))) hs hT4' hk4)
  go_wp2_with fail
  refine h5.out.mono ?_
  rintro e w5 ⟨⟨v, k5, hv, hk5, rfl, hT5⟩ | ⟨hv, rfl, j, hT5⟩, hkp5⟩
  case' inr => (have hE' := hE4.out; (try simp only [Option.bind_some] at hE'); rw [unitR_none hv] at hE'; have hE5 := hide hE'; clear hE' hE4; go_wp2_with fail; exact ⟨rfl, Reader.no (by rw [hE5.out]; rfl) hT5 (hK4'.trans (hkp5.mono (by simp)))⟩)
  obtain ⟨hx5, rfl⟩ := unitR_some hv
  have hE' := hE4.out
  (try simp only [Option.bind_some] at hE')
  rw [hx5] at hE'
  have hE5 := hide hE'
  clear hv hx5 h5 hE4 hE' c4'
  have hK5 := hK4'.trans (hkp5.mono (by simp))
  have hD5 := hD4'.keeps hkp5 hrS
  have c5 := hD5.cell0
  have h6 := hide (number_any r b s k5 4 w5 hs hT5 hk5 (by omega) hrb c5)
  go_wp2_with fail
  refine h6.out.mono ?_
  rintro e w6 ⟨⟨v, k6, hv, hk6, rfl, hT6⟩ | ⟨hv, rfl, j, hT6⟩, hkp6⟩
  case' inr => (have hE' := hE5.out; (try simp only [Option.bind_some] at hE'); rw [intR_none hv] at hE'; have hE6 := hide hE'; clear hE' hE5; go_wp2_with fail; exact ⟨rfl, Reader.no (by rw [hE6.out]; rfl) hT6 (hK5.trans (hkp6.mono (by simp)))⟩)
  obtain ⟨x6, hx6, rfl⟩ := intR_some hv
  have hE' := hE5.out
  (try simp only [Option.bind_some] at hE')
  rw [hx6] at hE'
  have hE6 := hide hE'
  clear hv hx6 h6 hE5 hE' c5
  have hK6 := hK5.trans (hkp6.mono (by simp))
  have hD6 := hD5.keeps hkp6 hrS
  have c6 := hD6.cell0
  have g6 := hD6.cell1
  have f6 := hD6.free 1 (by omega)
  have hT6' := hT6.other (i := 1) hrb (.int .i64 (x6 : Nat))
  have hD6' := hD6.set1 (x6 : Nat)
  have hK6' := hK6.setCell (p := ⟨r, 1, none⟩) (.inl (by simp)) (.int .i64 (x6 : Nat))
  have c6' := hD6'.cell0
  have h7 := hide (must_any b s k6 ⟨#[32]⟩ (w6.setCell ⟨r, 1, none⟩ (.int .i64 (x6 : Nat))) hs hT6' hk6)
  go_wp2_with fail
  refine h7.out.mono ?_
  rintro e w7 ⟨⟨v, k7, hv, hk7, rfl, hT7⟩ | ⟨hv, rfl, j, hT7⟩, hkp7⟩
  case' inr => (have hE' := hE6.out; (try simp only [Option.bind_some] at hE'); rw [unitR_none hv] at hE'; have hE7 := hide hE'; clear hE' hE6; go_wp2_with fail; exact ⟨rfl, Reader.no (by rw [hE7.out]; rfl) hT7 (hK6'.trans (hkp7.mono (by simp)))⟩)
  obtain ⟨hx7, rfl⟩ := unitR_some hv
  have hE' := hE6.out
  (try simp only [Option.bind_some] at hE')
  rw [hx7] at hE'
  have hE7 := hide hE'
  clear hv hx7 h7 hE6 hE' c6'
  have hK7 := hK6'.trans (hkp7.mono (by simp))
  have hD7 := hD6'.keeps hkp7 hrS
  have c7 := hD7.cell0
  have h8 := hide (timeOfDay_any r b s k7 w7 hs hT7 hk7 hrb c7)
  go_wp2_with fail
  refine h8.out.mono ?_
  rintro e w8 ⟨⟨v, k8, hv, hk8, rfl, hT8⟩ | ⟨hv, rfl, j, hT8⟩, hkp8⟩
  case' inr => (have hE' := hE7.out; (try simp only [Option.bind_some] at hE'); rw [intR_none hv] at hE'; have hE8 := hide hE'; clear hE' hE7; go_wp2_with fail; exact ⟨rfl, Reader.no (by rw [hE8.out]; rfl) hT8 (hK7.trans (hkp8.mono (by simp)))⟩)
  obtain ⟨x8, hx8, rfl⟩ := intR_some hv
  have hE' := hE7.out
  (try simp only [Option.bind_some] at hE')
  rw [hx8] at hE'
  have hE8 := hide hE'
  clear hv hx8 h8 hE7 hE' c7
  have hK8 := hK7.trans (hkp8.mono (by simp))
  have hD8 := hD7.keeps hkp8 hrS
  have c8 := hD8.cell0
  have g8 := hD8.cell4
  have f8 := hD8.free 4 (by omega)
  have hT8' := hT8.other (i := 4) hrb (.int .i64 (x8 : Nat))
  have hD8' := hD8.set4 (x8 : Nat)
  have hK8' := hK8.setCell (p := ⟨r, 4, none⟩) (.inl (by simp)) (.int .i64 (x8 : Nat))
  have c8' := hD8'.cell0
  have h9 := hide (must_any b s k8 ⟨#[32]⟩ (w8.setCell ⟨r, 4, none⟩ (.int .i64 (x8 : Nat))) hs hT8' hk8)
  go_wp2_with fail
  refine h9.out.mono ?_
  rintro e w9 ⟨⟨v, k9, hv, hk9, rfl, hT9⟩ | ⟨hv, rfl, j, hT9⟩, hkp9⟩
  case' inr => (have hE' := hE8.out; (try simp only [Option.bind_some] at hE'); rw [unitR_none hv] at hE'; have hE9 := hide hE'; clear hE' hE8; go_wp2_with fail; exact ⟨rfl, Reader.no (by rw [hE9.out]; rfl) hT9 (hK8'.trans (hkp9.mono (by simp)))⟩)
  obtain ⟨hx9, rfl⟩ := unitR_some hv
  have hE' := hE8.out
  (try simp only [Option.bind_some] at hE')
  rw [hx9] at hE'
  have hE9 := hide hE'
  clear hv hx9 h9 hE8 hE' c8'
  have hK9 := hK8'.trans (hkp9.mono (by simp))
  have hD9 := hD8'.keeps hkp9 hrS
  have c9 := hD9.cell0
  have hp := hide (passed_any b s k9 ⟨#[71, 77, 84]⟩ w9 hs hT9 hk9)
  have hlen : Hid (stL s.data.toList k9 [71, 77, 84] = true → k9 + 3 ≤ s.size) := hide (fun h => by have := stL_len h (by rw [len_size]; exact hk9); rw [len_size] at this; exact this)
  have hlen2 : Hid (stL s.data.toList k9 [85, 84] = true → k9 + 2 ≤ s.size) := hide (fun h => by have := stL_len h (by rw [len_size]; exact hk9); rw [len_size] at this; exact this)
  have hq : (⟨#[71, 77, 84]⟩ : ByteArray).data.toList = [71, 77, 84] := rfl
  rw [hq] at hp
  have hE' := hE9.out
  simp only [Option.bind_some] at hE'
  have hEz := hide hE'
  clear hE' hE9 hq
  generalize stL s.data.toList k9 [71, 77, 84] = t at *
  go_wp2_with fail
  refine hp.out.mono ?_
  rintro e wp ⟨rfl, hTp, hkp⟩
  have hDp := hD9.keeps hkp hrS
  have hKp := hK9.trans (hkp.mono (by simp))
  have cp := hDp.cell0
  clear hp c9
  cases t
  · have hTq : IsText wp b s k9 := hTp
    have hE2 := hide (hEz.out.trans (if_neg (by simp)))
    have hp2 := hide (passed_any b s k9 ⟨#[85, 84]⟩ wp hs hTq hk9)
    have hq : (⟨#[85, 84]⟩ : ByteArray).data.toList = [85, 84] := rfl
    rw [hq] at hp2
    clear hEz hTp hlen hq
    generalize stL s.data.toList k9 [85, 84] = t2 at *
    go_wp2_with fail
    refine hp2.out.mono ?_
    rintro e wu ⟨rfl, hTu, hkpu⟩
    have hDu := hDp.keeps hkpu hrS
    have hKu := hKp.trans (hkpu.mono (by simp))
    have cu := hDu.cell0
    clear hp2 cp
    cases t2
    · have hTv : IsText wu b s k9 := hTu
      have hE3 := hide (hE2.out.trans (if_neg (by simp)))
      have ho := hide (offset_any r b s k9 ⟨#[]⟩ wu hs hTv hk9 hrb cu)
      clear hE2 hTu hlen2
      go_wp2_with fail
      refine ho.out.mono ?_
      rintro e wo ⟨⟨v, ko, hv, hko, rfl, hTo⟩ | ⟨hv, rfl, j, hTo⟩, hkpo⟩
      · obtain ⟨xo, hxo, rfl⟩ := sintR_some hv
        have hE' := hE3.out
        rw [hxo] at hE'
        have hE4 := hide hE'
        clear hE3 hE' hv hxo ho
        have hDo := hDu.keeps hkpo hrS
        have go := hDo.cell5
        have fo := hDo.free 5 (by omega)
        go_wp2_with fail
        refine bodyPost_ret (v := .tuple #[]) (by simp [results, Tryd.results14]) rfl ?_
        exact Reader.yes hE4.out hko (hDo.set5 xo) (hTo.other hrb _) ((hKu.trans (hkpo.mono (by simp))).setCell (.inl (by simp)) _)
      · have hE' := hE3.out
        rw [sintR_none hv] at hE'
        have hE4 := hide hE'
        clear hE3 hE'
        go_wp2_with fail
        exact ⟨rfl, Reader.no (by rw [hE4.out]; rfl) hTo (hKu.trans (hkpo.mono (by simp)))⟩
    · have hTv : IsText wu b s (k9 + 2) := hTu
      have hE3 := hide (hE2.out.trans (if_pos rfl))
      have hle := hlen2.out rfl
      clear hE2 hTu hlen2
      go_wp2_with fail
      refine bodyPost_ret (v := .tuple #[]) (by simp [results, Tryd.results14]) rfl ?_
      exact Reader.yes hE3.out hle hDu hTv hKu
  · have hTq : IsText wp b s (k9 + 3) := hTp
    have hE2 := hide (hEz.out.trans (if_pos rfl))
    have hle := hlen.out rfl
    clear hEz hTp hlen
    go_wp2_with fail
    refine bodyPost_ret (v := .tuple #[]) (by simp [results, Tryd.results14]) rfl ?_
    exact Reader.yes hE2.out hle hDp hTq hKp
end Go.Proofs.YtngojdajamgabadDoor
