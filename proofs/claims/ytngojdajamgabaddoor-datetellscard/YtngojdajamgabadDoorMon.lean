/- A month's name; the day of the week. -/
import Derived.Test.YtngojdajamgabadDoorNum
import Derived.BigRegion
namespace Go.Proofs.YtngojdajamgabadDoor
open Go.RowKit

theorem enters53 : Enters 53 := enters_of Tryd.func53 (by kernel_rfl) rfl

theorem isEmpty_no (X : ByteArray) (h : X.size ≠ 0) : X.toList.isEmpty = false := by
  rw [ByteArray.toList_eq, List.isEmpty_eq_false_iff]
  intro e
  have := congrArg List.length e
  rw [len_size] at this
  exact h (by simpa using this)

/-- The weekday is passed, if there is one. -/
def weekL (l : List UInt8) (k : Nat) : Option Nat :=
  if passLen letterB (l.drop k) = 0 then some k else if passLen letterB (l.drop k) = 3 then mustL l (k + 3) [44, 32] else none

set_option maxRecDepth 100000 in
set_option maxHeartbeats 1000000 in
theorem weekday_any (r b : Nat) (s : ByteArray) (k : Nat) (w : World) (hs : s.size ≤ 140737488351232) (hT : IsText w b s k) (hk : k ≤ s.size) (hrb : r ≠ b) (hR : w.cell? ⟨r, 0, none⟩ = some (.pointer (some ⟨b, 0, none⟩))) :
    Calls Tryd.prog 34 #[.pointer (some ⟨r, 0, none⟩)] w fun e w' => Reads b s w (unitR (weekL s.data.toList k)) e w' := by
  have hrS : (r : Nat) ∉ [b] := by simpa using hrb
  have hp := hide (pass_any 53 #[] letterB b s k w hs hT hk enters53 (fun c w1 _ => (letter_any c w1).mono fun _ _ ⟨h1, h2⟩ => ⟨h1, 0, h2⟩))
  have hE := hide (show weekL s.data.toList k = if passLen letterB (s.data.toList.drop k) = 0 then some k else if passLen letterB (s.data.toList.drop k) = 3 then mustL s.data.toList (k + 3) [44, 32] else none from rfl)
  have hle : passLen letterB (s.data.toList.drop k) ≤ s.size - k := by
    have := (List.takeWhile_sublist (l := s.data.toList.drop k) (p := letterB)).length_le
    rw [List.length_drop, len_size] at this
    exact this
  generalize weekL s.data.toList k = R at *
  generalize passLen letterB (s.data.toList.drop k) = n at *
  have hsz := hide (show (s.extract k (k + n)).size = n from by simp; omega)
  rcases (show n = 0 ∨ n = 3 ∨ (n ≠ 0 ∧ n ≠ 3) from by omega) with rfl | rfl | ⟨h0, h3⟩
  · have hE2 := hide (hE.out.trans (if_pos rfl))
    have hx : s.extract k (k + 0) = ⟨#[]⟩ := ByteArray.ext (by apply Array.ext' ; rw [Lib.extract_data]; simp)
    rw [hx] at hp
    clear hE hx
    go_enter Tryd.func34, Tryd.ntmps34
    go_wp2_with fail
    refine hp.out.mono ?_
    rintro e w1 ⟨rfl, hT1, hk1⟩
    go_wp2_with fail
    refine bodyPost_ret (v := .tuple #[]) (by simp [results, Tryd.results34]) rfl ?_
    exact Reads.yes (by rw [hE2.out]; rfl) hk hT1 hk1
  · have hE2 := hide ((hE.out.trans (if_neg (by omega))).trans (if_pos rfl))
    have hz := hsz.out
    generalize s.extract k (k + 3) = X at *
    have hX := isEmpty_no X (by omega)
    clear hE hsz
    go_enter Tryd.func34, Tryd.ntmps34
    go_wp2_with fail
    refine hp.out.mono ?_
    rintro e w1 ⟨rfl, hT1, hk1⟩
    have c1 := cell_kept hk1 hrS hR
    have h2 := hide (must_any b s (k + 3) ⟨#[44, 32]⟩ w1 hs hT1 (by omega))
    go_wp2_with fail
    refine h2.out.mono ?_
    rintro e w2 ⟨⟨v, k2, hv, hk2, rfl, hT2⟩ | ⟨hv, rfl, j, hT2⟩, hkp2⟩
    · obtain ⟨hx2, rfl⟩ := unitR_some hv
      go_wp2_with fail
      refine bodyPost_ret (v := .tuple #[]) (by simp [results, Tryd.results34]) rfl ?_
      exact Reads.yes (by rw [hE2.out]; exact hv) hk2 hT2 (hk1.trans hkp2)
    · go_wp2_with fail
      exact ⟨rfl, Reads.no (by rw [hE2.out]; exact hv) hT2 (hk1.trans hkp2)⟩
  · have hE2 := hide ((hE.out.trans (if_neg h0)).trans (if_neg h3))
    have hz := hsz.out
    generalize s.extract k (k + n) = X at *
    have hX := isEmpty_no X (by omega)
    have hn3 : ((n : Int) == 3) = false := by simp; omega
    clear hE hsz
    go_enter Tryd.func34, Tryd.ntmps34
    go_wp2_with fail
    refine hp.out.mono ?_
    rintro e w1 ⟨rfl, hT1, hk1⟩
    go_wp2_with (go_at_call 49; refine (giveUp_any _).mono ?_; rintro e w' ⟨rfl, rfl⟩)
    exact ⟨rfl, Reads.no (by rw [hE2.out]; rfl) hT1 hk1⟩

/-- The months' names, three letters each. -/
def monB : List UInt8 := [74, 97, 110, 70, 101, 98, 77, 97, 114, 65, 112, 114, 77, 97, 121, 74, 117, 110, 74, 117, 108, 65, 117, 103, 83, 101, 112, 79, 99, 116, 78, 111, 118, 68, 101, 99]
def monF (l : List UInt8) (k : Nat) : Nat → Option (Nat × Nat)
  | 0 => none
  | n + 1 => if stL l k ((monB.drop (3 * (11 - n))).take 3) = true then some (12 - n, k + 3) else monF l k n
def monL (l : List UInt8) (k : Nat) : Option (Nat × Nat) := monF l k 12
theorem monF_succ (l : List UInt8) (k n : Nat) : monF l k (n + 1) = if stL l k ((monB.drop (3 * (11 - n))).take 3) = true then some (12 - n, k + 3) else monF l k n := rfl
theorem wrap_mon (q : Nat) (h : q ≤ 33) : IntKind.i64.wrap ((q : Int) + 3) = (q : Int) + 3 := by
  have : ∀ q : Fin 34, IntKind.i64.wrap ((q.val : Int) + 3) = (q.val : Int) + 3 := by decide
  exact this ⟨q, by omega⟩
theorem extract_mon (j : Nat) : ((⟨monB.toArray⟩ : ByteArray).extract (3 * j) (3 * j + 3)).data.toList = (monB.drop (3 * j)).take 3 := by
  rw [Lib.extract_data]; simp

set_option maxRecDepth 100000 in
set_option maxHeartbeats 1000000 in
theorem monthName_any (r b : Nat) (s : ByteArray) (k : Nat) (w : World) (hs : s.size ≤ 140737488351232) (hT : IsText w b s k) (hk : k ≤ s.size) (hrb : r ≠ b) (hR : w.cell? ⟨r, 0, none⟩ = some (.pointer (some ⟨b, 0, none⟩))) :
    Calls Tryd.prog 36 #[.pointer (some ⟨r, 0, none⟩)] w fun e w' => Reads b s w (intR (monL s.data.toList k)) e w' := by
  have hrS : (r : Nat) ∉ [b] := by simpa using hrb
  have hE := hide (show monF s.data.toList k 12 = monL s.data.toList k from rfl)
  generalize monL s.data.toList k = R at *
  go_enter Tryd.func36, Tryd.ntmps36
  go_wp2_with fail
  go_loopw [3] (fun i wr => ∃ j : Nat, j ≤ 12 ∧ i = .int .i64 (3 * j : Nat) ∧ IsText wr b s k ∧ Keeps [b] w wr ∧ Hid (monF s.data.toList k (12 - j) = R)) (fun i _ => 36 - (intOf i).toNat)
  case atStart => exact ⟨0, by omega, rfl, hT, Keeps.refl _ _, hE⟩
  case round =>
    obtain ⟨j, hj, rfl, hT', hkp, hN⟩ := hrel
    have c0 := cell_kept hkp hrS hR
    have c0' : ∀ n, (wr.drewN n).cell? ⟨r, 0, none⟩ = some (.pointer (some ⟨b, 0, none⟩)) := fun _ => c0
    clear hR hT hE
    by_cases hlt : j < 12
    · obtain ⟨m, hm⟩ : ∃ m, 12 - j = m + 1 := ⟨11 - j, by omega⟩
      have hmj : 11 - m = j := by omega
      have hm2 := hide (show 12 - (j + 1) = m from by omega)
      have hN' := hN.out
      rw [hm, monF_succ, hmj, ← extract_mon j] at hN'
      have hN2 := hide hN'
      clear hN hN' hm
      have hXs : ((⟨monB.toArray⟩ : ByteArray).extract (3 * j) (3 * j + 3)).size = 3 := by
        rw [← len_size, extract_mon j]; simp [monB]; omega
      have hqj := hide (rfl : 3 * j = 3 * j)
      obtain ⟨q, hq⟩ : ∃ q, q = 3 * j := ⟨_, rfl⟩
      have hq36 : q + 3 ≤ 36 := by omega
      have hQ := hide hq
      rw [← hq] at hXs hN2 ⊢
      clear hq hqj
      have hpz := hide (fun n => passed_any b s k ((⟨monB.toArray⟩ : ByteArray).extract q (q + 3)) (wr.drewN n) hs hT' hk)
      rw [hXs] at hpz
      have hlen : Hid (stL s.data.toList k ((⟨monB.toArray⟩ : ByteArray).extract q (q + 3)).data.toList = true → k + 3 ≤ s.size) := hide (fun h => by have := stL_len h (by rw [len_size]; exact hk); rw [len_size, len_size, hXs] at this; exact this)
      clear hXs
      generalize stL s.data.toList k ((⟨monB.toArray⟩ : ByteArray).extract q (q + 3)).data.toList = t at *
      unfold monB at hpz
      have hw := wrap_mon q (by omega)
      have htt : decide ((q : Int) < 36) = true := by simp; omega
      have hb0 : (0 : Int) ≤ (q : Int) + 3 := by omega
      have hb1 : (q : Int) + 3 ≤ 36 := by omega
      have hb2 : ((q : Int) + 3).toNat = q + 3 := by omega
      go_upto_region 4 with fail
      go_cut [16] from 8 to 16 (fun v wc => v = .bool t ∧ IsText wc b s (if t = true then k + 3 else k) ∧ Keeps [b] w wc)
      case first =>
        go_region_with (go_at_call 32; refine (hpz.out _).mono ?_; rintro e w3 ⟨rfl, hT3, hk3⟩)
        all_goals go_wp2
        all_goals go_meet
        all_goals exact ⟨rfl, hT3, hkp.trans (((Keeps.refl _ _).drewN _).trans hk3)⟩
      case rest =>
        obtain ⟨rfl, hTc, hkc⟩ := hcut
        cases t
        · have hTc' : IsText _ b s k := hTc
          have hN3 := hide ((if_neg (by simp)).symm.trans hN2.out)
          clear hN2 hTc hpz hlen
          go_wp2_with fail
          go_roundw
          case rel => exact ⟨j + 1, by omega, congrArg (Value.int .i64) (by have := hQ.out; omega), hTc', hkc, by rw [hm2.out]; exact hN3⟩
          case measure => simp [intOf]; omega
        · have hTc' : IsText _ b s (k + 3) := hTc
          have hk3 := hlen.out rfl
          have hN3 := hide ((if_pos rfl).symm.trans hN2.out)
          clear hN2 hTc hpz hlen
          go_wp2_with fail
          go_ret
          refine Reads.yes ?_ hk3 hTc' hkc
          rw [← hN3.out]
          have h9 := hQ.out
          have h7 := hm2.out
          have h8 : ((12 - m : Nat) : Int) = (q : Int) / 3 + 1 := by omega
          show intR (some (12 - m, k + 3)) = _
          unfold intR
          simp only [Option.map_some]
          rw [h8]
          rfl
    · obtain rfl : j = 12 := by omega
      have hN3 := hide (show none = R from hN.out)
      clear hN
      go_wp2_with (go_at_call 49; refine (giveUp_any _).mono ?_; rintro e w' ⟨rfl, rfl⟩)
      exact ⟨rfl, Reads.no (by rw [← hN3.out]; rfl) hT' hkp⟩
end Go.Proofs.YtngojdajamgabadDoor
