/- Days by number: number, stands. -/
import Derived.Test.YtngojdajamgabadDoorCal
namespace Go.Proofs.YtngojdajamgabadDoor
open Go.RowKit

/-- So many days are in a year's first k months. -/
def sumTo (y : Nat) : Nat → Nat
  | 0 => 0
  | k + 1 => sumTo y k + monthN y (k + 1)
theorem monthN_lo (y m : Nat) : 28 ≤ monthN y m := by unfold monthN; have := yearN_lo y; split <;> (try split) <;> omega
theorem monthN_hi (y m : Nat) : monthN y m ≤ 31 := by unfold monthN; have := yearN_hi y; split <;> (try split) <;> omega
theorem sumTo_hi (y : Nat) : ∀ k, sumTo y k ≤ 31 * k
  | 0 => by simp [sumTo]
  | k + 1 => by have := sumTo_hi y k; have := monthN_hi y (k + 1); simp only [sumTo]; omega
theorem sumTo_pred (y j : Nat) (h : 1 ≤ j) : sumTo y j = sumTo y (j - 1) + monthN y j := by
  obtain ⟨i, rfl⟩ : ∃ i, j = i + 1 := ⟨j - 1, by omega⟩
  rfl
theorem sumTo_12 (y : Nat) : sumTo y 12 = yearN y := by
  have := yearN_lo y
  simp [sumTo, monthN]
  omega

/-- A day's number. -/
def dayNum (y m d : Nat) : Int := (aheadN y : Int) - (aheadN 1970 : Int) + (sumTo y (m - 1) : Int) + d - 1
def standsB (y m d : Nat) : Bool := decide (1 ≤ m) && decide (m ≤ 12) && decide (1 ≤ d) && decide (d ≤ monthN y m)
def dayV (y m d : Nat) : Value := .agg #[.int .i64 y, .int .i64 m, .int .i64 d]

set_option maxRecDepth 100000 in
set_option maxHeartbeats 1000000 in
theorem number24_any (y m d : Nat) (w : World) (hy : y ≤ 9999) (h1 : 1 ≤ m) (h2 : m ≤ 12) (hd : d ≤ 99) :
    Calls Tryd.prog 28 #[dayV y m d] w fun e w' => e = .returned (.int .i64 (dayNum y m d)) ∧ Keeps [] w w' := by
  have ha := hide (fun w => daysAhead_any y w (by omega))
  have hb := hide (fun w => daysAhead_any 1970 w (by omega))
  have hm := hide (fun j w (h3 : 1 ≤ j) (h4 : j ≤ 12) => daysOfMonth_any y j w (by omega) h3 h4)
  have b1 := aheadN_hi y (by omega)
  have b2 := aheadN_hi 1970 (by omega)
  have hs := hide (sumTo_hi y)
  have hmh := hide (monthN_hi y)
  have hE := hide (show dayNum y m d = (aheadN y : Int) - (aheadN 1970 : Int) + (sumTo y (m - 1) : Int) + d - 1 from rfl)
  generalize dayNum y m d = D at *
  generalize aheadN y = p at *
  generalize aheadN 1970 = q at *
  unfold dayV
  go_enter Tryd.func28, Tryd.ntmps28
  go_wp2_with fail
  refine (ha.out _).mono ?_
  rintro e w1 ⟨rfl, rfl⟩
  go_wp2_with fail
  refine (hb.out _).mono ?_
  rintro e w2 ⟨rfl, rfl⟩
  go_wp2_with fail
  go_loopw [3, 4] (fun v i wr => ∃ j : Nat, 1 ≤ j ∧ j ≤ m ∧ i = .int .i64 j ∧ v = .int .i64 ((p : Int) - q + (sumTo y (j - 1) : Nat)) ∧ w.alloc (.cells #[.int .i64 y, .int .i64 m, .int .i64 d] 34) = wr) (fun _ i _ => m - (intOf i).toNat)
  case atStart => exact ⟨1, by omega, h1, rfl, by simp [sumTo], rfl⟩
  case round =>
    obtain ⟨j, hj1, hj2, rfl, rfl, rfl⟩ := hrel
    have hs1 := hs.out (j - 1)
    by_cases hjm : j < m
    · have hs2 := hide (sumTo_pred y j hj1)
      have hmj := hmh.out j
      have hmm := hide (fun w => hm.out j w hj1 (by omega))
      clear hm hs hmh  hE
      generalize sumTo y (j - 1) = u at *
      generalize monthN y j = v at *
      go_wp2_with fail
      refine (hmm.out _).mono ?_
      rintro e w3 ⟨rfl, rfl⟩
      go_wp2_with fail
      go_roundw
      case rel => exact ⟨j + 1, by omega, by omega, by go_num, by rw [show j + 1 - 1 = j from by omega, hs2.out]; exact congrArg (Value.int .i64) (by omega), trivial⟩
      case measure => simp [intOf]; omega
    · obtain rfl : j = m := by omega
      clear hm hs hmh 
      generalize sumTo y (j - 1) = u at *
      go_wp2_with fail
      go_ret
      exact ⟨ret_int (by rw [hE.out]; try omega), (Keeps.refl _ _).alloc _⟩

set_option maxRecDepth 100000 in
set_option maxHeartbeats 1000000 in
theorem stands_any (y m d : Nat) (w : World) (hy : y ≤ 9999) (hm : m ≤ 99) (hd : d ≤ 99) :
    Calls Tryd.prog 27 #[dayV y m d] w fun e w' => e = .returned (.bool (standsB y m d)) ∧ Keeps [] w w' := by
  unfold dayV
  rcases (show m < 1 ∨ 12 < m ∨ (1 ≤ m ∧ m ≤ 12 ∧ d < 1) ∨ (1 ≤ m ∧ m ≤ 12 ∧ 1 ≤ d) from by omega) with h | h | ⟨h1, h2, h3⟩ | ⟨h1, h2, h3⟩
  · rw [show standsB y m d = false from by simp [standsB]; omega]
    have t1 : decide ((1 : Int) ≤ (m : Int)) = false := by simp; omega
    go_enter Tryd.func27, Tryd.ntmps27
    go_wp2_with fail
    go_quiet (fail)
    go_wp2
    go_ret
    exact ⟨rfl, ((Keeps.refl _ _).alloc _).drewN _⟩
  · rw [show standsB y m d = false from by simp [standsB]; omega]
    have t1 : decide ((1 : Int) ≤ (m : Int)) = true := by simp; omega
    have t2 : decide ((m : Int) ≤ 12) = false := by simp; omega
    go_enter Tryd.func27, Tryd.ntmps27
    go_wp2_with fail
    go_quiet (fail)
    go_wp2
    go_ret
    exact ⟨rfl, ((Keeps.refl _ _).alloc _).drewN _⟩
  · rw [show standsB y m d = false from by simp [standsB]; omega]
    have t1 : decide ((1 : Int) ≤ (m : Int)) = true := by simp; omega
    have t2 : decide ((m : Int) ≤ 12) = true := by simp; omega
    have t3 : decide ((1 : Int) ≤ (d : Int)) = false := by simp; omega
    go_enter Tryd.func27, Tryd.ntmps27
    go_wp2_with fail
    go_quiet (fail)
    go_wp2
    go_ret
    exact ⟨rfl, ((Keeps.refl _ _).alloc _).drewN _⟩
  · rw [show standsB y m d = decide (d ≤ monthN y m) from by simp [standsB]; omega]
    have t1 : decide ((1 : Int) ≤ (m : Int)) = true := by simp; omega
    have t2 : decide ((m : Int) ≤ 12) = true := by simp; omega
    have t3 : decide ((1 : Int) ≤ (d : Int)) = true := by simp; omega
    have hmm := hide (fun w => daysOfMonth_any y m w (by omega) h1 h2)
    generalize monthN y m = v at *
    go_enter Tryd.func27, Tryd.ntmps27
    go_wp2_with fail
    go_quiet ((go_at_call 38; exact Calls.quiet_of_same (hmm.out _)))
    go_wp2
    go_ret
    exact ⟨rfl, ((Keeps.refl _ _).alloc _).drewN _⟩
end Go.Proofs.YtngojdajamgabadDoor
