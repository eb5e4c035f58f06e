/- The calendar's calls: daysAhead, daysOfYear, daysOfMonth, mayBeTold. -/
import Derived.Test.YtngojdajamgabadDoorBase
namespace Go.Proofs.YtngojdajamgabadDoor
open Go.RowKit

theorem ret_int {a b : Int} (h : a = b) : Ending.returned (.int .i64 a) = Ending.returned (.int .i64 b) := by rw [h]
theorem ret_bool {a b : Bool} (h : a = b) : Ending.returned (.bool a) = Ending.returned (.bool b) := by rw [h]

def aheadN (y : Nat) : Nat := 365 * y + (y + 3) / 4 - (y + 99) / 100 + (y + 399) / 400
def yearN (y : Nat) : Nat := aheadN (y + 1) - aheadN y
def monthN (y m : Nat) : Nat := if m = 2 then 28 + yearN y - 365 else if m = 4 ∨ m = 6 ∨ m = 9 ∨ m = 11 then 30 else 31

theorem yearN_lo (y : Nat) : 365 ≤ yearN y := by unfold yearN aheadN; omega
theorem yearN_hi (y : Nat) : yearN y ≤ 366 := by unfold yearN aheadN; omega
theorem ahead_succ (y : Nat) : aheadN (y + 1) = aheadN y + yearN y := by unfold yearN aheadN; omega
theorem aheadN_hi (y : Nat) (h : y ≤ 10001) : aheadN y ≤ 3660366 := by unfold aheadN; omega

set_option maxHeartbeats 400000 in
theorem daysAhead_any (y : Nat) (w : World) (hy : y ≤ 10001) :
    Calls Tryd.prog 46 #[.int .i64 y] w fun e w' => e = .returned (.int .i64 (aheadN y : Nat)) ∧ w' = w := by
  go_enter Tryd.func46, Tryd.ntmps46
  go_wp2
  go_ret
  refine ⟨ret_int ?_, rfl⟩
  unfold aheadN
  omega

set_option maxHeartbeats 400000 in
theorem mayBeTold_any (at_ : Int) (w : World) :
    Calls Tryd.prog 15 #[.int .i64 at_] w fun e w' => e = .returned (.bool (decide (0 ≤ at_) && decide (at_ ≤ 4102444799))) ∧ w' = w := by
  by_cases h : 0 ≤ at_
  · go_enter Tryd.func15, Tryd.ntmps15
    go_wp2
    go_ret
    exact ⟨ret_bool (by simp [h]), rfl⟩
  · go_enter Tryd.func15, Tryd.ntmps15
    go_wp2
    go_ret
    exact ⟨ret_bool (by rw [decide_eq_false (show ¬ 0 ≤ at_ from by omega)]; rfl), rfl⟩

set_option maxHeartbeats 400000 in
theorem daysOfYear_any (y : Nat) (w : World) (hy : y ≤ 10000) :
    Calls Tryd.prog 37 #[.int .i64 y] w fun e w' => e = .returned (.int .i64 (yearN y : Nat)) ∧ w' = w := by
  have h1 := hide (fun w => daysAhead_any (y + 1) w (by omega))
  have h2 := hide (fun w => daysAhead_any y w (by omega))
  have b1 := aheadN_hi (y + 1) (by omega)
  have b2 := aheadN_hi y (by omega)
  have hsub : ((aheadN (y + 1) : Nat) : Int) - (aheadN y : Nat) = (yearN y : Nat) := by rw [ahead_succ]; omega
  have HS := hide hsub
  clear hsub
  generalize aheadN (y + 1) = p at *
  generalize aheadN y = q at *
  go_enter Tryd.func37, Tryd.ntmps37
  go_wp2_with fail
  refine (h1.out _).mono ?_
  rintro e w' ⟨rfl, rfl⟩
  go_wp2_with fail
  refine (h2.out _).mono ?_
  rintro e w' ⟨rfl, rfl⟩
  go_wp2_with fail
  go_ret
  exact ⟨ret_int HS.out, rfl⟩

set_option maxHeartbeats 400000 in
theorem daysOfMonth_any (y m : Nat) (w : World) (hy : y ≤ 10000) (h1 : 1 ≤ m) (h2 : m ≤ 12) :
    Calls Tryd.prog 38 #[.int .i64 y, .int .i64 m] w fun e w' => e = .returned (.int .i64 (monthN y m : Nat)) ∧ w' = w := by
  have hc := hide (fun w => daysOfYear_any y w hy)
  have b1 := yearN_lo y
  have b2 := yearN_hi y
  obtain rfl | rfl | rfl | rfl | rfl | rfl | rfl | rfl | rfl | rfl | rfl | rfl : m = 1 ∨ m = 2 ∨ m = 3 ∨ m = 4 ∨ m = 5 ∨ m = 6 ∨ m = 7 ∨ m = 8 ∨ m = 9 ∨ m = 10 ∨ m = 11 ∨ m = 12 := by omega
  all_goals
    unfold monthN
    generalize yearN y = q at *
    go_enter Tryd.func38, Tryd.ntmps38
    go_wp2_with (refine (hc.out _).mono ?_; rintro e w' ⟨rfl, rfl⟩)
    go_ret
    exact ⟨ret_int (by first | rfl | (rw [if_pos rfl]; omega) | omega), rfl⟩
end Go.Proofs.YtngojdajamgabadDoor
