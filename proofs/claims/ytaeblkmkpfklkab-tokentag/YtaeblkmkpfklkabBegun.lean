/- escapeBegun answers true. -/
import Derived.Test.YtaeblkmkpfklkabEscape
namespace Go.Proofs.Ytaeblkmkpfklkab
open Go.RowKit

theorem begun_put (w : World) : Calls Try.prog 8 #[.string ⟨#[60, 97, 32, 38, 32, 39, 98, 39, 62]⟩] w fun e w' =>
    e = .returned (.tuple #[.string ⟨#[38, 108, 116, 59, 97, 32, 38, 97, 109, 112, 59, 32, 39, 98, 39, 38, 103, 116, 59]⟩, .int .i64 0]) ∧ Keeps [] w w' :=
  (put_any _ w (by show (9 : Nat) ≤ maxLen; unfold maxLen; omega)).mono fun _ _ ⟨he, hk⟩ => ⟨he.trans (by kernel_rfl), hk⟩
theorem begun_take (w : World) : Calls Try.prog 29 #[.string ⟨#[38, 108, 116, 59, 38, 35, 54, 53, 59, 38, 35, 120, 50, 48, 97, 67, 59, 38, 97, 109, 112, 59, 38, 110, 111, 59, 38, 35, 48, 59]⟩] w fun e w' =>
    e = .returned (.tuple #[.string ⟨#[60, 65, 226, 130, 172, 38, 38, 110, 111, 59, 239, 191, 189]⟩, .int .i64 0]) ∧ Keeps [] w w' :=
  (take_any _ w (by show (30 : Nat) ≤ maxLen; unfold maxLen; omega)).mono fun _ _ ⟨he, hk⟩ => ⟨he.trans (by kernel_rfl), hk⟩
theorem begun_no (w : World) : Calls Try.prog 30 #[.string ⟨#[38, 110, 111, 59]⟩] w fun e w' =>
    e = .returned (.tuple #[.string ⟨#[]⟩, .int .i64 1]) ∧ Keeps [] w w' :=
  (strict_any _ w (by show (4 : Nat) ≤ maxLen; unfold maxLen; omega)).mono fun _ _ ⟨he, hk⟩ => ⟨he.trans (by kernel_rfl), hk⟩
theorem begun_apos (w : World) : Calls Try.prog 30 #[.string ⟨#[38, 97, 112, 111, 115, 59]⟩] w fun e w' =>
    e = .returned (.tuple #[.string ⟨#[39]⟩, .int .i64 0]) ∧ Keeps [] w w' :=
  (strict_any _ w (by show (6 : Nat) ≤ maxLen; unfold maxLen; omega)).mono fun _ _ ⟨he, hk⟩ => ⟨he.trans (by kernel_rfl), hk⟩

set_option maxRecDepth 100000 in
set_option maxHeartbeats 1000000 in
theorem begun_any (w : World) : Calls Try.prog 7 #[] w fun e w' => e = .returned (.bool true) ∧ Keeps [] w w' := by
  go_enter Try.func7, Try.ntmps7
  go_wp2_with fail
  refine (begun_put _).mono ?_
  rintro e w1 ⟨rfl, hk1⟩
  go_wp2_with fail
  refine (begun_take _).mono ?_
  rintro e w2 ⟨rfl, hk2⟩
  go_wp2_with fail
  refine (begun_no _).mono ?_
  rintro e w3 ⟨rfl, hk3⟩
  go_wp2_with fail
  refine (begun_apos _).mono ?_
  rintro e w4 ⟨rfl, hk4⟩
  go_wp2_with fail
  go_ret
  exact ⟨rfl, ((hk1.trans hk2).trans hk3).trans hk4⟩
end Go.Proofs.Ytaeblkmkpfklkab
