/- EscapeTells returns true, of whatever text. -/
import Derived.Test.YtaeblkmkpfklkaaBack
import Derived.Test.YtaeblkmkpfklkaaTakeOf
namespace Go.Proofs.Ytaeblkmkpfklkaa
open Go.RowKit

theorem take_many (s : ByteArray) (w : World) (h : 3000 < s.size) (hm : s.size ≤ maxLen) :
    Calls Try.prog 10 #[.string s] w fun e w' => e = .returned (.tuple #[.string ⟨#[]⟩, .int .i64 2]) ∧ Keeps [] w w' :=
  (take_any s w hm).mono fun _ _ ⟨he, hk⟩ => ⟨he.trans (by unfold takeAns; rw [len_size, if_pos h]; rfl), hk⟩
theorem strict_many (s : ByteArray) (w : World) (h : 3000 < s.size) (hm : s.size ≤ maxLen) :
    Calls Try.prog 11 #[.string s] w fun e w' => e = .returned (.tuple #[.string ⟨#[]⟩, .int .i64 2]) ∧ Keeps [] w w' :=
  (strict_any s w hm).mono fun _ _ ⟨he, hk⟩ => ⟨he.trans (by unfold strictAns; rw [len_size, if_pos h]; rfl), hk⟩
theorem strict_bad (s : ByteArray) (w : World) (h : s.size ≤ 3000) (hr : (takeL s.data.toList).2 = false) :
    Calls Try.prog 11 #[.string s] w fun e w' => e = .returned (.tuple #[.string ⟨#[]⟩, .int .i64 1]) ∧ Keeps [] w w' :=
  (strict_any s w (by unfold maxLen; omega)).mono fun _ _ ⟨he, hk⟩ => ⟨he.trans (by unfold strictAns; rw [len_size, if_neg (by omega), if_neg (by simp [hr])]; rfl), hk⟩

theorem tooLong_yes (s : ByteArray) (hm : s.size ≤ maxLen) (h : 3000 < s.size) (w : World) :
    Calls Try.prog 12 #[.string s] w fun e w' => e = .returned (.int .i64 2) ∧ w' = w :=
  (tooLong_any s hm w).mono fun _ _ ⟨he, hk⟩ => ⟨he.trans (by rw [if_pos h]), hk⟩
theorem tooLong_no (s : ByteArray) (h : s.size ≤ 3000) (w : World) :
    Calls Try.prog 12 #[.string s] w fun e w' => e = .returned (.int .i64 0) ∧ w' = w :=
  (tooLong_any s (by unfold maxLen; omega) w).mono fun _ _ ⟨he, hk⟩ => ⟨he.trans (by rw [if_neg (by omega)]), hk⟩

set_option maxHeartbeats 1000000 in
theorem tells_long (s : ByteArray) (hs : s.size ≤ 140737488351232) (h : 3000 < s.size) (w : World) :
    Calls Try.prog 3 #[.string s] w fun e w' => e = .returned (.bool true) ∧ Keeps [] w w' := by
  have hm : s.size ≤ maxLen := by unfold maxLen; omega
  go_enter Try.func3, Try.ntmps3
  go_wp2_with fail
  refine (put_many s _ h hm).mono ?_
  rintro e w1 ⟨rfl, hk1⟩
  go_wp2_with fail
  refine (take_many s _ h hm).mono ?_
  rintro e w2 ⟨rfl, hk2⟩
  go_wp2_with fail
  refine (strict_many s _ h hm).mono ?_
  rintro e w3 ⟨rfl, hk3⟩
  go_wp2_with fail
  refine (tooLong_yes s hm h _).mono ?_
  rintro e w4 ⟨rfl, rfl⟩
  go_wp2_with fail
  refine (begun_any _).mono ?_
  rintro e w5 ⟨rfl, hk5⟩
  go_wp2_with fail
  go_ret
  exact ⟨rfl, ((hk1.trans hk2).trans hk3).trans hk5⟩

set_option maxHeartbeats 1000000 in
theorem tells_core (s P T : ByteArray) (ok : Bool) (h : s.size ≤ 3000)
    (pP : Hid (∀ w, Calls Try.prog 9 #[.string s] w fun e w' => e = .returned (.tuple #[.string P, .int .i64 0]) ∧ Keeps [] w w'))
    (pT : Hid (∀ w, Calls Try.prog 10 #[.string s] w fun e w' => e = .returned (.tuple #[.string T, .int .i64 0]) ∧ Keeps [] w w'))
    (pS : Hid (∀ w, Calls Try.prog 11 #[.string s] w fun e w' => e = .returned (if ok then .tuple #[.string T, .int .i64 0] else .tuple #[.string ⟨#[]⟩, .int .i64 1]) ∧ Keeps [] w w'))
    (rP : Hid (∀ w, Calls Try.prog 13 #[.string s] w fun e w' => e = .returned (.string P) ∧ w' = w))
    (rT : Hid (∀ w, Calls Try.prog 14 #[.string s] w fun e w' => e = .returned (.tuple #[.string T, .bool ok]) ∧ Keeps [] w w')) (w : World) :
    Calls Try.prog 3 #[.string s] w fun e w' => e = .returned (.bool true) ∧ Keeps [] w w' := by
  cases ok
  all_goals
    go_enter Try.func3, Try.ntmps3
    go_wp2_with fail
    refine (pP.out _).mono ?_
    rintro e w1 ⟨rfl, hk1⟩
    go_wp2_with fail
    refine (pT.out _).mono ?_
    rintro e w2 ⟨rfl, hk2⟩
    go_wp2_with fail
    refine (pS.out _).mono ?_
    rintro e w3 ⟨rfl, hk3⟩
    simp only [Bool.false_eq_true, if_false, if_true]
    go_wp2_with fail
    refine (tooLong_no s h _).mono ?_
    rintro e w4 ⟨rfl, rfl⟩
    go_wp2_with fail
    refine (rP.out _).mono ?_
    rintro e w5 ⟨rfl, rfl⟩
    go_wp2_with fail
    refine (rT.out _).mono ?_
    rintro e w6 ⟨rfl, hk6⟩
    go_wp2_with fail
    refine (begun_any _).mono ?_
    rintro e w7 ⟨rfl, hk7⟩
    go_wp2_with fail
    go_ret
    exact ⟨rfl, (((hk1.trans hk2).trans hk3).trans hk6).trans hk7⟩

theorem tells_any (s : ByteArray) (hs : s.size ≤ 140737488351232) (w : World) :
    Calls Try.prog 3 #[.string s] w fun e w' => e = .returned (.bool true) ∧ Keeps [] w w' := by
  by_cases h : 3000 < s.size
  · exact tells_long s hs h w
  · refine tells_core s ⟨(putL s.data.toList).toArray⟩ ⟨(takeL s.data.toList).1.toArray⟩ (takeL s.data.toList).2 (by omega) (fun w => put_ok s w (by omega)) (fun w => take_ok s w (by omega)) ?_ (fun w => putOf_any s w (by omega)) (fun w => takeOf_any s w (by omega)) w
    intro w
    cases hr : (takeL s.data.toList).2
    · exact strict_bad s w (by omega) hr
    · exact strict_ok s w (by omega) hr
end Go.Proofs.Ytaeblkmkpfklkaa
