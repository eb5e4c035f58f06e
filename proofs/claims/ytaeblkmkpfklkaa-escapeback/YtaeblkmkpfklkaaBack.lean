/- EscapeBack returns true, of whatever text. -/
import Derived.Test.YtaeblkmkpfklkaaParts
namespace Go.Proofs.Ytaeblkmkpfklkaa
open Go.RowKit

theorem strict_ok (s : ByteArray) (w : World) (h : s.size ≤ 3000) (hr : (takeL s.data.toList).2 = true) :
    Calls Try.prog 11 #[.string s] w fun e w' => e = .returned (.tuple #[.string ⟨(takeL s.data.toList).1.toArray⟩, .int .i64 0]) ∧ Keeps [] w w' :=
  (strict_any s w (by unfold maxLen; omega)).mono fun _ _ ⟨he, hk⟩ => ⟨he.trans (by unfold strictAns; rw [len_size, if_neg (by omega), if_pos hr]; rfl), hk⟩

theorem put_many (s : ByteArray) (w : World) (h : 3000 < s.size) (hm : s.size ≤ maxLen) :
    Calls Try.prog 9 #[.string s] w fun e w' => e = .returned (.tuple #[.string ⟨#[]⟩, .int .i64 2]) ∧ Keeps [] w w' :=
  (put_any s w hm).mono fun _ _ ⟨he, hk⟩ => ⟨he.trans (by unfold putAns; rw [len_size, if_pos h]; rfl), hk⟩

/-- In what is put no sign stands that would begin a tag, or end a value. -/
theorem putB_signs (c d : UInt8) (h : d ∈ putB c) : d ≠ 60 ∧ d ≠ 62 ∧ d ≠ 34 := by
  unfold putB at h
  split at h
  · simp at h; rcases h with h | h | h | h | h <;> subst h <;> decide
  · split at h
    · simp at h; rcases h with h | h | h | h <;> subst h <;> decide
    · split at h
      · simp at h; rcases h with h | h | h | h <;> subst h <;> decide
      · split at h
        · simp at h; rcases h with h | h | h | h | h | h <;> subst h <;> decide
        · rename_i h1 h2 h3 h4
          simp at h; subst h; exact ⟨h2, h3, h4⟩

theorem putL_signs (l : List UInt8) (d : UInt8) (h : d ∈ putL l) : d ≠ 60 ∧ d ≠ 62 ∧ d ≠ 34 := by
  simp only [putL, List.mem_flatMap] at h
  obtain ⟨c, _, hc⟩ := h
  exact putB_signs c d hc

theorem back_long (s : ByteArray) (hs : s.size ≤ 140737488351232) (h : 3000 < s.size) (w : World) :
    Calls Try.prog 4 #[.string s] w fun e w' => e = .returned (.bool true) ∧ Keeps [] w w' := by
  go_enter Try.func4, Try.ntmps4
  go_wp2_with fail
  refine (put_many s _ h (by unfold maxLen; omega)).mono ?_
  rintro e w1 ⟨rfl, hk1⟩
  go_wp2_with fail
  refine (begun_any _).mono ?_
  rintro e w2 ⟨rfl, hk2⟩
  go_wp2_with fail
  go_ret
  exact ⟨rfl, hk1.trans hk2⟩

set_option maxHeartbeats 1000000 in
theorem back_core (s A : ByteArray) (hA : A.size ≤ 18000) (hsg : Hid (∀ i (hi : i < A.size), A[i] ≠ 60 ∧ A[i] ≠ 62 ∧ A[i] ≠ 34))
    (pA : Hid (∀ w, Calls Try.prog 9 #[.string s] w fun e w' => e = .returned (.tuple #[.string A, .int .i64 0]) ∧ Keeps [] w w'))
    (pT : Hid (A.size ≤ 3000 → ∀ w, Calls Try.prog 10 #[.string A] w fun e w' => e = .returned (.tuple #[.string s, .int .i64 0]) ∧ Keeps [] w w'))
    (pS : Hid (A.size ≤ 3000 → ∀ w, Calls Try.prog 11 #[.string A] w fun e w' => e = .returned (.tuple #[.string s, .int .i64 0]) ∧ Keeps [] w w')) (w : World) :
    Calls Try.prog 4 #[.string s] w fun e w' => e = .returned (.bool true) ∧ Keeps [] w w' := by
  by_cases hlong : 3000 < A.size
  · go_enter Try.func4, Try.ntmps4
    go_wp2_with fail
    refine (pA.out _).mono ?_
    rintro e w1 ⟨rfl, hk1⟩
    go_wp2_with fail
    refine (begun_any _).mono ?_
    rintro e w2 ⟨rfl, hk2⟩
    go_wp2_with fail
    go_ret
    exact ⟨rfl, hk1.trans hk2⟩
  · go_enter Try.func4, Try.ntmps4
    go_wp2_with fail
    refine (pA.out _).mono ?_
    rintro e w1 ⟨rfl, hk1⟩
    go_wp2_with fail
    refine (begun_any _).mono ?_
    rintro e w2 ⟨rfl, hk2⟩
    go_wp2_with fail
    refine (pT.out (by omega) _).mono ?_
    rintro e w3 ⟨rfl, hk3⟩
    go_wp2_with fail
    refine (pS.out (by omega) _).mono ?_
    rintro e w4 ⟨rfl, hk4⟩
    have hk : Keeps [] w w4 := ((hk1.trans hk2).trans hk3).trans hk4
    clear hk1 hk2 hk3 hk4 pA pT pS
    go_wp2_with fail
    go_loop [8] (fun i => ∃ k : Nat, k ≤ A.size ∧ i = .int .i64 k) (fun i => A.size - (intOf i).toNat)
    case atStart => exact ⟨0, Nat.zero_le _, rfl⟩
    case round =>
      obtain ⟨k, hk1, rfl⟩ := hrel
      by_cases hlt : k < A.size
      · have h1 : ((A[k].toNat : Int) == 60) = false := byte_no (d := 60) rfl (hsg.out k hlt).1
        have h2 : ((A[k].toNat : Int) == 62) = false := byte_no (d := 62) rfl (hsg.out k hlt).2.1
        have h3 : ((A[k].toNat : Int) == 34) = false := byte_no (d := 34) rfl (hsg.out k hlt).2.2
        go_wp2
        go_round
        case rel => exact ⟨k + 1, by omega, by go_num⟩
        case measure => simp [intOf]; omega
      · go_wp2
        go_ret
        exact ⟨rfl, hk⟩

theorem back_any (s : ByteArray) (hs : s.size ≤ 140737488351232) (w : World) :
    Calls Try.prog 4 #[.string s] w fun e w' => e = .returned (.bool true) ∧ Keeps [] w w' := by
  by_cases h : 3000 < s.size
  · exact back_long s hs h w
  · have e : takeL (putL s.data.toList) = (s.data.toList, true) := takeL_putL _
    have e1 : (⟨(takeL (putL s.data.toList)).1.toArray⟩ : ByteArray) = s := by rw [e]
    have hl := putL_le s.data.toList
    rw [len_size] at hl
    refine back_core s ⟨(putL s.data.toList).toArray⟩ ?_ ?_ (fun w => put_ok s w (by omega)) ?_ ?_ w
    · show (putL s.data.toList).toArray.size ≤ 18000
      simp only [List.size_toArray]
      omega
    · intro i hi
      exact putL_signs s.data.toList _ (by
        have : i < (putL s.data.toList).length := hi
        exact List.getElem_mem this)
    · intro hz w
      have := take_ok (⟨(putL s.data.toList).toArray⟩ : ByteArray) w hz
      simpa [e] using this
    · intro hz w
      have := strict_ok (⟨(putL s.data.toList).toArray⟩ : ByteArray) w hz (by simp [e])
      simpa [e] using this
end Go.Proofs.Ytaeblkmkpfklkaa
