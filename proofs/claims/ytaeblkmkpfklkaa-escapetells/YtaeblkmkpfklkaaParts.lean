/- EscapeParts returns true, of whatever two texts. -/
import Derived.Test.YtaeblkmkpfklkaaBegun
namespace Go.Proofs.Ytaeblkmkpfklkaa
open Go.RowKit

theorem put_ok (s : ByteArray) (w : World) (h : s.size ≤ 3000) :
    Calls Try.prog 9 #[.string s] w fun e w' => e = .returned (.tuple #[.string ⟨(putL s.data.toList).toArray⟩, .int .i64 0]) ∧ Keeps [] w w' :=
  (put_any s w (by unfold maxLen; omega)).mono fun _ _ ⟨he, hk⟩ => ⟨he.trans (by unfold putAns; rw [len_size, if_neg (by omega)]; rfl), hk⟩

theorem take_ok (s : ByteArray) (w : World) (h : s.size ≤ 3000) :
    Calls Try.prog 10 #[.string s] w fun e w' => e = .returned (.tuple #[.string ⟨(takeL s.data.toList).1.toArray⟩, .int .i64 0]) ∧ Keeps [] w w' :=
  (take_any s w (by unfold maxLen; omega)).mono fun _ _ ⟨he, hk⟩ => ⟨he.trans (by unfold takeAns; rw [len_size, if_neg (by omega)]; rfl), hk⟩

theorem parts_long (s t : ByteArray) (hs : s.size ≤ 140737488351232) (ht : t.size ≤ 140737488351232) (h : 3000 < s.size + t.size) (w : World) :
    Calls Try.prog 5 #[.string s, .string t] w fun e w' => e = .returned (.bool true) ∧ Keeps [] w w' := by
  go_enter Try.func5, Try.ntmps5
  go_wp2_with fail
  refine (begun_any _).mono ?_
  rintro e w1 ⟨rfl, hk1⟩
  go_wp2_with fail
  go_ret
  exact ⟨rfl, hk1⟩

/-- The texts that EscapeParts compares are the same. -/
theorem parts_same (s t : ByteArray) : (⟨(putL (s ++ t).data.toList).toArray⟩ : ByteArray).toList = ((⟨(putL s.data.toList).toArray⟩ : ByteArray) ++ ⟨(putL t.data.toList).toArray⟩).toList := by
  rw [ByteArray.toList_eq, ByteArray.toList_eq]
  simp [putL_append]

theorem take_same (s : ByteArray) (h : ∀ i, i < s.size → byteAt s i ≠ 38) : (⟨(takeL s.data.toList).1.toArray⟩ : ByteArray) = s := by
  rw [takeL_plain s.data.toList]
  intro c hc
  obtain ⟨i, hi, rfl⟩ := List.getElem_of_mem hc
  have hi' : i < s.size := by simpa using hi
  have := h i hi'
  rw [byteAt_eq s i hi'] at this
  exact this

set_option maxHeartbeats 1000000 in
theorem parts_core (s t A B C D : ByteArray) (h : s.size + t.size ≤ 3000) (hC : (C.toList == (A ++ B).toList) = true) (hD : Hid ((∀ i, i < s.size → byteAt s i ≠ 38) → D = s))
    (pA : Hid (∀ w, Calls Try.prog 9 #[.string s] w fun e w' => e = .returned (.tuple #[.string A, .int .i64 0]) ∧ Keeps [] w w'))
    (pB : Hid (∀ w, Calls Try.prog 9 #[.string t] w fun e w' => e = .returned (.tuple #[.string B, .int .i64 0]) ∧ Keeps [] w w'))
    (pC : Hid (∀ w, Calls Try.prog 9 #[.string (s ++ t)] w fun e w' => e = .returned (.tuple #[.string C, .int .i64 0]) ∧ Keeps [] w w'))
    (pD : Hid (∀ w, Calls Try.prog 10 #[.string s] w fun e w' => e = .returned (.tuple #[.string D, .int .i64 0]) ∧ Keeps [] w w')) (w : World) (hAB : A.size + B.size ≤ 100000) :
    Calls Try.prog 5 #[.string s, .string t] w fun e w' => e = .returned (.bool true) ∧ Keeps [] w w' := by
  go_enter Try.func5, Try.ntmps5
  go_wp2_with fail
  refine (begun_any _).mono ?_
  rintro e w1 ⟨rfl, hk1⟩
  go_wp2_with fail
  refine (pA.out _).mono ?_
  rintro e w2 ⟨rfl, hk2⟩
  go_wp2_with fail
  refine (pB.out _).mono ?_
  rintro e w3 ⟨rfl, hk3⟩
  go_wp2_with fail
  refine (pC.out _).mono ?_
  rintro e w4 ⟨rfl, hk4⟩
  go_wp2_with fail
  refine (pD.out _).mono ?_
  rintro e w5 ⟨rfl, hk5⟩
  have hk : Keeps [] w w5 := (((hk1.trans hk2).trans hk3).trans hk4).trans hk5
  clear hk1 hk2 hk3 hk4 hk5 pA pB pC pD
  go_wp2_with fail
  go_loop [11, 13] (fun d i => ∃ (k : Nat) (X : ByteArray), k ≤ s.size ∧ i = .int .i64 k ∧ d = .string X ∧ Hid (X = s ∨ X = D ∧ ∀ j, j < k → byteAt s j ≠ 38)) (fun _ i => s.size - (intOf i).toNat)
  case atStart => exact ⟨0, D, Nat.zero_le _, rfl, rfl, .inr ⟨rfl, fun j hj => by omega⟩⟩
  case round =>
    obtain ⟨k, X, hk1, rfl, rfl, hX⟩ := hrel
    by_cases hlt : k < s.size
    · by_cases hc : byteAt s k = 38
      · have hc' : (s[k].toNat : Int) = 38 := by rw [← byteAt_eq s k hlt, hc]; rfl
        go_wp2
        go_round
        case rel => exact ⟨k + 1, s, by omega, by go_num, rfl, .inl rfl⟩
        case measure => simp [intOf]; omega
      · have hc' : ((s[k].toNat : Int) == 38) = false := by rw [← byteAt_eq s k hlt]; exact byte_no (d := 38) rfl hc
        have hX' : Hid (X = s ∨ X = D ∧ ∀ j, j < k + 1 → byteAt s j ≠ 38) := by
          rcases hX.out with e | ⟨e, h1⟩
          · exact .inl e
          · refine .inr ⟨e, fun j hj => ?_⟩
            by_cases hjk : j = k
            · subst hjk; exact hc
            · exact h1 j (by omega)
        go_wp2
        go_round
        case rel => exact ⟨k + 1, X, by omega, by go_num, rfl, hX'⟩
        case measure => simp [intOf]; omega
    · have he : X = s := by
        rcases hX.out with e | ⟨e, h1⟩
        · exact e
        · exact e.trans (hD.out fun i hi => h1 i (by omega))
      subst he
      go_wp2
      go_ret
      exact ⟨rfl, hk⟩

theorem parts_any (s t : ByteArray) (hs : s.size ≤ 140737488351232) (ht : t.size ≤ 140737488351232) (w : World) :
    Calls Try.prog 5 #[.string s, .string t] w fun e w' => e = .returned (.bool true) ∧ Keeps [] w w' := by
  by_cases h : 3000 < s.size + t.size
  · exact parts_long s t hs ht h w
  · have hz : (s ++ t).size = s.size + t.size := by simp
    refine parts_core s t ⟨(putL s.data.toList).toArray⟩ ⟨(putL t.data.toList).toArray⟩ ⟨(putL (s ++ t).data.toList).toArray⟩ ⟨(takeL s.data.toList).1.toArray⟩ (by omega) (by rw [parts_same]; simp) (take_same s)
      (fun w => put_ok s w (by omega)) (fun w => put_ok t w (by omega)) (fun w => put_ok (s ++ t) w (by omega)) (fun w => take_ok s w (by omega)) w ?_
    have h1 := putL_le s.data.toList
    have h2 := putL_le t.data.toList
    rw [len_size] at h1 h2
    show (putL s.data.toList).toArray.size + (putL t.data.toList).toArray.size ≤ 100000
    simp only [List.size_toArray]
    omega
end Go.Proofs.Ytaeblkmkpfklkaa
