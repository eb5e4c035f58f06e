/- signAt: the document's answer at a place where a & stands. -/
import Derived.Test.YtaeblkmkpfklkaaSignMath
import Derived.Test.YtaeblkmkpfklkaaRow
namespace Go.Proofs.Ytaeblkmkpfklkaa
open Go.RowKit

/-- What signAt answers, as a call answers it. -/
def three (a : List UInt8 × Nat × Bool) : Ending := .returned (.tuple #[.string ⟨a.1.toArray⟩, .int .i64 a.2.1, .bool a.2.2])

set_option maxHeartbeats 1000000 in
theorem sign_c1 (s : ByteArray) (k : Nat) (hs : s.size ≤ 3000) (hk : k < s.size) (b1 : stAt s k [38, 97, 109, 112, 59] = true) (w : World) :
    Calls Try.prog 26 #[.string s, .int .i64 k] w fun e w' => e = three ([38], 5, true) ∧ Keeps [] w w' := by
  go_enter Try.func26, Try.ntmps26
  go_wp2_with (go_at_call 42; refine (startsAt_any s k _ hs (by omega) (Nat.le_of_ble_eq_true rfl) _).mono ?_; rintro e w' ⟨rfl, rfl⟩)
  go_ret3
  exact ⟨rfl, Keeps.refl _ _⟩

set_option maxHeartbeats 1000000 in
theorem sign_c2 (s : ByteArray) (k : Nat) (hs : s.size ≤ 3000) (hk : k < s.size) (b1 : stAt s k [38, 97, 109, 112, 59] = false) (b2 : stAt s k [38, 108, 116, 59] = true) (w : World) :
    Calls Try.prog 26 #[.string s, .int .i64 k] w fun e w' => e = three ([60], 4, true) ∧ Keeps [] w w' := by
  go_enter Try.func26, Try.ntmps26
  go_wp2_with (go_at_call 42; refine (startsAt_any s k _ hs (by omega) (Nat.le_of_ble_eq_true rfl) _).mono ?_; rintro e w' ⟨rfl, rfl⟩)
  go_ret3
  exact ⟨rfl, Keeps.refl _ _⟩

set_option maxHeartbeats 1000000 in
theorem sign_c3 (s : ByteArray) (k : Nat) (hs : s.size ≤ 3000) (hk : k < s.size) (b1 : stAt s k [38, 97, 109, 112, 59] = false) (b2 : stAt s k [38, 108, 116, 59] = false) (b3 : stAt s k [38, 103, 116, 59] = true) (w : World) :
    Calls Try.prog 26 #[.string s, .int .i64 k] w fun e w' => e = three ([62], 4, true) ∧ Keeps [] w w' := by
  go_enter Try.func26, Try.ntmps26
  go_wp2_with (go_at_call 42; refine (startsAt_any s k _ hs (by omega) (Nat.le_of_ble_eq_true rfl) _).mono ?_; rintro e w' ⟨rfl, rfl⟩)
  go_ret3
  exact ⟨rfl, Keeps.refl _ _⟩

set_option maxHeartbeats 1000000 in
theorem sign_c4 (s : ByteArray) (k : Nat) (hs : s.size ≤ 3000) (hk : k < s.size) (b1 : stAt s k [38, 97, 109, 112, 59] = false) (b2 : stAt s k [38, 108, 116, 59] = false) (b3 : stAt s k [38, 103, 116, 59] = false) (b4 : stAt s k [38, 113, 117, 111, 116, 59] = true) (w : World) :
    Calls Try.prog 26 #[.string s, .int .i64 k] w fun e w' => e = three ([34], 6, true) ∧ Keeps [] w w' := by
  go_enter Try.func26, Try.ntmps26
  go_wp2_with (go_at_call 42; refine (startsAt_any s k _ hs (by omega) (Nat.le_of_ble_eq_true rfl) _).mono ?_; rintro e w' ⟨rfl, rfl⟩)
  go_ret3
  exact ⟨rfl, Keeps.refl _ _⟩

set_option maxHeartbeats 1000000 in
theorem sign_c5 (s : ByteArray) (k : Nat) (hs : s.size ≤ 3000) (hk : k < s.size) (b1 : stAt s k [38, 97, 109, 112, 59] = false) (b2 : stAt s k [38, 108, 116, 59] = false) (b3 : stAt s k [38, 103, 116, 59] = false) (b4 : stAt s k [38, 113, 117, 111, 116, 59] = false) (b5 : stAt s k [38, 97, 112, 111, 115, 59] = true) (w : World) :
    Calls Try.prog 26 #[.string s, .int .i64 k] w fun e w' => e = three ([39], 6, true) ∧ Keeps [] w w' := by
  go_enter Try.func26, Try.ntmps26
  go_wp2_with (go_at_call 42; refine (startsAt_any s k _ hs (by omega) (Nat.le_of_ble_eq_true rfl) _).mono ?_; rintro e w' ⟨rfl, rfl⟩)
  go_ret3
  exact ⟨rfl, Keeps.refl _ _⟩

set_option maxHeartbeats 1000000 in
theorem sign_c6 (s : ByteArray) (k : Nat) (hs : s.size ≤ 3000) (hk : k < s.size) (b1 : stAt s k [38, 97, 109, 112, 59] = false) (b2 : stAt s k [38, 108, 116, 59] = false) (b3 : stAt s k [38, 103, 116, 59] = false) (b4 : stAt s k [38, 113, 117, 111, 116, 59] = false) (b5 : stAt s k [38, 97, 112, 111, 115, 59] = false) (b6 : stAt s k [38, 35] = false) (w : World) :
    Calls Try.prog 26 #[.string s, .int .i64 k] w fun e w' => e = three ([], 0, false) ∧ Keeps [] w w' := by
  go_enter Try.func26, Try.ntmps26
  go_wp2_with (go_at_call 42; refine (startsAt_any s k _ hs (by omega) (Nat.le_of_ble_eq_true rfl) _).mono ?_; rintro e w' ⟨rfl, rfl⟩)
  go_ret3
  exact ⟨rfl, Keeps.refl _ _⟩

theorem rdigit_no (c : UInt8) (base : Nat) (hb : base = 10 ∨ base = 16) (h : base ≤ digV c) (w : World) :
    Calls Try.prog 55 #[.int .u8 c.toNat, .int .i64 base] w fun e w' => e = .returned (.int .i64 (-1)) ∧ w' = w :=
  (rdigit_any c base hb w).mono fun _ _ ⟨he, hw⟩ => ⟨he.trans (by rw [if_pos h]), hw⟩
theorem rdigit_yes (c : UInt8) (base : Nat) (hb : base = 10 ∨ base = 16) (h : ¬ base ≤ digV c) (w : World) :
    Calls Try.prog 55 #[.int .u8 c.toNat, .int .i64 base] w fun e w' => e = .returned (.int .i64 (digV c)) ∧ w' = w :=
  (rdigit_any c base hb w).mono fun _ _ ⟨he, hw⟩ => ⟨he.trans (by rw [if_neg h]), hw⟩

theorem ret_three {a : ByteArray} {x y : Int} {b : Bool} (h : x = y) : Ending.returned (.tuple #[.string a, .int .i64 x, .bool b]) = .returned (.tuple #[.string a, .int .i64 y, .bool b]) := by rw [h]

theorem between_is (n a b : Int) (r : Bool) (h : (decide (a ≤ n) && decide (n ≤ b)) = r) (w : World) :
    Calls Try.prog 37 #[.int .i64 n, .int .i64 a, .int .i64 b] w fun e w' => e = .returned (.bool r) ∧ w' = w := h ▸ between_any n a b w

set_option maxHeartbeats 4000000 in
theorem sign_n16 (s : ByteArray) (k : Nat) (hs : s.size ≤ 3000) (b1 : stAt s k [38, 97, 109, 112, 59] = false) (b2 : stAt s k [38, 108, 116, 59] = false) (b3 : stAt s k [38, 103, 116, 59] = false) (b4 : stAt s k [38, 113, 117, 111, 116, 59] = false) (b5 : stAt s k [38, 97, 112, 111, 115, 59] = false) (b6 : stAt s k [38, 35] = true) (b7 : stAt s k [38, 35, 120] = true) (hz : k + 3 ≤ s.size) (hN : Hid (NumAt s k (k + 3) 16 6)) (R : List UInt8 × Nat × Bool) (hR : Hid (refT (s.data.toList.drop (k + 1)) = R)) (w : World) :
    Calls Try.prog 26 #[.string s, .int .i64 k] w fun e w' => e = three R ∧ Keeps [] w w' := by
  go_enter Try.func26, Try.ntmps26
  go_wp2_with (go_at_call 42; refine (startsAt_any s k _ hs (by omega) (Nat.le_of_ble_eq_true rfl) _).mono ?_; rintro e w' ⟨rfl, rfl⟩)
  clear b1 b2 b3 b4 b5 b6 b7
  go_loop [10, 11] (fun n t => ∃ j m : Nat, j ≤ 6 + 1 ∧ k + 3 + j ≤ s.size ∧ t = .int .i64 ((k + 3 + j : Nat) : Int) ∧ n = .int .i64 (m : Nat) ∧ Hid (digits s (k + 3) 16 j = some m)) (fun _ t => s.size - (intOf t).toNat)
  case atStart => exact ⟨0, 0, by omega, by omega, by go_num, rfl, by simp [Hid, digits, numF]⟩
  case round =>
    obtain ⟨j, m, hj, hjs, rfl, rfl, hm⟩ := hrel
    have hlt : m < 268435456 := digits_lt (by omega) hj hm.out
    by_cases hin : k + 3 + j < s.size
    · by_cases hd : 16 ≤ digV s[k + 3 + j]
      · have hdig := hide (fun w => rdigit_no s[k + 3 + j] 16 (by simp) hd w)
        have hdb : 16 ≤ digV (byteAt s (k + 3 + j)) := by rw [byteAt_eq s _ hin]; exact hd
        by_cases hgood : 1 ≤ j ∧ j ≤ 6 ∧ byteAt s (k + 3 + j) = 59
        · obtain ⟨g1, g2, g3⟩ := hgood
          have hc : ((s[k + 3 + j].toNat : Int) != 59) = false := by rw [← byteAt_eq s _ hin, g3]; rfl
          have hc2 : ((s[k + 3 + j].toNat : Int) == 59) = true := by rw [← byteAt_eq s _ hin, g3]; rfl
          have t1 : (((k : Int) + 3 + (j : Int)) == (k : Int) + 3) = false := by simp; omega
          have t2 : (((k : Int) + 3 + (j : Int)) == (s.size : Int)) = false := by simp; omega
          have hg := num_good hN.out hm.out hin g1 g2 g3
          have e1 := hR.out.symm.trans (refT_good hg)
          clear hg hd hdb g3 hR hm hN
          cases hst : standsL m
          · rw [hst] at e1
            have HR : Hid (R = ([239, 191, 189], 1 + (k + 3 + j - k), false)) := e1
            clear e1
            rcases (show m < 1 ∨ (1 ≤ m ∧ 55296 ≤ m ∧ m ≤ 57343) ∨ 1114111 < m from by
              simp only [standsL, Bool.and_eq_false_iff, decide_eq_false_iff_not, Bool.not_eq_false', Bool.and_eq_true, decide_eq_true_eq] at hst
              omega) with q | q | q
            · clear hst
              go_wp2_with (go_at_call 55; refine (hdig.out _).mono ?_; rintro e w' ⟨rfl, rfl⟩)
              go_ret3
              rw [HR.out]
              exact ⟨ret_three (by dsimp only; omega), Keeps.refl _ _⟩
            · clear hst
              have hbt := hide (fun w => between_is (m : Int) 55296 57343 true (by simp; omega) w)
              go_wp2_with (first | (go_at_call 55; refine (hdig.out _).mono ?_; rintro e w' ⟨rfl, rfl⟩) | (go_at_call 37; refine (hbt.out _).mono ?_; rintro e w' ⟨rfl, rfl⟩))
              go_ret3
              rw [HR.out]
              exact ⟨ret_three (by dsimp only; omega), Keeps.refl _ _⟩
            · clear hst
              have hbt := hide (fun w => between_is (m : Int) 55296 57343 false (by simp; omega) w)
              have hbig : decide ((1114111 : Int) < (m : Int)) = true := by simp; omega
              go_wp2_with (first | (go_at_call 55; refine (hdig.out _).mono ?_; rintro e w' ⟨rfl, rfl⟩) | (go_at_call 37; refine (hbt.out _).mono ?_; rintro e w' ⟨rfl, rfl⟩))
              go_ret3
              rw [HR.out]
              exact ⟨ret_three (by dsimp only; omega), Keeps.refl _ _⟩
          · rw [hst] at e1
            have HR : Hid (R = (Lib.encodeRune m, 1 + (k + 3 + j - k), true)) := e1
            clear e1
            have q : 1 ≤ m ∧ m ≤ 1114111 ∧ ¬ (55296 ≤ m ∧ m ≤ 57343) := by
              simp only [standsL, Bool.and_eq_true, decide_eq_true_eq, Bool.not_eq_true', Bool.and_eq_false_iff, decide_eq_false_iff_not] at hst
              omega
            have hrow := hide (fun w => row_any m hst w)
            clear hst
            have hbt := hide (fun w => between_is (m : Int) 55296 57343 false (by simp; omega) w)
            have hbig : decide ((1114111 : Int) < (m : Int)) = false := by simp; omega
            have hm0 : ((m : Int) == 0) = false := by simp; omega
            clear q
            go_wp2_with (first | (go_at_call 55; refine (hdig.out _).mono ?_; rintro e w' ⟨rfl, rfl⟩) | (go_at_call 37; refine (hbt.out _).mono ?_; rintro e w' ⟨rfl, rfl⟩))
            refine (hrow.out _).mono ?_
            rintro e w1 ⟨rfl, hk1⟩
            go_wp2_with fail
            go_ret3
            rw [HR.out]
            exact ⟨ret_three (by dsimp only; omega), hk1⟩
        · have hq : j < 1 ∨ 6 < j ∨ 1 ≤ j ∧ j ≤ 6 ∧ byteAt s (k + 3 + j) ≠ 59 := by
            by_cases q1 : j < 1
            · exact .inl q1
            · by_cases q2 : 6 < j
              · exact .inr (.inl q2)
              · exact .inr (.inr ⟨by omega, by omega, fun q3 => hgood ⟨by omega, by omega, q3⟩⟩)
          have HR := hide (hR.out.symm.trans (num_bad hN.out hm.out hjs (.inr (.inl hdb)) (by
            rcases hq with q | q | q
            · exact .inl (by omega)
            · exact .inr (.inl q)
            · exact .inr (.inr (.inr q.2.2)))))
          clear hd hdb hR hm hN hgood
          rcases hq with q | q | ⟨q1, q2, q3⟩
          · go_wp2_with (go_at_call 55; refine (hdig.out _).mono ?_; rintro e w' ⟨rfl, rfl⟩)
            go_ret3
            rw [HR.out]
            exact ⟨rfl, Keeps.refl _ _⟩
          · go_wp2_with (go_at_call 55; refine (hdig.out _).mono ?_; rintro e w' ⟨rfl, rfl⟩)
            go_ret3
            rw [HR.out]
            exact ⟨rfl, Keeps.refl _ _⟩
          · have hc : ((s[k + 3 + j].toNat : Int) != 59) = true := by
              rw [← byteAt_eq s _ hin]
              have := byte_bne (byteAt s (k + 3 + j)) 59
              rw [show ((59 : UInt8).toNat : Int) = 59 from rfl] at this
              rw [this]; simpa using q3
            clear q3
            go_wp2_with (go_at_call 55; refine (hdig.out _).mono ?_; rintro e w' ⟨rfl, rfl⟩)
            go_ret3
            rw [HR.out]
            exact ⟨rfl, Keeps.refl _ _⟩
      · have hdig := hide (fun w => rdigit_yes s[k + 3 + j] 16 (by simp) hd w)
        have hdl := digV_le s[k + 3 + j]
        by_cases hmost : j ≤ 6
        · have hnext := hide (digits_succ s (k + 3) 16 j m hin hm.out hd)
          clear hd hR hN hm
          go_wp2_with (go_at_call 55; refine (hdig.out _).mono ?_; rintro e w' ⟨rfl, rfl⟩)
          go_round
          case rel => exact ⟨j + 1, m * 16 + digV s[k + 3 + j], by omega, by omega, by go_num, by go_num, hnext⟩
          case measure => simp [intOf]; omega
        · have HR := hide (hR.out.symm.trans (num_bad hN.out hm.out hjs (.inr (.inr (by omega))) (.inr (.inl (by omega)))))
          clear hd hR hm hN
          go_wp2_with (go_at_call 55; refine (hdig.out _).mono ?_; rintro e w' ⟨rfl, rfl⟩)
          go_ret3
          rw [HR.out]
          exact ⟨rfl, Keeps.refl _ _⟩
    · have HR := hide (hR.out.symm.trans (num_bad hN.out hm.out hjs (.inl (by omega)) (.inr (.inr (.inl (by omega))))))
      clear hR hm hN
      go_wp2
      all_goals
        go_ret3
        rw [HR.out]
        exact ⟨rfl, Keeps.refl _ _⟩

set_option maxHeartbeats 4000000 in
theorem sign_n10 (s : ByteArray) (k : Nat) (hs : s.size ≤ 3000) (b1 : stAt s k [38, 97, 109, 112, 59] = false) (b2 : stAt s k [38, 108, 116, 59] = false) (b3 : stAt s k [38, 103, 116, 59] = false) (b4 : stAt s k [38, 113, 117, 111, 116, 59] = false) (b5 : stAt s k [38, 97, 112, 111, 115, 59] = false) (b6 : stAt s k [38, 35] = true) (b7 : stAt s k [38, 35, 120] = false) (hz : k + 2 ≤ s.size) (hN : Hid (NumAt s k (k + 2) 10 7)) (R : List UInt8 × Nat × Bool) (hR : Hid (refT (s.data.toList.drop (k + 1)) = R)) (w : World) :
    Calls Try.prog 26 #[.string s, .int .i64 k] w fun e w' => e = three R ∧ Keeps [] w w' := by
  go_enter Try.func26, Try.ntmps26
  go_wp2_with (go_at_call 42; refine (startsAt_any s k _ hs (by omega) (Nat.le_of_ble_eq_true rfl) _).mono ?_; rintro e w' ⟨rfl, rfl⟩)
  clear b1 b2 b3 b4 b5 b6 b7
  go_loop [10, 11] (fun n t => ∃ j m : Nat, j ≤ 7 + 1 ∧ k + 2 + j ≤ s.size ∧ t = .int .i64 ((k + 2 + j : Nat) : Int) ∧ n = .int .i64 (m : Nat) ∧ Hid (digits s (k + 2) 10 j = some m)) (fun _ t => s.size - (intOf t).toNat)
  case atStart => exact ⟨0, 0, by omega, by omega, by go_num, rfl, by simp [Hid, digits, numF]⟩
  case round =>
    obtain ⟨j, m, hj, hjs, rfl, rfl, hm⟩ := hrel
    have hlt : m < 100000000 := digits_lt (by omega) hj hm.out
    by_cases hin : k + 2 + j < s.size
    · by_cases hd : 10 ≤ digV s[k + 2 + j]
      · have hdig := hide (fun w => rdigit_no s[k + 2 + j] 10 (by simp) hd w)
        have hdb : 10 ≤ digV (byteAt s (k + 2 + j)) := by rw [byteAt_eq s _ hin]; exact hd
        by_cases hgood : 1 ≤ j ∧ j ≤ 7 ∧ byteAt s (k + 2 + j) = 59
        · obtain ⟨g1, g2, g3⟩ := hgood
          have hc : ((s[k + 2 + j].toNat : Int) != 59) = false := by rw [← byteAt_eq s _ hin, g3]; rfl
          have hc2 : ((s[k + 2 + j].toNat : Int) == 59) = true := by rw [← byteAt_eq s _ hin, g3]; rfl
          have t1 : (((k : Int) + 2 + (j : Int)) == (k : Int) + 2) = false := by simp; omega
          have t2 : (((k : Int) + 2 + (j : Int)) == (s.size : Int)) = false := by simp; omega
          have hg := num_good hN.out hm.out hin g1 g2 g3
          have e1 := hR.out.symm.trans (refT_good hg)
          clear hg hd hdb g3 hR hm hN
          cases hst : standsL m
          · rw [hst] at e1
            have HR : Hid (R = ([239, 191, 189], 1 + (k + 2 + j - k), false)) := e1
            clear e1
            rcases (show m < 1 ∨ (1 ≤ m ∧ 55296 ≤ m ∧ m ≤ 57343) ∨ 1114111 < m from by
              simp only [standsL, Bool.and_eq_false_iff, decide_eq_false_iff_not, Bool.not_eq_false', Bool.and_eq_true, decide_eq_true_eq] at hst
              omega) with q | q | q
            · clear hst
              go_wp2_with (go_at_call 55; refine (hdig.out _).mono ?_; rintro e w' ⟨rfl, rfl⟩)
              go_ret3
              rw [HR.out]
              exact ⟨ret_three (by dsimp only; omega), Keeps.refl _ _⟩
            · clear hst
              have hbt := hide (fun w => between_is (m : Int) 55296 57343 true (by simp; omega) w)
              go_wp2_with (first | (go_at_call 55; refine (hdig.out _).mono ?_; rintro e w' ⟨rfl, rfl⟩) | (go_at_call 37; refine (hbt.out _).mono ?_; rintro e w' ⟨rfl, rfl⟩))
              go_ret3
              rw [HR.out]
              exact ⟨ret_three (by dsimp only; omega), Keeps.refl _ _⟩
            · clear hst
              have hbt := hide (fun w => between_is (m : Int) 55296 57343 false (by simp; omega) w)
              have hbig : decide ((1114111 : Int) < (m : Int)) = true := by simp; omega
              go_wp2_with (first | (go_at_call 55; refine (hdig.out _).mono ?_; rintro e w' ⟨rfl, rfl⟩) | (go_at_call 37; refine (hbt.out _).mono ?_; rintro e w' ⟨rfl, rfl⟩))
              go_ret3
              rw [HR.out]
              exact ⟨ret_three (by dsimp only; omega), Keeps.refl _ _⟩
          · rw [hst] at e1
            have HR : Hid (R = (Lib.encodeRune m, 1 + (k + 2 + j - k), true)) := e1
            clear e1
            have q : 1 ≤ m ∧ m ≤ 1114111 ∧ ¬ (55296 ≤ m ∧ m ≤ 57343) := by
              simp only [standsL, Bool.and_eq_true, decide_eq_true_eq, Bool.not_eq_true', Bool.and_eq_false_iff, decide_eq_false_iff_not] at hst
              omega
            have hrow := hide (fun w => row_any m hst w)
            clear hst
            have hbt := hide (fun w => between_is (m : Int) 55296 57343 false (by simp; omega) w)
            have hbig : decide ((1114111 : Int) < (m : Int)) = false := by simp; omega
            have hm0 : ((m : Int) == 0) = false := by simp; omega
            clear q
            go_wp2_with (first | (go_at_call 55; refine (hdig.out _).mono ?_; rintro e w' ⟨rfl, rfl⟩) | (go_at_call 37; refine (hbt.out _).mono ?_; rintro e w' ⟨rfl, rfl⟩))
            refine (hrow.out _).mono ?_
            rintro e w1 ⟨rfl, hk1⟩
            go_wp2_with fail
            go_ret3
            rw [HR.out]
            exact ⟨ret_three (by dsimp only; omega), hk1⟩
        · have hq : j < 1 ∨ 7 < j ∨ 1 ≤ j ∧ j ≤ 7 ∧ byteAt s (k + 2 + j) ≠ 59 := by
            by_cases q1 : j < 1
            · exact .inl q1
            · by_cases q2 : 7 < j
              · exact .inr (.inl q2)
              · exact .inr (.inr ⟨by omega, by omega, fun q3 => hgood ⟨by omega, by omega, q3⟩⟩)
          have HR := hide (hR.out.symm.trans (num_bad hN.out hm.out hjs (.inr (.inl hdb)) (by
            rcases hq with q | q | q
            · exact .inl (by omega)
            · exact .inr (.inl q)
            · exact .inr (.inr (.inr q.2.2)))))
          clear hd hdb hR hm hN hgood
          rcases hq with q | q | ⟨q1, q2, q3⟩
          · go_wp2_with (go_at_call 55; refine (hdig.out _).mono ?_; rintro e w' ⟨rfl, rfl⟩)
            go_ret3
            rw [HR.out]
            exact ⟨rfl, Keeps.refl _ _⟩
          · go_wp2_with (go_at_call 55; refine (hdig.out _).mono ?_; rintro e w' ⟨rfl, rfl⟩)
            go_ret3
            rw [HR.out]
            exact ⟨rfl, Keeps.refl _ _⟩
          · have hc : ((s[k + 2 + j].toNat : Int) != 59) = true := by
              rw [← byteAt_eq s _ hin]
              have := byte_bne (byteAt s (k + 2 + j)) 59
              rw [show ((59 : UInt8).toNat : Int) = 59 from rfl] at this
              rw [this]; simpa using q3
            clear q3
            go_wp2_with (go_at_call 55; refine (hdig.out _).mono ?_; rintro e w' ⟨rfl, rfl⟩)
            go_ret3
            rw [HR.out]
            exact ⟨rfl, Keeps.refl _ _⟩
      · have hdig := hide (fun w => rdigit_yes s[k + 2 + j] 10 (by simp) hd w)
        have hdl := digV_le s[k + 2 + j]
        by_cases hmost : j ≤ 7
        · have hnext := hide (digits_succ s (k + 2) 10 j m hin hm.out hd)
          clear hd hR hN hm
          go_wp2_with (go_at_call 55; refine (hdig.out _).mono ?_; rintro e w' ⟨rfl, rfl⟩)
          go_round
          case rel => exact ⟨j + 1, m * 10 + digV s[k + 2 + j], by omega, by omega, by go_num, by go_num, hnext⟩
          case measure => simp [intOf]; omega
        · have HR := hide (hR.out.symm.trans (num_bad hN.out hm.out hjs (.inr (.inr (by omega))) (.inr (.inl (by omega)))))
          clear hd hR hm hN
          go_wp2_with (go_at_call 55; refine (hdig.out _).mono ?_; rintro e w' ⟨rfl, rfl⟩)
          go_ret3
          rw [HR.out]
          exact ⟨rfl, Keeps.refl _ _⟩
    · have HR := hide (hR.out.symm.trans (num_bad hN.out hm.out hjs (.inl (by omega)) (.inr (.inr (.inl (by omega))))))
      clear hR hm hN
      go_wp2
      all_goals
        go_ret3
        rw [HR.out]
        exact ⟨rfl, Keeps.refl _ _⟩

end Go.Proofs.Ytaeblkmkpfklkaa
