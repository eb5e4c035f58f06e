/- The small calls of the document's answer: between, startsAt, digit, row, PutOf, tooLong. -/
import Derived.Test.YtaeblkmkpfklkaaEscape
import Derived.Test.YtaeblkmkpfklkaaRefMath
namespace Go.Proofs.Ytaeblkmkpfklkaa
open Go.RowKit

set_option maxHeartbeats 400000 in
theorem between_any (n a b : Int) (w : World) :
    Calls Try.prog 37 #[.int .i64 n, .int .i64 a, .int .i64 b] w fun e w' => e = .returned (.bool (decide (a ≤ n) && decide (n ≤ b))) ∧ w' = w := by
  by_cases h1 : a ≤ n
  · go_enter Try.func37, Try.ntmps37
    go_wp2
    go_ret
    exact ⟨ret_bool (by simp [h1]), rfl⟩
  · go_enter Try.func37, Try.ntmps37
    go_wp2
    go_ret
    exact ⟨ret_bool (by rw [decide_eq_false (show ¬ a ≤ n from by omega)]; rfl), rfl⟩

theorem tooLong_any (s : ByteArray) (hs : s.size ≤ maxLen) (w : World) :
    Calls Try.prog 12 #[.string s] w fun e w' => e = .returned (.int .i64 (if 3000 < s.size then 2 else 0)) ∧ w' = w := by
  unfold maxLen at hs
  by_cases h1 : 3000 < s.size
  · go_enter Try.func12, Try.ntmps12
    go_wp2
    go_ret
    exact ⟨ret_int (by simp), rfl⟩
  · go_enter Try.func12, Try.ntmps12
    go_wp2
    go_ret
    exact ⟨ret_int (by simp), rfl⟩

/-- Does p stand at a place of s? -/
def stAt (s : ByteArray) (k : Nat) (p : List UInt8) : Bool := p.isPrefixOf (s.data.toList.drop k)

theorem stAt_eq (s : ByteArray) (k : Nat) (p : ByteArray) : ((s.extract k (k + p.size)).toList == p.toList) = stAt s k p.data.toList := by
  rw [ByteArray.toList_eq, ByteArray.toList_eq, Lib.extract_data, Nat.add_sub_cancel_left, Bool.eq_iff_iff, stAt, List.isPrefixOf_iff_prefix, beq_iff_eq, List.prefix_iff_eq_take, len_size]
  exact eq_comm

theorem stAt_short (s : ByteArray) (k : Nat) (p : ByteArray) (h : s.size < k + p.size) (hk : k ≤ s.size) : stAt s k p.data.toList = false := by
  rw [Bool.eq_false_iff]
  intro hp
  have := (List.isPrefixOf_iff_prefix.1 hp).length_le
  rw [List.length_drop, len_size, len_size] at this
  omega

set_option maxHeartbeats 400000 in
theorem startsAt_any (s : ByteArray) (k : Nat) (p : ByteArray) (hs : s.size ≤ 3000) (hk : k ≤ s.size) (hp : p.size ≤ 3000) (w : World) :
    Calls Try.prog 42 #[.string s, .int .i64 k, .string p] w fun e w' => e = .returned (.bool (stAt s k p.data.toList)) ∧ w' = w := by
  by_cases h1 : k + p.size ≤ s.size
  · rw [← stAt_eq s k p]
    go_enter Try.func42, Try.ntmps42
    go_wp2
    go_ret
    exact ⟨rfl, rfl⟩
  · rw [stAt_short s k p (by omega) hk]
    go_enter Try.func42, Try.ntmps42
    go_wp2
    go_ret
    exact ⟨rfl, rfl⟩

set_option maxHeartbeats 1000000 in
theorem rdigit_any (c : UInt8) (base : Nat) (hb : base = 10 ∨ base = 16) (w : World) :
    Calls Try.prog 55 #[.int .u8 c.toNat, .int .i64 base] w fun e w' => e = .returned (.int .i64 (if base ≤ digV c then -1 else digV c)) ∧ w' = w := by
  have hc : c.toNat < 256 := UInt8.toNat_lt c
  obtain ⟨v, hv⟩ : ∃ v, digV c = v := ⟨_, rfl⟩
  have hv' := hv
  rw [hv]
  clear hv
  unfold digV at hv'
  generalize c.toNat = n at *
  rcases (show (48 ≤ n ∧ n ≤ 57) ∨ (97 ≤ n ∧ n ≤ 102) ∨ (65 ≤ n ∧ n ≤ 70) ∨ n < 48 ∨ (57 < n ∧ n < 65) ∨ (70 < n ∧ n < 97) ∨ 102 < n from by omega) with h | h | h | h | h | h | h
  · rw [if_pos (by omega)] at hv'
    subst hv'
    rcases hb with rfl | rfl
    all_goals
      rw [if_neg (by omega)]
      go_enter Try.func55, Try.ntmps55
      go_wp2
      go_ret
      exact ⟨ret_int (by omega), rfl⟩
  · rw [if_neg (by omega), if_pos (by omega)] at hv'
    subst hv'
    rcases hb with rfl | rfl
    · rw [if_pos (by omega)]
      go_enter Try.func55, Try.ntmps55
      go_wp2
      go_ret
      exact ⟨ret_int (by omega), rfl⟩
    · rw [if_neg (by omega)]
      go_enter Try.func55, Try.ntmps55
      go_wp2
      go_ret
      exact ⟨ret_int (by omega), rfl⟩
  · rw [if_neg (by omega), if_neg (by omega), if_pos (by omega)] at hv'
    subst hv'
    rcases hb with rfl | rfl
    · rw [if_pos (by omega)]
      go_enter Try.func55, Try.ntmps55
      go_wp2
      go_ret
      exact ⟨ret_int (by omega), rfl⟩
    · rw [if_neg (by omega)]
      go_enter Try.func55, Try.ntmps55
      go_wp2
      go_ret
      exact ⟨ret_int (by omega), rfl⟩
  all_goals
    rw [if_neg (by omega), if_neg (by omega), if_neg (by omega)] at hv'
    subst hv'
    rcases hb with rfl | rfl
    all_goals
      rw [if_pos (by omega)]
      go_enter Try.func55, Try.ntmps55
      go_wp2
      go_ret
      exact ⟨ret_int (by omega), rfl⟩
end Go.Proofs.Ytaeblkmkpfklkaa
