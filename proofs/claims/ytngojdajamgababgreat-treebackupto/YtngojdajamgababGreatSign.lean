/- The calls of package escape by which a sign is told: digit, number, told, stands and sign. -/
import Derived.Test.YtngojdajamgababGreatPass
import Derived.Test.YtngojdajamgababGreatShelf
import Derived.Test.YtngojdajamgababGreatMath
namespace Go.Proofs.YtngojdajamgababGreat
open Go.RowKit

theorem ret_int {k : IntKind} {a b : Int} (h : a = b) : Ending.returned (.int k a) = .returned (.int k b) := by rw [h]
theorem ret_bool {a b : Bool} (h : a = b) : Ending.returned (.bool a) = .returned (.bool b) := by rw [h]

theorem byte_bne (c d : UInt8) : ((c.toNat : Int) != (d.toNat : Int)) = (c != d) := by
  rw [Bool.eq_iff_iff, bne_iff_ne, bne_iff_ne, Ne, Ne, Int.ofNat_inj, UInt8.toNat_inj]
theorem byte_beq (c d : UInt8) : ((c.toNat : Int) == (d.toNat : Int)) = (c == d) := by
  rw [Bool.eq_iff_iff, beq_iff_eq, beq_iff_eq, Int.ofNat_inj, UInt8.toNat_inj]

set_option maxHeartbeats 400000 in
theorem digit_any (c : UInt8) (w : World) :
    Calls Tryz.prog 127 #[.int .u8 c.toNat] w fun e w' => e = .returned (.int .i64 (digV c : Nat)) ∧ w' = w := by
  have hc : c.toNat < 256 := UInt8.toNat_lt c
  unfold digV
  generalize c.toNat = n at *
  rcases (show (48 ≤ n ∧ n ≤ 57) ∨ (97 ≤ n ∧ n ≤ 102) ∨ (65 ≤ n ∧ n ≤ 70) ∨ n < 48 ∨ (57 < n ∧ n < 65) ∨ (70 < n ∧ n < 97) ∨ 102 < n from by omega) with h | h | h | h | h | h | h
  all_goals
    go_enter Tryz.func127, Tryz.ntmps127
    go_wp2
    go_ret
    exact ⟨ret_int (by omega), rfl⟩

set_option maxHeartbeats 400000 in
theorem noAnd_any (c : UInt8) (w : World) :
    Calls Tryz.prog 114 #[.int .u8 c.toNat] w fun e w' => e = .returned (.bool (noAnd c)) ∧ w' = w := by
  go_enter Tryz.func114, Tryz.ntmps114
  go_wp2
  go_ret
  exact ⟨ret_bool (byte_bne c 38), rfl⟩

theorem inName_eq (c : UInt8) : inName c = ((c.toNat : Int) != 59 && (c.toNat : Int) != 38) := by
  unfold inName; rw [← byte_bne c 59, ← byte_bne c 38]; rfl

set_option maxHeartbeats 400000 in
theorem inName_any (c : UInt8) (w : World) :
    Calls Tryz.prog 123 #[.int .u8 c.toNat] w fun e w' => e = .returned (.bool (inName c)) ∧ w' = w := by
  rw [inName_eq]
  go_enter Tryz.func123, Tryz.ntmps123
  go_wp2
  all_goals go_ret
  · exact ⟨ret_bool (by simp [*]), rfl⟩
  · exact ⟨ret_bool (by simp), rfl⟩

set_option maxHeartbeats 400000 in
theorem stands_any (n : Nat) (hn : n ≤ 16777216) (w : World) :
    Calls Tryz.prog 121 #[.int .i64 n] w fun e w' => e = .returned (.bool (standsL n)) ∧ w' = w := by
  unfold standsL
  rcases (show n = 0 ∨ (1 ≤ n ∧ n < 55296) ∨ (55296 ≤ n ∧ n ≤ 57343) ∨ (57343 < n ∧ n ≤ 1114111) ∨ 1114111 < n from by omega) with h | h | h | h | h
  all_goals
    go_enter Tryz.func121, Tryz.ntmps121
    go_wp2
    go_ret
    refine ⟨ret_bool ?_, rfl⟩
    first
      | (simp; omega)
      | (rw [Bool.eq_iff_iff]; simp; omega)

/-- What told and number answer. -/
def ans (o : Option Nat) : Ending := .returned (.tuple #[.int .i64 (o.getD 0 : Nat), .bool o.isSome])

theorem numF_snoc (base : Nat) : ∀ (l : List UInt8) (n : Nat) (c : UInt8), numF base n (l ++ [c]) = (numF base n l).bind fun m => if base ≤ digV c then none else some (m * base + digV c)
  | [], n, c => by simp [numF]
  | d :: l, n, c => by
    simp only [List.cons_append, numF]
    split
    · rfl
    · exact numF_snoc base l _ c

theorem numF_stop (base : Nat) (a b : List UInt8) (c : UInt8) (h : base ≤ digV c) : ∀ n, numF base n (a ++ c :: b) = none := by
  induction a with
  | nil => intro n; simp [numF, h]
  | cons d a ih => intro n; simp only [List.cons_append, numF]; split; · rfl
                   exact ih _

/-- What number answers behind its first k bytes. -/
def upTo (base : Nat) (s : ByteArray) (k : Nat) : Option Nat := numF base 0 (s.data.toList.take k)

theorem upTo_succ (base : Nat) (s : ByteArray) (k : Nat) (hk : k < s.size) : upTo base s (k + 1) = (upTo base s k).bind fun m => if base ≤ digV s[k] then none else some (m * base + digV s[k]) := by
  have hl : k < s.data.toList.length := by simpa using hk
  unfold upTo
  rw [List.take_succ_eq_append_getElem hl, numF_snoc]
  rfl

theorem upTo_stop (base : Nat) (s : ByteArray) (k : Nat) (hk : k < s.size) (h : base ≤ digV s[k]) : numF base 0 s.data.toList = none := by
  have hl : k < s.data.toList.length := by simpa using hk
  have e : s.data.toList = s.data.toList.take k ++ s[k] :: s.data.toList.drop (k + 1) := by
    conv => lhs; rw [← List.take_append_drop k s.data.toList]
    rw [List.drop_eq_getElem_cons hl]
    rfl
  rw [e]
  exact numF_stop base _ _ _ h 0

theorem upTo_all (base : Nat) (s : ByteArray) : upTo base s s.size = numF base 0 s.data.toList := by
  unfold upTo
  rw [List.take_of_length_le (by exact Nat.le_of_eq Array.length_toList)]

theorem upTo_lt {base : Nat} {s : ByteArray} {k m : Nat} (hb : 1 ≤ base) {most : Nat} (hk : k ≤ most) (h : upTo base s k = some m) : m < base ^ most := by
  have := numF_lt base _ _ _ h
  have h2 : base ^ (s.data.toList.take k).length ≤ base ^ most := Nat.pow_le_pow_right hb (by rw [List.length_take]; omega)
  simp at this
  simp at h2
  omega

set_option maxHeartbeats 1000000 in
theorem number_16 (s : ByteArray) (hs : s.size ≤ 6) (hs1 : 1 ≤ s.size) (w : World) :
    Calls Tryz.prog 126 #[.string s, .int .i64 16, .int .i64 6] w fun e w' => e = ans (numF 16 0 s.data.toList) ∧ w' = w := by
  go_enter Tryz.func126, Tryz.ntmps126
  go_wp2_with fail
  go_loop [8, 9] (fun n i => ∃ k m : Nat, k ≤ s.size ∧ i = .int .i64 k ∧ n = .int .i64 m ∧ Hid (upTo 16 s k = some m)) (fun _ i => s.size - (intOf i).toNat)
  case atStart => exact ⟨0, 0, by omega, rfl, rfl, by simp [Hid, upTo, numF]⟩
  case round =>
    obtain ⟨k, m, hk, rfl, rfl, hu⟩ := hrel
    have hlt := upTo_lt (by omega) (by omega : k ≤ 6) hu
    by_cases hks : k < s.size
    · have hsu := upTo_succ 16 s k hks
      rw [hu.out] at hsu
      have hd := digV_le s[k]
      by_cases hdb : 16 ≤ digV s[k]
      · have hst := hide (upTo_stop 16 s k hks hdb)
        clear hsu
        go_wp2_with (go_at_call 127; refine (digit_any _ _).mono ?_; rintro e w' ⟨rfl, rfl⟩)
        go_ret2
        rw [hst.out]
        exact ⟨rfl, rfl⟩
      · have hsu' : Hid (upTo 16 s (k + 1) = some (m * 16 + digV s[k])) := by rw [Hid, hsu, Option.bind_some, if_neg hdb]
        clear hsu
        go_wp2_with (go_at_call 127; refine (digit_any _ _).mono ?_; rintro e w' ⟨rfl, rfl⟩)
        go_round
        case rel => exact ⟨k + 1, m * 16 + digV s[k], by omega, by go_num, by go_num, hsu'⟩
        case measure => simp [intOf]; omega
    · have he : Hid (numF 16 0 s.data.toList = some m) := by
        rw [Hid, ← upTo_all, show s.size = k from by omega]
        exact hu
      go_wp2
      go_ret2
      rw [he.out]
      exact ⟨rfl, rfl⟩

set_option maxHeartbeats 1000000 in
theorem number_10 (s : ByteArray) (hs : s.size ≤ 7) (hs1 : 1 ≤ s.size) (w : World) :
    Calls Tryz.prog 126 #[.string s, .int .i64 10, .int .i64 7] w fun e w' => e = ans (numF 10 0 s.data.toList) ∧ w' = w := by
  go_enter Tryz.func126, Tryz.ntmps126
  go_wp2_with fail
  go_loop [8, 9] (fun n i => ∃ k m : Nat, k ≤ s.size ∧ i = .int .i64 k ∧ n = .int .i64 m ∧ Hid (upTo 10 s k = some m)) (fun _ i => s.size - (intOf i).toNat)
  case atStart => exact ⟨0, 0, by omega, rfl, rfl, by simp [Hid, upTo, numF]⟩
  case round =>
    obtain ⟨k, m, hk, rfl, rfl, hu⟩ := hrel
    have hlt := upTo_lt (by omega) (by omega : k ≤ 7) hu
    by_cases hks : k < s.size
    · have hsu := upTo_succ 10 s k hks
      rw [hu.out] at hsu
      have hd := digV_le s[k]
      by_cases hdb : 10 ≤ digV s[k]
      · have hst := hide (upTo_stop 10 s k hks hdb)
        clear hsu
        go_wp2_with (go_at_call 127; refine (digit_any _ _).mono ?_; rintro e w' ⟨rfl, rfl⟩)
        go_ret2
        rw [hst.out]
        exact ⟨rfl, rfl⟩
      · have hsu' : Hid (upTo 10 s (k + 1) = some (m * 10 + digV s[k])) := by rw [Hid, hsu, Option.bind_some, if_neg hdb]
        clear hsu
        go_wp2_with (go_at_call 127; refine (digit_any _ _).mono ?_; rintro e w' ⟨rfl, rfl⟩)
        go_round
        case rel => exact ⟨k + 1, m * 10 + digV s[k], by omega, by go_num, by go_num, hsu'⟩
        case measure => simp [intOf]; omega
    · have he : Hid (numF 10 0 s.data.toList = some m) := by
        rw [Hid, ← upTo_all, show s.size = k from by omega]
        exact hu
      go_wp2
      go_ret2
      rw [he.out]
      exact ⟨rfl, rfl⟩

set_option maxHeartbeats 1000000 in
theorem number_any (s : ByteArray) (base most : Nat) (hb : base = 16 ∧ most = 6 ∨ base = 10 ∧ most = 7) (hs : s.size ≤ 3000) (w : World) :
    Calls Tryz.prog 126 #[.string s, .int .i64 base, .int .i64 most] w fun e w' => e = ans (numL base most s.data.toList) ∧ w' = w := by
  have hl : s.data.toList.length = s.size := Array.length_toList
  by_cases h1 : s.size < 1
  · have hz : numL base most s.data.toList = none := by unfold numL; rw [if_pos]; omega
    rw [hz]
    rcases hb with ⟨rfl, rfl⟩ | ⟨rfl, rfl⟩
    all_goals
      go_enter Tryz.func126, Tryz.ntmps126
      go_wp2
      go_ret2
      exact ⟨rfl, rfl⟩
  by_cases h2 : most < s.size
  · have hz : numL base most s.data.toList = none := by unfold numL; rw [if_pos]; omega
    rw [hz]
    rcases hb with ⟨rfl, rfl⟩ | ⟨rfl, rfl⟩
    all_goals
      go_enter Tryz.func126, Tryz.ntmps126
      go_wp2
      go_ret2
      exact ⟨rfl, rfl⟩
  have hz : numL base most s.data.toList = numF base 0 s.data.toList := by unfold numL; rw [if_neg]; omega
  rw [hz]
  rcases hb with ⟨rfl, rfl⟩ | ⟨rfl, rfl⟩
  · exact number_16 s (by omega) (by omega) w
  · exact number_10 s (by omega) (by omega) w
end Go.Proofs.YtngojdajamgababGreat
