/- The calls of scan and token that look at one byte. -/
import Derived.Test.YtngojdajamgababGreatEscape
import Derived.Test.YtngojdajamgababGreatTokMath
namespace Go.Proofs.YtngojdajamgababGreat
open Go.RowKit

theorem bne_at {c d : UInt8} {k : Int} (hd : (d.toNat : Int) = k) : (c != d) = ((c.toNat : Int) != k) := by rw [← hd, byte_bne]
theorem beq_at {c d : UInt8} {k : Int} (hd : (d.toNat : Int) = k) : (c == d) = ((c.toNat : Int) == k) := by rw [← hd, byte_beq]

set_option maxHeartbeats 400000 in
theorem small_any (c : UInt8) (w : World) : Calls Tryz.prog 85 #[.int .u8 c.toNat] w fun e w' => e = .returned (.bool (smallB c)) ∧ w' = w := by
  unfold smallB
  have hc : c.toNat < 256 := UInt8.toNat_lt c
  generalize c.toNat = n at *
  rcases (show n < 97 ∨ (97 ≤ n ∧ n ≤ 122) ∨ 122 < n from by omega) with h | h | h
  all_goals
    go_enter Tryz.func85, Tryz.ntmps85
    go_wp2
    go_ret
    refine ⟨ret_bool ?_, rfl⟩
    first
      | (simp; omega)
      | (rw [Bool.eq_iff_iff]; simp; omega)

set_option maxHeartbeats 400000 in
theorem dig_any (c : UInt8) (w : World) : Calls Tryz.prog 86 #[.int .u8 c.toNat] w fun e w' => e = .returned (.bool (digB c)) ∧ w' = w := by
  unfold digB
  have hc : c.toNat < 256 := UInt8.toNat_lt c
  generalize c.toNat = n at *
  rcases (show n < 48 ∨ (48 ≤ n ∧ n ≤ 57) ∨ 57 < n from by omega) with h | h | h
  all_goals
    go_enter Tryz.func86, Tryz.ntmps86
    go_wp2
    go_ret
    refine ⟨ret_bool ?_, rfl⟩
    first
      | (simp; omega)
      | (rw [Bool.eq_iff_iff]; simp; omega)

set_option maxHeartbeats 400000 in
theorem letter_any (c : UInt8) (w : World) : Calls Tryz.prog 88 #[.int .u8 c.toNat] w fun e w' => e = .returned (.bool (letterB c)) ∧ w' = w := by
  have hc : c.toNat < 256 := UInt8.toNat_lt c
  cases hs : smallB c
  · have hl : letterB c = (decide ((65 : Int) ≤ (c.toNat : Int)) && decide ((c.toNat : Int) ≤ 90)) := by
      unfold letterB bigB; rw [hs, Bool.eq_iff_iff]; simp; omega
    rw [hl]
    have hsm := hide (fun w => hs ▸ small_any c w)
    clear hs hl
    generalize c.toNat = n at *
    by_cases h : 65 ≤ n
    · go_enter Tryz.func88, Tryz.ntmps88
      go_wp2_with (go_at_call 85; refine (hsm.out _).mono ?_; rintro e w' ⟨rfl, rfl⟩)
      go_ret
      refine ⟨ret_bool ?_, rfl⟩
      rw [Bool.eq_iff_iff]; simp; omega
    · go_enter Tryz.func88, Tryz.ntmps88
      go_wp2_with (go_at_call 85; refine (hsm.out _).mono ?_; rintro e w' ⟨rfl, rfl⟩)
      go_ret
      refine ⟨ret_bool ?_, rfl⟩
      rw [Bool.eq_iff_iff]; simp; omega
  · have hl : letterB c = true := by unfold letterB; rw [hs]; rfl
    rw [hl]
    have hsm := hide (fun w => hs ▸ small_any c w)
    clear hs hl
    go_enter Tryz.func88, Tryz.ntmps88
    go_wp2_with (go_at_call 85; refine (hsm.out _).mono ?_; rintro e w' ⟨rfl, rfl⟩)
    go_ret
    exact ⟨rfl, rfl⟩

theorem white_eq (c : UInt8) : whiteB c = ((c.toNat : Int) == 9 || (c.toNat : Int) == 10 || (c.toNat : Int) == 12 || (c.toNat : Int) == 13 || (c.toNat : Int) == 32) := by
  unfold whiteB
  rw [beq_at (d := 9) rfl, beq_at (d := 10) rfl, beq_at (d := 12) rfl, beq_at (d := 13) rfl, beq_at (d := 32) rfl]
  rfl

set_option maxHeartbeats 400000 in
theorem white_any (c : UInt8) (w : World) : Calls Tryz.prog 101 #[.int .u8 c.toNat] w fun e w' => e = .returned (.bool (whiteB c)) ∧ w' = w := by
  rw [white_eq]
  go_enter Tryz.func101, Tryz.ntmps101
  go_wp2
  all_goals go_ret
  all_goals exact ⟨ret_bool (by simp [*]), rfl⟩

set_option maxHeartbeats 400000 in
theorem noLt_any (c : UInt8) (w : World) : Calls Tryz.prog 74 #[.int .u8 c.toNat] w fun e w' => e = .returned (.bool (noLt c)) ∧ w' = w := by
  go_enter Tryz.func74, Tryz.ntmps74
  go_wp2
  go_ret
  exact ⟨ret_bool (byte_bne c 60), rfl⟩

set_option maxHeartbeats 400000 in
theorem tagN_any (c : UInt8) (w : World) : Calls Tryz.prog 100 #[.int .u8 c.toNat] w fun e w' => e = .returned (.bool (tagN c)) ∧ w' = w := by
  unfold tagN
  rw [bne_at (c := c) (d := 47) rfl, bne_at (c := c) (d := 62) rfl]
  have hw := hide (fun w => white_any c w)
  generalize whiteB c = b at *
  cases b
  all_goals
    go_enter Tryz.func100, Tryz.ntmps100
    go_wp2_with (go_at_call 101; refine (hw.out _).mono ?_; rintro e w' ⟨rfl, rfl⟩)
    all_goals go_ret
    all_goals exact ⟨ret_bool (by simp [*]), rfl⟩

set_option maxHeartbeats 400000 in
theorem attrN_any (c : UInt8) (w : World) : Calls Tryz.prog 107 #[.int .u8 c.toNat] w fun e w' => e = .returned (.bool (attrN c)) ∧ w' = w := by
  unfold attrN
  rw [bne_at (c := c) (d := 47) rfl, bne_at (c := c) (d := 62) rfl, bne_at (c := c) (d := 61) rfl]
  have hw := hide (fun w => white_any c w)
  generalize whiteB c = b at *
  cases b
  all_goals
    go_enter Tryz.func107, Tryz.ntmps107
    go_wp2_with (go_at_call 101; refine (hw.out _).mono ?_; rintro e w' ⟨rfl, rfl⟩)
    all_goals go_ret
    all_goals exact ⟨ret_bool (by simp [*]), rfl⟩

set_option maxHeartbeats 400000 in
theorem valN_any (c : UInt8) (w : World) : Calls Tryz.prog 115 #[.int .u8 c.toNat] w fun e w' => e = .returned (.bool (valN c)) ∧ w' = w := by
  unfold valN
  rw [bne_at (c := c) (d := 62) rfl]
  have hw := hide (fun w => white_any c w)
  generalize whiteB c = b at *
  cases b
  all_goals
    go_enter Tryz.func115, Tryz.ntmps115
    go_wp2_with (go_at_call 101; refine (hw.out _).mono ?_; rintro e w' ⟨rfl, rfl⟩)
    all_goals go_ret
    all_goals exact ⟨ret_bool (by simp [*]), rfl⟩

set_option maxHeartbeats 400000 in
theorem skip_any (c : UInt8) (w : World) : Calls Tryz.prog 102 #[.int .u8 c.toNat] w fun e w' => e = .returned (.bool (skipB c)) ∧ w' = w := by
  unfold skipB
  rw [beq_at (c := c) (d := 47) rfl]
  have hw := hide (fun w => white_any c w)
  generalize whiteB c = b at *
  cases b
  all_goals
    go_enter Tryz.func102, Tryz.ntmps102
    go_wp2_with (go_at_call 101; refine (hw.out _).mono ?_; rintro e w' ⟨rfl, rfl⟩)
    all_goals go_ret
    all_goals exact ⟨ret_bool (by simp [*]), rfl⟩

set_option maxHeartbeats 400000 in
theorem quote_any (c q : UInt8) (p : Addr) (w : World) (hq : w.cell? p = some (.int .u8 q.toNat)) : Calls Tryz.prog 116 #[.int .u8 c.toNat, .pointer (some p)] w fun e w' => e = .returned (.bool (c != q)) ∧ w' = w := by
  go_enter Tryz.func116, Tryz.ntmps116
  go_wp2
  go_ret
  exact ⟨ret_bool (byte_bne c q), rfl⟩
end Go.Proofs.YtngojdajamgababGreat
