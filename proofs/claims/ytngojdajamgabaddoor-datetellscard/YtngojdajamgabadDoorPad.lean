/- padded: two digits, or a year's four. -/
import Derived.Test.YtngojdajamgabadDoorShelf
import Derived.Test.YtngojdajamgabadDoorBase
namespace Go.Proofs.YtngojdajamgabadDoor
open Go.RowKit Go.Sort

def dg (n : Nat) : UInt8 := UInt8.ofNat (48 + n)
def d2 (n : Nat) : List UInt8 := [dg (n / 10), dg (n % 10)]
def d4 (n : Nat) : List UInt8 := [dg (n / 1000), dg (n / 100 % 10), dg (n / 10 % 10), dg (n % 10)]

theorem dec_one (n : Nat) (h : n < 10) : Lib.decDigits n = [dg n] := by rw [Lib.decDigits, dif_pos h]; rfl
theorem dec_two (n : Nat) (h : 10 ≤ n) (h2 : n < 100) : Lib.decDigits n = d2 n := by
  rw [Lib.decDigits, dif_neg (by omega), dec_one _ (by omega)]; rfl
theorem dec_four (n : Nat) (h : 1000 ≤ n) (h2 : n < 10000) : Lib.decDigits n = d4 n := by
  rw [Lib.decDigits, dif_neg (by omega), Lib.decDigits, dif_neg (by omega), dec_two _ (by omega) (by omega)]
  simp only [d2, d4, List.cons_append, List.nil_append, List.cons.injEq, and_true]
  refine ⟨?_, ?_, ?_, rfl⟩ <;> (unfold dg; congr 2; try omega)

theorem str_add (a b : List UInt8) : (⟨a.toArray⟩ : ByteArray) ++ ⟨b.toArray⟩ = ⟨(a ++ b).toArray⟩ := by
  apply ByteArray.ext
  simp

set_option maxRecDepth 100000 in
set_option maxHeartbeats 400000 in
theorem padded2_any (n : Nat) (w : World) (h : n < 100) :
    Calls Tryd.prog 17 #[.int .i64 n, .int .i64 2] w fun e w' => e = .returned (.string ⟨(d2 n).toArray⟩) ∧ w' = w := by
  have hi := hide (fun w => Tryd.strconv_Itoa_small n h w)
  rcases (show n < 10 ∨ 10 ≤ n from by omega) with h1 | h1
  · rw [dec_one n h1] at hi
    have hr := hide (fun w => Tryd.strings_Repeat_one ⟨#[48]⟩ w)
    have hd : d2 n = [48] ++ [dg n] := by unfold d2; rw [show n / 10 = 0 from by omega, show n % 10 = n from by omega]; rfl
    rw [hd]
    generalize dg n = c at *
    clear hd
    go_enter Tryd.func17, Tryd.ntmps17
    go_wp2_with fail
    refine (hi.out _).mono ?_
    rintro e w1 ⟨rfl, rfl⟩
    go_wp2_with fail
    refine (hr.out _).mono ?_
    rintro e w1 ⟨rfl, rfl⟩
    go_wp2_with fail
    go_ret
    exact ⟨congrArg (fun x => Ending.returned (.string x)) (str_add [48] [c]), rfl⟩
  · rw [dec_two n h1 h] at hi
    have hr := hide (fun w => Tryd.strings_Repeat_zero ⟨#[48]⟩ w)
    have hl : (⟨(d2 n).toArray⟩ : ByteArray).size = 2 := rfl
    generalize (⟨(d2 n).toArray⟩ : ByteArray) = X at *
    go_enter Tryd.func17, Tryd.ntmps17
    go_wp2_with fail
    refine (hi.out _).mono ?_
    rintro e w1 ⟨rfl, rfl⟩
    go_wp2_with fail
    refine (hr.out _).mono ?_
    rintro e w1 ⟨rfl, rfl⟩
    go_wp2_with fail
    go_ret
    exact ⟨congrArg (fun x => Ending.returned (.string x)) (by apply ByteArray.ext; simp), rfl⟩

theorem Keeps.grow {S : List Nat} {a w : World} (h : Keeps S a w) (os : Array Obj) : Keeps S a (Go.Sort.grow w os) :=
  h.trans ⟨rfl, rfl, rfl, by simp [Go.Sort.grow], fun k hk _ => by simp [Go.Sort.grow]; rw [Array.getElem?_append_left hk]⟩

set_option maxRecDepth 100000 in
set_option maxHeartbeats 400000 in
theorem padded4_any (n : Nat) (w : World) (h1 : 1000 ≤ n) (h2 : n < 10000) (htab : Lib.TabIs Tryd.prog w "internal/strconv.uint64pow10" .u64 Lib.pow10Tab) :
    Calls Tryd.prog 17 #[.int .i64 n, .int .i64 4] w fun e w' => e = .returned (.string ⟨(d4 n).toArray⟩) ∧ Keeps [] w w' := by
  have hi := hide (Tryd.strconv_Itoa n (by omega) (by omega) w htab)
  have hn : Lib.itoa (n : Int) = d4 n := by unfold Lib.itoa; rw [if_neg (by omega)]; exact dec_four n h1 h2
  rw [hn] at hi
  have hr := hide (fun w => Tryd.strings_Repeat_zero ⟨#[48]⟩ w)
  have hl : (⟨(d4 n).toArray⟩ : ByteArray).size = 4 := rfl
  clear hn htab
  generalize (⟨(d4 n).toArray⟩ : ByteArray) = X at *
  go_enter Tryd.func17, Tryd.ntmps17
  go_wp2_with fail
  refine hi.out.mono ?_
  rintro e w1 ⟨rfl, k, os, hw⟩
  have hk : Keeps [] w w1 := by rw [hw]; exact ((Keeps.refl _ _).drewN k).grow os
  clear hw
  go_wp2_with fail
  refine (hr.out _).mono ?_
  rintro e w1 ⟨rfl, rfl⟩
  go_wp2_with fail
  go_ret
  exact ⟨congrArg (fun x => Ending.returned (.string x)) (by apply ByteArray.ext; simp), hk⟩
end Go.Proofs.YtngojdajamgabadDoor
