/- DateSame's walk: Mail and Web tell one time, however it is written. -/
import Derived.Test.YtngojdajamgabaeDoorDZones
namespace Go.Proofs.YtngojdajamgabaeDoor
open Go.RowKit

theorem month_at (y m d c : Nat) (X : ByteArray) (h : (⟨(stamp y m d c).toArray⟩ : ByteArray) = X) (h5 : 5 < X.size) (h6 : 6 < X.size) (hm : m < 100) : ((10 : Int) * ((((X[5].toNat : Nat) : Int) - (48 : Int)) % (256 : Int)) + (((X[6].toNat : Nat) : Int) - (48 : Int)) % (256 : Int)) = (m : Int) := by
  subst h
  have e5 : (⟨(stamp y m d c).toArray⟩ : ByteArray)[5] = dg (m / 10) := rfl
  have e6 : (⟨(stamp y m d c).toArray⟩ : ByteArray)[6] = dg (m % 10) := rfl
  rw [e5, e6, dg_nat _ (by omega), dg_nat _ (by omega)]
  omega
theorem part8 (y m d c : Nat) : (⟨(stamp y m d c).toArray⟩ : ByteArray).extract 8 10 = ⟨(d2 d).toArray⟩ := by rw [ext_list]; rfl
theorem part0 (y m d c : Nat) : (⟨(stamp y m d c).toArray⟩ : ByteArray).extract 0 4 = ⟨(d4 y).toArray⟩ := by rw [ext_list]; rfl
theorem part11 (y m d c : Nat) : (⟨(stamp y m d c).toArray⟩ : ByteArray).extract 11 19 = ⟨(clock c).toArray⟩ := by rw [ext_list]; rfl
theorem mail_str (y m d c : Nat) (t : List UInt8) : (⟨(mailT y m d c t).toArray⟩ : ByteArray) = ⟨(d2 d).toArray⟩ ++ ⟨#[32]⟩ ++ ⟨(nameL m).toArray⟩ ++ ⟨#[32]⟩ ++ ⟨(d4 y).toArray⟩ ++ ⟨#[32]⟩ ++ ⟨(clock c).toArray⟩ ++ ⟨#[32]⟩ ++ ⟨t.toArray⟩ := by
  apply ByteArray.ext
  simp [mailT]
theorem zero_str (l : List UInt8) (t : List UInt8) (A : ByteArray) (h : (⟨l.toArray⟩ : ByteArray) = A ++ ⟨t.toArray⟩) : (⟨([88, 121, 122, 44, 32] ++ l).toArray⟩ : ByteArray) = ⟨#[88, 121, 122, 44, 32]⟩ ++ A ++ ⟨t.toArray⟩ := by
  have e : (⟨([88, 121, 122, 44, 32] ++ l).toArray⟩ : ByteArray) = ⟨#[88, 121, 122, 44, 32]⟩ ++ ⟨l.toArray⟩ := by apply ByteArray.ext; simp
  rw [e, h]
  apply ByteArray.ext
  simp

set_option maxRecDepth 100000 in
set_option maxHeartbeats 4000000 in
theorem dateSame_any (a : Int) (w : World) (ht : HasTab w) :
    Calls Tryd.prog 5 #[.int .i64 a] w fun e w' => e = .returned (.bool true) ∧ Keeps [] w w' := by
  rcases told_or a with ⟨x, hx, rfl⟩ | h1
  · have hp := hide (print_yes x w hx ht)
    go_enter Tryd.func5, Tryd.ntmps5
    go_wp2_with fail
    refine hp.out.mono ?_
    rintro e w1 ⟨y, m, d, hd, rfl, hk1⟩
    have HD := hide hd
    clear hd hp
    generalize hX : (⟨(stamp y m d (x % 86400)).toArray⟩ : ByteArray) = X
    have HX := hide hX
    have hXs : X.size = 20 := by rw [← hX]; rfl
    clear hX
    go_wp2_with fail
    refine (dateBegun_any _ (ht.keeps hk1)).mono ?_
    rintro e w2 ⟨rfl, hk2⟩
    have hm12 := HD.out.2.2.1
    have hm13 := HD.out.2.2.2.1
    have hma := hide (fun h5 h6 => month_at y m d (x % 86400) X HX.out h5 h6 (by omega))
    have x1 : X.extract 8 10 = ⟨(d2 d).toArray⟩ := by rw [← HX.out]; exact part8 _ _ _ _
    have x2 : X.extract 0 4 = ⟨(d4 y).toArray⟩ := by rw [← HX.out]; exact part0 _ _ _ _
    have x3 : X.extract 11 19 = ⟨(clock (x % 86400)).toArray⟩ := by rw [← HX.out]; exact part11 _ _ _ _
    have y1 : (⟨(d2 d).toArray⟩ : ByteArray).size = 2 := rfl
    have y2 : (⟨(d4 y).toArray⟩ : ByteArray).size = 4 := rfl
    have y3 : (⟨(clock (x % 86400)).toArray⟩ : ByteArray).size = 8 := rfl
    have y4 : (⟨(nameL m).toArray⟩ : ByteArray).size = 3 := nameL_len m hm12 hm13
    have s1 := hide (mail_str y m d (x % 86400) [71, 77, 84])
    have s2 := hide (zero_str _ _ _ (mail_str y m d (x % 86400) [43, 48, 48, 48, 48]))
    have s3 := hide (head19 y m d (x % 86400) [45, 48, 48, 58, 48, 48])
    have l1 : (mailT y m d (x % 86400) [71, 77, 84]).length = 24 := by simp [mailT, d2, d4, clock, nameL_len m hm12 hm13]
    have l2 : ([88, 121, 122, 44, 32] ++ mailT y m d (x % 86400) [43, 48, 48, 48, 48]).length = 31 := by simp [mailT, d2, d4, clock, nameL_len m hm12 hm13]
    have m1 := hide (fun W => mail_of (mailT y m d (x % 86400) [71, 77, 84]) ((x : Int), 0) (by rw [l1]; exact ans_gmt HD.out hx) (by omega) W)
    have m2 := hide (fun W => mail_of ([88, 121, 122, 44, 32] ++ mailT y m d (x % 86400) [43, 48, 48, 48, 48]) ((x : Int), 0) (by rw [l2]; exact ans_zero HD.out hx) (by omega) W)
    clear l1 l2
    have m3 := hide (fun W => web_of (dayT y m d ++ [84] ++ clock (x % 86400) ++ [45, 48, 48, 58, 48, 48]) ((x : Int), 0) (ans_minus0 HD.out hx) (by show 25 ≤ 3000; omega) W)
    rw [s1.out] at m1
    rw [s2.out] at m2
    rw [s3.out, HX.out] at m3
    have n1 : Hid (∃ A, (⟨(nameL m).toArray⟩ : ByteArray) = A) := ⟨_, rfl⟩
    clear s1 s2 s3 HX HD
    generalize (⟨(d2 d).toArray⟩ : ByteArray) = E1 at *
    generalize (⟨(d4 y).toArray⟩ : ByteArray) = E2 at *
    generalize (⟨(clock (x % 86400)).toArray⟩ : ByteArray) = E3 at *
    go_wp2_with fail
    go_quiet (fail)
    rw [hma.out]
    go_upto_region 10 with fail
    go_cut [7] from 41 to 58 (fun v wc => v = .string (E1 ++ ⟨#[32]⟩ ++ ⟨(nameL m).toArray⟩ ++ ⟨#[32]⟩ ++ E2 ++ ⟨#[32]⟩ ++ E3 ++ ⟨#[32]⟩) ∧ Keeps [] w wc)
    case first =>
      have hkA := hide (fun n => (((hk1.trans hk2).alloc (.cells #[.string ⟨#[74, 97, 110]⟩, .string ⟨#[70, 101, 98]⟩, .string ⟨#[77, 97, 114]⟩, .string ⟨#[65, 112, 114]⟩, .string ⟨#[77, 97, 121]⟩, .string ⟨#[74, 117, 110]⟩, .string ⟨#[74, 117, 108]⟩, .string ⟨#[65, 117, 103]⟩, .string ⟨#[83, 101, 112]⟩, .string ⟨#[79, 99, 116]⟩, .string ⟨#[78, 111, 118]⟩, .string ⟨#[68, 101, 99]⟩] 9)).drewN n))
      clear m1 m2 m3 hma n1 y4
      obtain rfl | rfl | rfl | rfl | rfl | rfl | rfl | rfl | rfl | rfl | rfl | rfl : m = 1 ∨ m = 2 ∨ m = 3 ∨ m = 4 ∨ m = 5 ∨ m = 6 ∨ m = 7 ∨ m = 8 ∨ m = 9 ∨ m = 10 ∨ m = 11 ∨ m = 12 := by omega
      all_goals
        go_quiet (fail)
        go_wp2
        go_meet
        exact ⟨rfl, (hkA.out _).drewN _⟩
    case rest =>
      obtain ⟨rfl, hkc⟩ := hcut
      have y5 : (E1 ++ ⟨#[32]⟩ ++ ⟨(nameL m).toArray⟩ ++ ⟨#[32]⟩ ++ E2 ++ ⟨#[32]⟩ ++ E3 ++ ⟨#[32]⟩).size = 21 := by simp [ByteArray.size_append, y1, y2, y3, y4]; rfl
      generalize (E1 ++ ⟨#[32]⟩ ++ ⟨(nameL m).toArray⟩ ++ ⟨#[32]⟩ ++ E2 ++ ⟨#[32]⟩ ++ E3 ++ ⟨#[32]⟩) = S at *
      clear hma n1 y4
      go_wp2_with fail
      refine (m1.out _).mono ?_
      rintro e w4 ⟨rfl, hk4⟩
      go_wp2_with fail
      refine (m2.out _).mono ?_
      rintro e w5 ⟨rfl, hk5⟩
      go_wp2_with fail
      refine (m3.out _).mono ?_
      rintro e w6 ⟨rfl, hk6⟩
      go_wp2_with fail
      go_ret
      exact ⟨rfl, ((hkc.trans hk4).trans hk5).trans hk6⟩
  · have hp := hide (print_no a w h1)
    clear h1
    go_enter Tryd.func5, Tryd.ntmps5
    go_wp2_with fail
    refine hp.out.mono ?_
    rintro e w1 ⟨rfl, hw1⟩
    obtain rfl : w = w1 := hw1.symm
    go_wp2_with fail
    refine (dateBegun_any _ ht).mono ?_
    rintro e w2 ⟨rfl, hk2⟩
    go_wp2_with fail
    go_ret
    exact ⟨rfl, hk2⟩
end Go.Proofs.YtngojdajamgabaeDoor
