/- DateZones' walk: a day later is 86400 seconds later; so much ahead of UTC is so much earlier. -/
import Derived.Test.YtngojdajamgabaeDoorDBack
import Derived.BigQuiet
namespace Go.Proofs.YtngojdajamgabaeDoor
open Go.RowKit

theorem conv_two (W : World) (x y : UInt8) : (convert 29 9 (.slice (some ⟨W.heap.size, 0, none⟩) 2 2)).run Tryd.prog (W.alloc (.cells #[.int .u8 (x.toNat : Int), .int .u8 (y.toNat : Int)] 5)) = .ok (.string ⟨#[x, y]⟩) (W.alloc (.cells #[.int .u8 (x.toNat : Int), .int .u8 (y.toNat : Int)] 5)) :=
  run_convert_bytes_back _ 29 9 5 ⟨W.heap.size, 0, none⟩ 2 [x, y] Tryd.underlying29 Tryd.underlying5 Tryd.underlying9 (fun j hj => by
    have hc : (⟨W.heap.size, 0, none⟩ : Addr).add j = ⟨W.heap.size, j, none⟩ := by by_cases hj0 : j = 0 <;> simp [Addr.add, hj0]
    rw [hc, Lib.cell_of_heap (heap_alloc_new W _)]
    have : j = 0 ∨ j = 1 := by simp at hj; omega
    rcases this with rfl | rfl <;> rfl)
/-- A part of a text. -/
theorem ext_list (l : List UInt8) (a b : Nat) : (⟨l.toArray⟩ : ByteArray).extract a b = ⟨((l.drop a).take (b - a)).toArray⟩ := by
  apply ByteArray.ext
  rw [ByteArray.data_extract]
  simp [List.take_drop]
theorem head19 (y m d c : Nat) (t : List UInt8) : (⟨(dayT y m d ++ [84] ++ clock c ++ t).toArray⟩ : ByteArray) = (⟨(stamp y m d c).toArray⟩ : ByteArray).extract 0 19 ++ ⟨t.toArray⟩ := by
  rw [ext_list, stamp_is, str_add]
  rfl
theorem tail10 (y m d c : Nat) : (⟨(stamp y m d c).toArray⟩ : ByteArray).extract 10 20 = ⟨([84] ++ clock c ++ [90]).toArray⟩ := by
  rw [ext_list, stamp_is]
  rfl
theorem conv_pair (W : World) (n : Nat) (h : n < 100) : (convert 29 9 (.slice (some ⟨W.heap.size, 0, none⟩) 2 2)).run Tryd.prog (W.alloc (.cells #[.int .u8 (48 + (n : Int) / 10), .int .u8 (48 + (n : Int) % 10)] 5)) = .ok (.string ⟨(d2 n).toArray⟩) (W.alloc (.cells #[.int .u8 (48 + (n : Int) / 10), .int .u8 (48 + (n : Int) % 10)] 5)) := by
  have h1 := conv_two W (dg (n / 10)) (dg (n % 10))
  rw [dg_nat _ (by omega), dg_nat _ (by omega), show ((48 + n / 10 : Nat) : Int) = 48 + (n : Int) / 10 from by omega, show ((48 + n % 10 : Nat) : Int) = 48 + (n : Int) % 10 from by omega] at h1
  exact h1
theorem dg_int (n : Nat) (h : n < 10) : (((dg n).toNat : Nat) : Int) = 48 + (n : Int) := by rw [dg_nat n h]; omega

set_option maxRecDepth 100000 in
set_option maxHeartbeats 4000000 in
theorem dateZones_any (a h i : Int) (w : World) (ht : HasTab w) :
    Calls Tryd.prog 4 #[.int .i64 a, .int .i64 h, .int .i64 i] w fun e w' => e = .returned (.bool true) ∧ Keeps [] w w' := by
  rcases told_or a with ⟨x, hx, rfl⟩ | h1
  · have hp := hide (print_yes x w hx ht)
    rcases (show h < 10 ∨ (¬ h < 10 ∧ 23 < h) ∨ (¬ h < 10 ∧ ¬ 23 < h ∧ i < 10) ∨ (¬ h < 10 ∧ ¬ 23 < h ∧ ¬ i < 10 ∧ 59 < i) ∨ (¬ h < 10 ∧ ¬ 23 < h ∧ ¬ i < 10 ∧ ¬ 59 < i) from by omega) with g | ⟨g1, g2⟩ | ⟨g1, g2, g3⟩ | ⟨g1, g2, g3, g4⟩ | ⟨g1, g2, g3, g4⟩
    case inr.inr.inr.inr =>
      obtain ⟨H, rfl⟩ : ∃ H : Nat, h = H := ⟨h.toNat, by omega⟩
      obtain ⟨I, rfl⟩ : ∃ I : Nat, i = I := ⟨i.toNat, by omega⟩
      have b1 : 10 ≤ H := by omega
      have b2 : H ≤ 23 := by omega
      have b3 : 10 ≤ I := by omega
      have b4 : I ≤ 59 := by omega
      go_enter Tryd.func4, Tryd.ntmps4
      go_wp2_with fail
      refine hp.out.mono ?_
      rintro e w1 ⟨y, m, d, hd, rfl, hk1⟩
      have HD := hide hd
      clear hd hp
      generalize hX : (⟨(stamp y m d (x % 86400)).toArray⟩ : ByteArray) = X
      have HX := hide hX
      have hXs : X.size = 20 := by rw [← hX]; rfl
      clear hX
      go_wp2_with fail
      refine (dateBegun_any _ (ht.keeps hk1)).mono ?_
      rintro e w2 ⟨rfl, hk2⟩
      go_upto_region 10 with fail
      go_cut [9] from 43 to 65 (fun v wc => v = .string ⟨([43] ++ d2 H ++ [58] ++ d2 I).toArray⟩ ∧ Keeps [] w wc)
      case first =>
        have hc1 := conv_pair w2 H (by omega)
        have hc2 := conv_pair (w2.alloc (.cells #[.int .u8 (48 + (H : Int) / 10), .int .u8 (48 + (H : Int) % 10)] 5)) I (by omega)
        rw [show (w2.alloc (.cells #[.int .u8 (48 + (H : Int) / 10), .int .u8 (48 + (H : Int) % 10)] 5)).heap.size = w2.heap.size + 1 from by simp] at hc2
        have e1 : Hid ((⟨([43] ++ d2 H ++ [58] ++ d2 I).toArray⟩ : ByteArray) = ⟨#[43]⟩ ++ ⟨(d2 H).toArray⟩ ++ ⟨#[58]⟩ ++ ⟨(d2 I).toArray⟩) := by apply ByteArray.ext; simp
        have z1 : (⟨(d2 H).toArray⟩ : ByteArray).size = 2 := rfl
        have z2 : (⟨(d2 I).toArray⟩ : ByteArray).size = 2 := rfl
        have hkA := ((hk1.trans hk2).alloc (.cells #[.int .u8 (48 + (H : Int) / 10), .int .u8 (48 + (H : Int) % 10)] 5)).alloc (.cells #[.int .u8 (48 + (I : Int) / 10), .int .u8 (48 + (I : Int) % 10)] 5)
        generalize (⟨(d2 H).toArray⟩ : ByteArray) = S1 at *
        generalize (⟨(d2 I).toArray⟩ : ByteArray) = S2 at *
        go_wp2_with fail
        go_meet
        exact ⟨congrArg Value.string e1.out.symm, hkA⟩
      case rest =>
        obtain ⟨rfl, hkc⟩ := hcut
        have hw := hide (fun W => web_of _ _ (ans_plus HD.out hx (hh := H) (i := I) (by omega) (by omega)) (by show 25 ≤ 3000; omega) W)
        have e1 : Hid ((⟨(dayT y m d ++ [84] ++ clock (x % 86400) ++ ([43] ++ d2 H ++ [58] ++ d2 I)).toArray⟩ : ByteArray) = X.extract 0 19 ++ ⟨([43] ++ d2 H ++ [58] ++ d2 I).toArray⟩) := by
          rw [← HX.out]
          exact head19 y m d (x % 86400) _
        have e2 : X.extract 10 20 = ⟨([84] ++ clock (x % 86400) ++ [90]).toArray⟩ := by
          rw [← HX.out]
          exact tail10 y m d (x % 86400)
        rw [e1.out] at hw
        have z3 : (⟨([43] ++ d2 H ++ [58] ++ d2 I).toArray⟩ : ByteArray).size = 6 := rfl
        generalize (⟨([43] ++ d2 H ++ [58] ++ d2 I).toArray⟩ : ByteArray) = S at *
        clear e1 HX HD
        by_cases hle : H * 3600 + I * 60 ≤ x
        · rw [if_pos hle] at hw
          have d2' : ¬ ((x : Int) - 3600 * (H : Int) - 60 * (I : Int) < 0) := by omega
          by_cases hd9 : x + 86400 ≤ 4102444799
          · have hp2 := hide (fun W (hk : Keeps [] w W) => print_yes (x + 86400) W hd9 (ht.keeps hk))
            rw [show ((x + 86400 : Nat) : Int) = (x : Int) + 86400 from by omega, show (x + 86400) % 86400 = x % 86400 from by omega] at hp2
            generalize hCC : (⟨([84] ++ clock (x % 86400) ++ [90]).toArray⟩ : ByteArray) = C at *
            have HC := hide hCC
            clear hCC
            go_wp2_with fail
            refine (hw.out _).mono ?_
            rintro e w4 ⟨rfl, hk4⟩
            go_wp2_with fail
            refine (hp2.out _ (hkc.trans hk4)).mono ?_
            rintro e w5 ⟨y2, m2, d2, hd2, rfl, hk5⟩
            have e3 := tail10 y2 m2 d2 (x % 86400)
            have z5 : (⟨(stamp y2 m2 d2 (x % 86400)).toArray⟩ : ByteArray).size = 20 := rfl
            rw [HC.out] at e3
            generalize (⟨(stamp y2 m2 d2 (x % 86400)).toArray⟩ : ByteArray) = X2 at *
            clear hd2 HC
            go_wp2_with fail
            go_quiet (fail)
            go_wp2_with fail
            go_ret
            exact ⟨rfl, ((hkc.trans hk4).trans hk5).drewN _⟩
          · have hp2 := hide (fun W => print_no ((x : Int) + 86400) W (by rw [Bool.and_eq_false_iff]; exact .inr (decide_eq_false (by omega))))
            go_wp2_with fail
            refine (hw.out _).mono ?_
            rintro e w4 ⟨rfl, hk4⟩
            go_wp2_with fail
            refine (hp2.out _).mono ?_
            rintro e w5 ⟨rfl, h5⟩
            obtain rfl : w4 = w5 := h5.symm
            go_wp2_with fail
            go_quiet (fail)
            go_wp2_with fail
            go_ret
            exact ⟨rfl, (hkc.trans hk4).drewN _⟩
        · rw [if_neg hle] at hw
          have d2' : (x : Int) - 3600 * (H : Int) - 60 * (I : Int) < 0 := by omega
          go_wp2_with fail
          refine (hw.out _).mono ?_
          rintro e w4 ⟨rfl, hk4⟩
          go_wp2_with fail
          go_ret
          exact ⟨rfl, hkc.trans hk4⟩
    all_goals
      go_enter Tryd.func4, Tryd.ntmps4
      go_wp2_with fail
      refine hp.out.mono ?_
      rintro e w1 ⟨y, m, d, hd, rfl, hk1⟩
      clear hd hp
      generalize (⟨(stamp y m d (x % 86400)).toArray⟩ : ByteArray) = X
      go_wp2_with fail
      refine (dateBegun_any _ (ht.keeps hk1)).mono ?_
      rintro e w2 ⟨rfl, hk2⟩
      go_wp2_with fail
      go_ret
      exact ⟨rfl, hk1.trans hk2⟩
  · have hp := hide (print_no a w h1)
    clear h1
    go_enter Tryd.func4, Tryd.ntmps4
    go_wp2_with fail
    refine hp.out.mono ?_
    rintro e w1 ⟨rfl, hw1⟩
    obtain rfl : w = w1 := hw1.symm
    go_wp2_with fail
    refine (dateBegun_any _ ht).mono ?_
    rintro e w2 ⟨rfl, hk2⟩
    go_wp2_with fail
    go_ret
    exact ⟨rfl, hk2⟩
end Go.Proofs.YtngojdajamgabaeDoor
