/- DateBack's walk: what is printed is read as it was; a later time is a greater text; what is read is printed, and read, the same. -/
import Derived.Test.YtngojdajamgabaeDoorDBegun
namespace Go.Proofs.YtngojdajamgabaeDoor
open Go.RowKit

/-- A time is printed, and what is printed is read as it was. -/
theorem print_web (a : Nat) (w : World) (h : a ≤ 4102444799) (ht : HasTab w) :
    Calls Tryd.prog 7 #[.int .i64 a] w fun e w' => ∃ t : ByteArray, e = .returned (.tuple #[.string t, .int .i64 0]) ∧ Keeps [] w w' ∧ ∀ W, Calls Tryd.prog 8 #[.string t] W fun e W' => e = .returned (.tuple #[.int .i64 a, .int .i64 0]) ∧ Keeps [] W W' := by
  refine (print_yes a w h ht).mono ?_
  rintro e w' ⟨y, m, d, hd, rfl, hk⟩
  exact ⟨_, rfl, hk, fun W => web_of _ _ (ans_stamp hd h) (by show 20 ≤ 3000; omega) W⟩
/-- Two times. -/
theorem print_two (a b : Nat) (w : World) (ha : a ≤ 4102444799) (hb : b ≤ 4102444799) (ht : HasTab w) :
    Calls Tryd.prog 7 #[.int .i64 a] w fun e w' => ∃ t : ByteArray, e = .returned (.tuple #[.string t, .int .i64 0]) ∧ Keeps [] w w' ∧ (∀ W, Calls Tryd.prog 8 #[.string t] W fun e W' => e = .returned (.tuple #[.int .i64 a, .int .i64 0]) ∧ Keeps [] W W') ∧
      ∀ W, Keeps [] w W → Calls Tryd.prog 7 #[.int .i64 b] W fun e W' => ∃ u : ByteArray, e = .returned (.tuple #[.string u, .int .i64 0]) ∧ Keeps [] W W' ∧ Op.bytesLess t.toList u.toList = decide (a < b) := by
  refine (print_yes a w ha ht).mono ?_
  rintro e w' ⟨y, m, d, hd, rfl, hk⟩
  refine ⟨_, rfl, hk, fun W => web_of _ _ (ans_stamp hd ha) (by show 20 ≤ 3000; omega) W, fun W hW => ?_⟩
  refine (print_yes b W hb (ht.keeps hW)).mono ?_
  rintro e w2 ⟨y2, m2, d2', hd2, rfl, hk2⟩
  refine ⟨_, rfl, hk2, ?_⟩
  rw [ByteArray.toList_eq, ByteArray.toList_eq]
  exact stamp_order hd hd2

theorem ans_in (R : Option Stamp) (n : Nat) (h : (ansL R n).2 = 0) : ∃ x : Nat, x ≤ 4102444799 ∧ (ansL R n).1 = x := by
  unfold ansL at h ⊢
  split at h
  · simp at h
  · split at h
    · simp at h
    · split at h
      · split at h
        · next h1 h2 h3 =>
          rw [if_neg h1, if_pos h2, if_pos h3]
          simp only [Bool.and_eq_true, decide_eq_true_eq] at h3
          exact ⟨_, by omega, (Int.toNat_of_nonneg h3.1).symm⟩
        · simp at h
      · simp at h
theorem told_or (a : Int) : (∃ x : Nat, x ≤ 4102444799 ∧ a = x) ∨ (decide (0 ≤ a) && decide (a ≤ 4102444799)) = false := by
  by_cases h : 0 ≤ a ∧ a ≤ 4102444799
  · exact .inl ⟨a.toNat, by omega, (Int.toNat_of_nonneg h.1).symm⟩
  · right
    rw [Bool.and_eq_false_iff]
    rcases Decidable.em (0 ≤ a) with h1 | h1
    · exact .inr (decide_eq_false (fun h2 => h ⟨h1, h2⟩))
    · exact .inl (decide_eq_false h1)

set_option maxRecDepth 100000 in
set_option maxHeartbeats 4000000 in
theorem dateBack_any (s : ByteArray) (a b : Int) (w : World) (hs : s.size ≤ 140737488351232) (ht : HasTab w) :
    Calls Tryd.prog 3 #[.string s, .int .i64 a, .int .i64 b] w fun e w' => e = .returned (.bool true) ∧ Keeps [] w w' := by
  have hw := hide (fun W => Web_any s W hs)
  have hm := hide (fun W => Mail_any s W hs)
  have hokA := hide (ans_in (webL s.data.toList) s.size)
  have hokB := hide (ans_in (mailL s.data.toList) s.size)
  generalize ansL (webL s.data.toList) s.size = A at *
  generalize ansL (mailL s.data.toList) s.size = B at *
  unfold ansV at hw hm
  have hpn := hide (fun (a : Int) W (h : (decide (0 ≤ a) && decide (a ≤ 4102444799)) = false) => print_no a W h)
  rcases told_or a with ⟨x1, hx1, rfl⟩ | h1
  · rcases told_or b with ⟨x2, hx2, rfl⟩ | h2
    · have hp := hide (fun (W : World) (hk : Keeps [] w W) => print_two x1 x2 W hx1 hx2 (ht.keeps hk))
      go_enter Tryd.func3, Tryd.ntmps3
      go_wp2_with fail
      refine (dateBegun_any _ ht).mono ?_
      rintro e w1 ⟨rfl, hk1⟩
      go_wp2_with fail
      refine (hp.out w1 hk1).mono ?_
      rintro e w2 ⟨t, rfl, hk2, hwt, hp2⟩
      have HWT := hide hwt
      have HP2 := hide hp2
      clear hwt hp2 hp
      go_wp2_with fail
      refine (HP2.out w2 hk2).mono ?_
      rintro e w3 ⟨u, rfl, hk3, hless⟩
      clear HP2
      go_wp2_with fail
      refine (HWT.out _).mono ?_
      rintro e w4 ⟨rfl, hk4⟩
      have hk04 := ((hk1.trans hk2).trans hk3).trans hk4
      clear HWT hk1 hk2 hk3 hk4
      rcases Decidable.em (x1 < x2) with hlt | hlt
      · rw [decide_eq_true hlt] at hless
        go_wp2_with fail
        go_loopw [13] (fun i wr => ∃ k : Nat, k ≤ 2 ∧ i = .int .i64 k ∧ Keeps [] w wr) (fun i _ => 2 - (intOf i).toNat)
        case atStart => exact ⟨0, by omega, rfl, hk04⟩
        case round =>
          obtain ⟨k, hk2, rfl, hkr⟩ := hrel
          rcases (show k = 0 ∨ k = 1 ∨ k = 2 from by omega) with rfl | rfl | rfl
          · go_wp2_with fail
            refine (hw.out _).mono ?_
            rintro e w4 ⟨rfl, hk4⟩
            have hkr4 := hkr.trans hk4
            rcases Decidable.em (A.2 = 0) with h0 | h0
            · obtain ⟨x, hx, hxe⟩ := hokA.out h0
              have e1 : (A.2 != 0) = false := by simpa using h0
              have e2 : A.1 = (x : Int) := hxe
              rw [e2]
              have HP := hide (fun (W : World) (hk : Keeps [] w W) => print_web x W hx (ht.keeps hk))
              clear hokA h0
              go_wp2_with fail
              refine (HP.out _ hkr4).mono ?_
              rintro e w5 ⟨t, rfl, hk5, hwt⟩
              have HT := hide hwt
              clear hwt
              go_wp2_with fail
              refine (HT.out _).mono ?_
              rintro e w6 ⟨rfl, hk6⟩
              go_wp2_with fail
              go_roundw
              case rel => exact ⟨0 + 1, by omega, by go_num, (hkr4).trans (hk5.trans hk6)⟩
              case measure => simp [intOf]
            · have e1 : (A.2 != 0) = true := by simpa using h0
              clear hokA h0
              go_wp2_with fail
              go_roundw
              case rel => exact ⟨0 + 1, by omega, by go_num, hkr4⟩
              case measure => simp [intOf]
          · go_wp2_with fail
            refine (hw.out _).mono ?_
            rintro e w3 ⟨rfl, hk3⟩
            go_wp2_with fail
            refine (hm.out _).mono ?_
            rintro e w4 ⟨rfl, hk4⟩
            have hkr4 := (hkr.trans hk3).trans hk4
            rcases Decidable.em (B.2 = 0) with h0 | h0
            · obtain ⟨x, hx, hxe⟩ := hokB.out h0
              have e1 : (B.2 != 0) = false := by simpa using h0
              have e2 : B.1 = (x : Int) := hxe
              rw [e2]
              have HP := hide (fun (W : World) (hk : Keeps [] w W) => print_web x W hx (ht.keeps hk))
              clear hokB h0
              go_wp2_with fail
              refine (HP.out _ hkr4).mono ?_
              rintro e w5 ⟨t, rfl, hk5, hwt⟩
              have HT := hide hwt
              clear hwt
              go_wp2_with fail
              refine (HT.out _).mono ?_
              rintro e w6 ⟨rfl, hk6⟩
              go_wp2_with fail
              go_roundw
              case rel => exact ⟨1 + 1, by omega, by go_num, (hkr4).trans (hk5.trans hk6)⟩
              case measure => simp [intOf]
            · have e1 : (B.2 != 0) = true := by simpa using h0
              clear hokB h0
              go_wp2_with fail
              go_roundw
              case rel => exact ⟨1 + 1, by omega, by go_num, hkr4⟩
              case measure => simp [intOf]
          · go_wp2_with fail
            go_ret
            exact ⟨rfl, hkr⟩
      · rw [decide_eq_false hlt] at hless
        go_wp2_with fail
        go_loopw [13] (fun i wr => ∃ k : Nat, k ≤ 2 ∧ i = .int .i64 k ∧ Keeps [] w wr) (fun i _ => 2 - (intOf i).toNat)
        case atStart => exact ⟨0, by omega, rfl, hk04⟩
        case round =>
          obtain ⟨k, hk2, rfl, hkr⟩ := hrel
          rcases (show k = 0 ∨ k = 1 ∨ k = 2 from by omega) with rfl | rfl | rfl
          · go_wp2_with fail
            refine (hw.out _).mono ?_
            rintro e w4 ⟨rfl, hk4⟩
            have hkr4 := hkr.trans hk4
            rcases Decidable.em (A.2 = 0) with h0 | h0
            · obtain ⟨x, hx, hxe⟩ := hokA.out h0
              have e1 : (A.2 != 0) = false := by simpa using h0
              have e2 : A.1 = (x : Int) := hxe
              rw [e2]
              have HP := hide (fun (W : World) (hk : Keeps [] w W) => print_web x W hx (ht.keeps hk))
              clear hokA h0
              go_wp2_with fail
              refine (HP.out _ hkr4).mono ?_
              rintro e w5 ⟨t, rfl, hk5, hwt⟩
              have HT := hide hwt
              clear hwt
              go_wp2_with fail
              refine (HT.out _).mono ?_
              rintro e w6 ⟨rfl, hk6⟩
              go_wp2_with fail
              go_roundw
              case rel => exact ⟨0 + 1, by omega, by go_num, (hkr4).trans (hk5.trans hk6)⟩
              case measure => simp [intOf]
            · have e1 : (A.2 != 0) = true := by simpa using h0
              clear hokA h0
              go_wp2_with fail
              go_roundw
              case rel => exact ⟨0 + 1, by omega, by go_num, hkr4⟩
              case measure => simp [intOf]
          · go_wp2_with fail
            refine (hw.out _).mono ?_
            rintro e w3 ⟨rfl, hk3⟩
            go_wp2_with fail
            refine (hm.out _).mono ?_
            rintro e w4 ⟨rfl, hk4⟩
            have hkr4 := (hkr.trans hk3).trans hk4
            rcases Decidable.em (B.2 = 0) with h0 | h0
            · obtain ⟨x, hx, hxe⟩ := hokB.out h0
              have e1 : (B.2 != 0) = false := by simpa using h0
              have e2 : B.1 = (x : Int) := hxe
              rw [e2]
              have HP := hide (fun (W : World) (hk : Keeps [] w W) => print_web x W hx (ht.keeps hk))
              clear hokB h0
              go_wp2_with fail
              refine (HP.out _ hkr4).mono ?_
              rintro e w5 ⟨t, rfl, hk5, hwt⟩
              have HT := hide hwt
              clear hwt
              go_wp2_with fail
              refine (HT.out _).mono ?_
              rintro e w6 ⟨rfl, hk6⟩
              go_wp2_with fail
              go_roundw
              case rel => exact ⟨1 + 1, by omega, by go_num, (hkr4).trans (hk5.trans hk6)⟩
              case measure => simp [intOf]
            · have e1 : (B.2 != 0) = true := by simpa using h0
              clear hokB h0
              go_wp2_with fail
              go_roundw
              case rel => exact ⟨1 + 1, by omega, by go_num, hkr4⟩
              case measure => simp [intOf]
          · go_wp2_with fail
            go_ret
            exact ⟨rfl, hkr⟩
    · have hp := hide (fun (W : World) (hk : Keeps [] w W) => print_web x1 W hx1 (ht.keeps hk))
      have hp2 := hide (fun W => hpn.out b W h2)
      clear h2
      go_enter Tryd.func3, Tryd.ntmps3
      go_wp2_with fail
      refine (dateBegun_any _ ht).mono ?_
      rintro e w1 ⟨rfl, hk1⟩
      go_wp2_with fail
      refine (hp.out w1 hk1).mono ?_
      rintro e w2 ⟨t, rfl, hk2, hwt⟩
      have HWT := hide hwt
      clear hwt hp
      go_wp2_with fail
      refine (hp2.out _).mono ?_
      rintro e w3 ⟨rfl, h3⟩
      obtain rfl : w2 = w3 := h3.symm
      go_wp2_with fail
      refine (HWT.out _).mono ?_
      rintro e w4 ⟨rfl, hk4⟩
      have hk04 := (hk1.trans hk2).trans hk4
      clear HWT hk1 hk2 hk4 hp2
      go_wp2_with fail
      go_loopw [13] (fun i wr => ∃ k : Nat, k ≤ 2 ∧ i = .int .i64 k ∧ Keeps [] w wr) (fun i _ => 2 - (intOf i).toNat)
      case atStart => exact ⟨0, by omega, rfl, hk04⟩
      case round =>
        obtain ⟨k, hk2, rfl, hkr⟩ := hrel
        rcases (show k = 0 ∨ k = 1 ∨ k = 2 from by omega) with rfl | rfl | rfl
        · go_wp2_with fail
          refine (hw.out _).mono ?_
          rintro e w4 ⟨rfl, hk4⟩
          have hkr4 := hkr.trans hk4
          rcases Decidable.em (A.2 = 0) with h0 | h0
          · obtain ⟨x, hx, hxe⟩ := hokA.out h0
            have e1 : (A.2 != 0) = false := by simpa using h0
            have e2 : A.1 = (x : Int) := hxe
            rw [e2]
            have HP := hide (fun (W : World) (hk : Keeps [] w W) => print_web x W hx (ht.keeps hk))
            clear hokA h0
            go_wp2_with fail
            refine (HP.out _ hkr4).mono ?_
            rintro e w5 ⟨t, rfl, hk5, hwt⟩
            have HT := hide hwt
            clear hwt
            go_wp2_with fail
            refine (HT.out _).mono ?_
            rintro e w6 ⟨rfl, hk6⟩
            go_wp2_with fail
            go_roundw
            case rel => exact ⟨0 + 1, by omega, by go_num, (hkr4).trans (hk5.trans hk6)⟩
            case measure => simp [intOf]
          · have e1 : (A.2 != 0) = true := by simpa using h0
            clear hokA h0
            go_wp2_with fail
            go_roundw
            case rel => exact ⟨0 + 1, by omega, by go_num, hkr4⟩
            case measure => simp [intOf]
        · go_wp2_with fail
          refine (hw.out _).mono ?_
          rintro e w3 ⟨rfl, hk3⟩
          go_wp2_with fail
          refine (hm.out _).mono ?_
          rintro e w4 ⟨rfl, hk4⟩
          have hkr4 := (hkr.trans hk3).trans hk4
          rcases Decidable.em (B.2 = 0) with h0 | h0
          · obtain ⟨x, hx, hxe⟩ := hokB.out h0
            have e1 : (B.2 != 0) = false := by simpa using h0
            have e2 : B.1 = (x : Int) := hxe
            rw [e2]
            have HP := hide (fun (W : World) (hk : Keeps [] w W) => print_web x W hx (ht.keeps hk))
            clear hokB h0
            go_wp2_with fail
            refine (HP.out _ hkr4).mono ?_
            rintro e w5 ⟨t, rfl, hk5, hwt⟩
            have HT := hide hwt
            clear hwt
            go_wp2_with fail
            refine (HT.out _).mono ?_
            rintro e w6 ⟨rfl, hk6⟩
            go_wp2_with fail
            go_roundw
            case rel => exact ⟨1 + 1, by omega, by go_num, (hkr4).trans (hk5.trans hk6)⟩
            case measure => simp [intOf]
          · have e1 : (B.2 != 0) = true := by simpa using h0
            clear hokB h0
            go_wp2_with fail
            go_roundw
            case rel => exact ⟨1 + 1, by omega, by go_num, hkr4⟩
            case measure => simp [intOf]
        · go_wp2_with fail
          go_ret
          exact ⟨rfl, hkr⟩
  · have hp := hide (fun W => hpn.out a W h1)
    clear h1
    have hb : Hid (∀ W, Keeps [] w W → Calls Tryd.prog 7 #[.int .i64 b] W fun e w' => ∃ t n, e = .returned (.tuple #[.string t, .int .i64 n]) ∧ Keeps [] W w') := by
      intro W hW
      rcases told_or b with ⟨x2, hx2, rfl⟩ | h2
      · exact (print_web x2 W hx2 (ht.keeps hW)).mono fun e w' ⟨t, h, hk, _⟩ => ⟨t, 0, h, hk⟩
      · exact (print_no b W h2).mono fun e w' ⟨h, hw⟩ => ⟨_, 3, h, hw ▸ Keeps.refl _ _⟩
    go_enter Tryd.func3, Tryd.ntmps3
    go_wp2_with fail
    refine (dateBegun_any _ ht).mono ?_
    rintro e w1 ⟨rfl, hk1⟩
    go_wp2_with fail
    refine (hp.out _).mono ?_
    rintro e w2 ⟨rfl, h2⟩
    obtain rfl : w1 = w2 := h2.symm
    go_wp2_with fail
    refine (hb.out _ hk1).mono ?_
    rintro e w3 ⟨t, n, rfl, hk3⟩
    have hk04 := hk1.trans hk3
    clear hk1 hk3 hb hp
    go_wp2_with fail
    go_loopw [13] (fun i wr => ∃ k : Nat, k ≤ 2 ∧ i = .int .i64 k ∧ Keeps [] w wr) (fun i _ => 2 - (intOf i).toNat)
    case atStart => exact ⟨0, by omega, rfl, hk04⟩
    case round =>
      obtain ⟨k, hk2, rfl, hkr⟩ := hrel
      rcases (show k = 0 ∨ k = 1 ∨ k = 2 from by omega) with rfl | rfl | rfl
      · go_wp2_with fail
        refine (hw.out _).mono ?_
        rintro e w4 ⟨rfl, hk4⟩
        have hkr4 := hkr.trans hk4
        rcases Decidable.em (A.2 = 0) with h0 | h0
        · obtain ⟨x, hx, hxe⟩ := hokA.out h0
          have e1 : (A.2 != 0) = false := by simpa using h0
          have e2 : A.1 = (x : Int) := hxe
          rw [e2]
          have HP := hide (fun (W : World) (hk : Keeps [] w W) => print_web x W hx (ht.keeps hk))
          clear hokA h0
          go_wp2_with fail
          refine (HP.out _ hkr4).mono ?_
          rintro e w5 ⟨t, rfl, hk5, hwt⟩
          have HT := hide hwt
          clear hwt
          go_wp2_with fail
          refine (HT.out _).mono ?_
          rintro e w6 ⟨rfl, hk6⟩
          go_wp2_with fail
          go_roundw
          case rel => exact ⟨0 + 1, by omega, by go_num, (hkr4).trans (hk5.trans hk6)⟩
          case measure => simp [intOf]
        · have e1 : (A.2 != 0) = true := by simpa using h0
          clear hokA h0
          go_wp2_with fail
          go_roundw
          case rel => exact ⟨0 + 1, by omega, by go_num, hkr4⟩
          case measure => simp [intOf]
      · go_wp2_with fail
        refine (hw.out _).mono ?_
        rintro e w3 ⟨rfl, hk3⟩
        go_wp2_with fail
        refine (hm.out _).mono ?_
        rintro e w4 ⟨rfl, hk4⟩
        have hkr4 := (hkr.trans hk3).trans hk4
        rcases Decidable.em (B.2 = 0) with h0 | h0
        · obtain ⟨x, hx, hxe⟩ := hokB.out h0
          have e1 : (B.2 != 0) = false := by simpa using h0
          have e2 : B.1 = (x : Int) := hxe
          rw [e2]
          have HP := hide (fun (W : World) (hk : Keeps [] w W) => print_web x W hx (ht.keeps hk))
          clear hokB h0
          go_wp2_with fail
          refine (HP.out _ hkr4).mono ?_
          rintro e w5 ⟨t, rfl, hk5, hwt⟩
          have HT := hide hwt
          clear hwt
          go_wp2_with fail
          refine (HT.out _).mono ?_
          rintro e w6 ⟨rfl, hk6⟩
          go_wp2_with fail
          go_roundw
          case rel => exact ⟨1 + 1, by omega, by go_num, (hkr4).trans (hk5.trans hk6)⟩
          case measure => simp [intOf]
        · have e1 : (B.2 != 0) = true := by simpa using h0
          clear hokB h0
          go_wp2_with fail
          go_roundw
          case rel => exact ⟨1 + 1, by omega, by go_num, hkr4⟩
          case measure => simp [intOf]
      · go_wp2_with fail
        go_ret
        exact ⟨rfl, hkr⟩
end Go.Proofs.YtngojdajamgabaeDoor
