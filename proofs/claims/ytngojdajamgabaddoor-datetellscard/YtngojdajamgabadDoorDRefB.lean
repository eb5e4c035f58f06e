/- The document's answer for dates: zoneOf, timeOf. -/
import Derived.Test.YtngojdajamgabadDoorDRefA
namespace Go.Proofs.YtngojdajamgabadDoor
open Go.RowKit

theorem ret_two {a a' : Int} {b b' : Bool} (h1 : a = a') (h2 : b = b') : Ending.returned (.tuple #[.int .i64 a, .bool b]) = Ending.returned (.tuple #[.int .i64 a', .bool b']) := by rw [h1, h2]
/-- A text of digits reads as a number, whatever the world. -/
def IsNo (s : ByteArray) (n : Nat) : Prop := ∀ w, Calls Tryd.prog 21 #[.string s] w fun e w' => e = .returned (.int .i64 (n : Nat)) ∧ w' = w

def zoneV (sign : UInt8) (h m : Nat) : Int := if sign = 45 then -(60 * (h : Int) + m) else 60 * (h : Int) + m
def zoneB (h m : Nat) : Bool := decide (h ≤ 23) && decide (m ≤ 59)

set_option maxRecDepth 8000 in
set_option maxHeartbeats 2000000 in
theorem zoneOf_any (c : UInt8) (s t : ByteArray) (h m : Nat) (w : World) (hs : IsNo s h) (ht : IsNo t m) (h1 : h ≤ 99) (h2 : m ≤ 99) :
    Calls Tryd.prog 19 #[.int .u8 c.toNat, .string s, .string t] w fun e w' => e = .returned (.tuple #[.int .i64 (zoneV c h m), .bool (zoneB h m)]) ∧ w' = w := by
  unfold IsNo at hs ht
  have H1 := hide hs
  have H2 := hide ht
  clear hs ht
  have hc : c.toNat < 256 := UInt8.toNat_lt c
  have hb : zoneB h m = (decide (h ≤ 23) && decide (m ≤ 59)) := rfl
  by_cases g : c = 45
  · have t1 : ((c.toNat : Int) == 45) = true := by rw [g]; rfl
    have hz : Hid (zoneV c h m = -(60 * (h : Int) + m)) := by unfold zoneV Hid; rw [if_pos g]
    clear g
    by_cases g1 : h ≤ 23
    · have hbb : Hid (zoneB h m = decide (m ≤ 59)) := by unfold zoneB Hid; simp [g1]
      have d1 : decide ((h : Int) ≤ 23) = true := decide_eq_true (by omega)
      clear hb
      go_enter Tryd.func19, Tryd.ntmps19
      iterate 4
        go_wp2_with fail
        first
          | (with_reducible refine (H1.out _).mono ?_; rintro e w' ⟨rfl, h9⟩; obtain rfl : w = w' := h9.symm)
          | (with_reducible refine (H2.out _).mono ?_; rintro e w' ⟨rfl, h9⟩; obtain rfl : w = w' := h9.symm)
      go_wp2_with fail
      go_ret2
      exact ⟨by rw [hz.out, hbb.out]; exact ret_two (by first | rfl | omega) (by rw [Bool.eq_iff_iff]; simp; omega), rfl⟩
    · have hbb : Hid (zoneB h m = false) := by unfold zoneB Hid; simp [g1]
      have d1 : decide ((h : Int) ≤ 23) = false := decide_eq_false (by omega)
      clear hb
      go_enter Tryd.func19, Tryd.ntmps19
      iterate 3
        go_wp2_with fail
        first
          | (with_reducible refine (H1.out _).mono ?_; rintro e w' ⟨rfl, h9⟩; obtain rfl : w = w' := h9.symm)
          | (with_reducible refine (H2.out _).mono ?_; rintro e w' ⟨rfl, h9⟩; obtain rfl : w = w' := h9.symm)
      go_wp2_with fail
      go_ret2
      exact ⟨by rw [hz.out, hbb.out]; exact ret_two (by first | rfl | omega) (by rfl), rfl⟩
  · have t1 : ((c.toNat : Int) == 45) = false := by
      rw [beq_eq_false_iff_ne]
      intro h
      exact g (UInt8.toNat_inj.1 (by have : (45 : UInt8).toNat = 45 := rfl; omega))
    have hz : Hid (zoneV c h m = 60 * (h : Int) + m) := by unfold zoneV Hid; rw [if_neg g]
    clear g
    by_cases g1 : h ≤ 23
    · have hbb : Hid (zoneB h m = decide (m ≤ 59)) := by unfold zoneB Hid; simp [g1]
      have d1 : decide ((h : Int) ≤ 23) = true := decide_eq_true (by omega)
      clear hb
      go_enter Tryd.func19, Tryd.ntmps19
      iterate 4
        go_wp2_with fail
        first
          | (with_reducible refine (H1.out _).mono ?_; rintro e w' ⟨rfl, h9⟩; obtain rfl : w = w' := h9.symm)
          | (with_reducible refine (H2.out _).mono ?_; rintro e w' ⟨rfl, h9⟩; obtain rfl : w = w' := h9.symm)
      go_wp2_with fail
      go_ret2
      exact ⟨by rw [hz.out, hbb.out]; exact ret_two (by first | rfl | omega) (by rw [Bool.eq_iff_iff]; simp; omega), rfl⟩
    · have hbb : Hid (zoneB h m = false) := by unfold zoneB Hid; simp [g1]
      have d1 : decide ((h : Int) ≤ 23) = false := decide_eq_false (by omega)
      clear hb
      go_enter Tryd.func19, Tryd.ntmps19
      iterate 3
        go_wp2_with fail
        first
          | (with_reducible refine (H1.out _).mono ?_; rintro e w' ⟨rfl, h9⟩; obtain rfl : w = w' := h9.symm)
          | (with_reducible refine (H2.out _).mono ?_; rintro e w' ⟨rfl, h9⟩; obtain rfl : w = w' := h9.symm)
      go_wp2_with fail
      go_ret2
      exact ⟨by rw [hz.out, hbb.out]; exact ret_two (by first | rfl | omega) (by rfl), rfl⟩

/-- The time of a day that may be none, with seconds of it, and what is ahead of UTC in minutes. -/
def timeL (y m d h n s : Nat) (zone : Int) : Int × Int :=
  if 23 < h ∨ 59 < n ∨ 59 < s then (0, 1)
  else if standsB y m d = true then (if (decide (0 ≤ dayNum y m d * 86400 + ((h * 3600 + n * 60 + s : Nat) : Int) - 60 * zone) && decide (dayNum y m d * 86400 + ((h * 3600 + n * 60 + s : Nat) : Int) - 60 * zone ≤ 4102444799)) = true then (dayNum y m d * 86400 + ((h * 3600 + n * 60 + s : Nat) : Int) - 60 * zone, 0) else (0, 3)) else (0, 3)

set_option maxRecDepth 8000 in
set_option maxHeartbeats 8000000 in
theorem timeOf_any (y m d h n s : Nat) (C : ByteArray) (zone : Int) (w : World) (hC : C.size = 8) (hy : y ≤ 9999) (hm : m ≤ 99) (hd : d ≤ 99) (hh : h ≤ 99) (hn : n ≤ 99) (hs : s ≤ 99) (hz1 : -10000 ≤ zone) (hz2 : zone ≤ 10000)
    (n1 : IsNo (C.extract 0 2) h) (n2 : IsNo (C.extract 3 5) n) (n3 : IsNo (C.extract 6 8) s) :
    Calls Tryd.prog 20 #[.int .i64 y, .int .i64 m, .int .i64 d, .string C, .int .i64 zone] w fun e w' => e = .returned (.tuple #[.int .i64 (timeL y m d h n s zone).1, .int .i64 (timeL y m d h n s zone).2]) ∧ ∃ k, w' = w.drewN k := by
  unfold IsNo at n1 n2 n3
  have N1 := hide n1
  have N2 := hide n2
  have N3 := hide n3
  clear n1 n2 n3
  obtain ⟨A, hA⟩ : ∃ A, timeL y m d h n s zone = A := ⟨_, rfl⟩
  rw [hA]
  have HA := hide hA
  clear hA
  unfold timeL at HA
  go_enter Tryd.func20, Tryd.ntmps20
  go_wp2_with fail
  go_quiet (first | (go_at_call 21; with_reducible exact Calls.quiet_of_same (N1.out _)) | (go_at_call 21; with_reducible exact Calls.quiet_of_same (N2.out _)) | (go_at_call 21; with_reducible exact Calls.quiet_of_same (N3.out _)))
  by_cases g1 : 23 < h ∨ 59 < n ∨ 59 < s
  · have HA2 := hide ((if_pos g1).symm.trans HA.out)
    clear HA N1 N2 N3
    rcases (show 23 < h ∨ (¬ 23 < h ∧ 59 < n) ∨ (¬ 23 < h ∧ ¬ 59 < n ∧ 59 < s) from by omega) with g | ⟨g, g2⟩ | ⟨g, g2, g3⟩
    all_goals
      clear g1
      go_wp2_with fail
      go_ret2
      exact ⟨by rw [← HA2.out]; rfl, _, rfl⟩
  · have HA2 := hide ((if_neg g1).symm.trans HA.out)
    have e1 : ¬ 23 < h := by omega
    have e2 : ¬ 59 < n := by omega
    have e3 : ¬ 59 < s := by omega
    clear HA N1 N2 N3 g1
    have hbt := hide (fun w => between_any (m : Int) 1 12 w)
    rcases (show (m < 1 ∨ 12 < m) ∨ (1 ≤ m ∧ m ≤ 12) from by omega) with gm | ⟨gm1, gm2⟩
    · have hst : standsB y m d = false := by simp [standsB]; omega
      have HA3 := hide ((if_neg (by rw [hst]; simp)).symm.trans HA2.out)
      have hb : (decide ((1 : Int) ≤ (m : Int)) && decide ((m : Int) ≤ 12)) = false := by
        rw [Bool.and_eq_false_iff]
        rcases gm with g | g
        · exact .inl (decide_eq_false (by omega))
        · exact .inr (decide_eq_false (by omega))
      rw [hb] at hbt
      clear HA2 hst hb gm
      go_wp2_with (go_at_call 43; refine (hbt.out _).mono ?_; rintro e w' ⟨rfl, rfl⟩)
      go_ret2
      exact ⟨by rw [← HA3.out]; rfl, _, rfl⟩
    · have hb : (decide ((1 : Int) ≤ (m : Int)) && decide ((m : Int) ≤ 12)) = true := by simp; omega
      rw [hb] at hbt
      clear hb
      by_cases gd : d < 1
      · have hst : standsB y m d = false := by simp [standsB]; omega
        have HA3 := hide ((if_neg (by rw [hst]; simp)).symm.trans HA2.out)
        clear HA2 hst
        go_wp2_with (go_at_call 43; refine (hbt.out _).mono ?_; rintro e w' ⟨rfl, rfl⟩)
        go_ret2
        exact ⟨by rw [← HA3.out]; rfl, _, rfl⟩
      · have hml := hide (fun w => monthLong_any y m w (by omega) gm1 gm2)
        have hmq := monthN_hi y m
        by_cases gl : monthN y m < d
        · have hst : standsB y m d = false := by simp [standsB]; omega
          have HA3 := hide ((if_neg (by rw [hst]; simp)).symm.trans HA2.out)
          clear HA2 hst
          generalize monthN y m = q at *
          go_wp2_with fail
          refine (hbt.out _).mono ?_
          rintro e w' ⟨rfl, rfl⟩
          go_wp2_with fail
          refine (hml.out _).mono ?_
          rintro e w' ⟨rfl, rfl⟩
          go_wp2_with fail
          go_ret2
          exact ⟨by rw [← HA3.out]; rfl, _, rfl⟩
        · have hst : standsB y m d = true := by simp [standsB]; omega
          have HA3 := hide ((if_pos hst).symm.trans HA2.out)
          clear HA2 hst
          have hyl := hide (fun k w (h : k ≤ 10000) => yearLong_any k w h)
          have hmo := hide (fun j w (h1 : 1 ≤ j) (h2 : j ≤ 12) => monthLong_any y j w (by omega) h1 h2)
          generalize hq : monthN y m = q at *
          clear hq
          go_wp2_with fail
          refine (hbt.out _).mono ?_
          rintro e w' ⟨rfl, rfl⟩
          go_wp2_with fail
          refine (hml.out _).mono ?_
          rintro e w' ⟨rfl, rfl⟩
          clear hml hbt
          generalize hWW : w.drewN nq = W at *
          have HW := hide hWW
          clear hWW
          go_wp2_with fail
          go_loopw [15, 16] (fun v i wr => ∃ k : Nat, 1970 ≤ k ∧ (k ≤ y ∨ k = 1970) ∧ i = .int .i64 k ∧ v = .int .i64 ((aheadN k : Int) - (aheadN 1970 : Int)) ∧ W = wr) (fun _ i _ => y - (intOf i).toNat)
          case atStart => exact ⟨1970, by omega, .inr rfl, rfl, by simp, rfl⟩
          case round =>
            obtain ⟨k, hk1, hk2, rfl, rfl, rfl⟩ := hrel
            have ba1 := aheadN_hi k (by omega)
            have ba2 := aheadN_hi 1970 (by omega)
            by_cases hky : k < y
            · have hsu := hide (ahead_succ k)
              have bb := yearN_hi k
              have hyk := hide (fun w => hyl.out k w (by omega))
              clear hyl hmo HA3 HW
              generalize aheadN k = p1 at *
              generalize aheadN 1970 = p2 at *
              generalize yearN k = p3 at *
              go_wp2_with fail
              refine (hyk.out _).mono ?_
              rintro e w' ⟨rfl, h9⟩
              obtain rfl : W = w' := h9.symm
              go_wp2_with fail
              go_roundw
              case rel => exact ⟨k + 1, by omega, .inl (by omega), by go_num, by rw [hsu.out]; exact congrArg (Value.int .i64) (by omega), trivial⟩
              case measure => simp [intOf]; omega
            · have hkk : Hid (k = y ∨ (k = 1970 ∧ y < 1970)) := by unfold Hid; omega
              have hyk2 : y ≤ k := by omega
              have hkb : k ≤ 10000 := by omega
              clear hk2
              obtain ⟨P, hP⟩ : ∃ P : Int, (aheadN k : Int) - (aheadN 1970 : Int) = P := ⟨_, rfl⟩
              have hPb : -4000000 ≤ P ∧ P ≤ 4000000 := by omega
              obtain ⟨hPb1, hPb2⟩ := hPb
              rw [hP]
              have HP := hide hP
              clear hP ba1 ba2
              go_wp2_with fail
              go_loopw [15, 17] (fun v i wr => ∃ j : Nat, y ≤ j ∧ j ≤ k ∧ i = .int .i64 j ∧ v = .int .i64 (P - ((aheadN j : Int) - (aheadN y : Int))) ∧ W = wr) (fun _ i _ => 1970 - (intOf i).toNat)
              case atStart => exact ⟨y, by omega, by omega, rfl, by simp, rfl⟩
              case round =>
                obtain ⟨j, hj1, hj2, rfl, rfl, rfl⟩ := hrel
                have ba1 := aheadN_hi j (by omega)
                have ba2 := aheadN_hi y (by omega)
                by_cases hj3 : j < 1970
                · have hsu := hide (ahead_succ j)
                  have bb := yearN_hi j
                  have hyk := hide (fun w => hyl.out j w (by omega))
                  have hjk : j < k := by have := hkk.out; omega
                  clear hyl hmo HA3 HW HP hkk
                  generalize aheadN j = p1 at *
                  generalize aheadN y = p2 at *
                  generalize yearN j = p3 at *
                  go_wp2_with fail
                  refine (hyk.out _).mono ?_
                  rintro e w' ⟨rfl, h9⟩
                  obtain rfl : W = w' := h9.symm
                  go_wp2_with fail
                  go_roundw
                  case rel => exact ⟨j + 1, by omega, by omega, by go_num, by rw [hsu.out]; exact congrArg (Value.int .i64) (by omega), trivial⟩
                  case measure => simp [intOf]; omega
                · have hD : P - ((aheadN j : Int) - (aheadN y : Int)) = (aheadN y : Int) - (aheadN 1970 : Int) := by
                    have h1 := HP.out
                    rcases hkk.out with h2 | ⟨h2, h3⟩
                    · have : j = y := by omega
                      subst this
                      subst h2
                      omega
                    · have : j = k := by omega
                      subst this
                      omega
                  rw [hD]
                  have ba3 := aheadN_hi 1970 (by omega)
                  obtain ⟨D, hDD⟩ : ∃ D : Int, (aheadN y : Int) - (aheadN 1970 : Int) = D := ⟨_, rfl⟩
                  have hDb1 : -4000000 ≤ D := by omega
                  have hDb2 : D ≤ 4000000 := by omega
                  rw [hDD]
                  have HDD := hide hDD
                  clear hDD hD HP hkk ba1 ba2 ba3 hyl hPb1 hPb2 hj1 hj2 hyk2 hk1 hky
                  go_wp2_with fail
                  go_loopw [15, 18] (fun v i wr => ∃ j : Nat, 1 ≤ j ∧ j ≤ m ∧ i = .int .i64 j ∧ v = .int .i64 (D + (sumTo y (j - 1) : Nat)) ∧ W = wr) (fun _ i _ => m - (intOf i).toNat)
                  case atStart => exact ⟨1, by omega, gm1, rfl, by simp [sumTo], rfl⟩
                  case round =>
                    obtain ⟨u, hu1, hu2, rfl, rfl, rfl⟩ := hrel
                    have hs1 := sumTo_hi y (u - 1)
                    by_cases hum : u < m
                    · have hs2 := hide (sumTo_pred y u hu1)
                      have hmj := monthN_hi y u
                      have hmm := hide (fun w => hmo.out u w hu1 (by omega))
                      clear hmo HA3 HW HDD
                      generalize sumTo y (u - 1) = p1 at *
                      generalize monthN y u = p2 at *
                      go_wp2_with fail
                      refine (hmm.out _).mono ?_
                      rintro e w' ⟨rfl, h9⟩
                      obtain rfl : W = w' := h9.symm
                      go_wp2_with fail
                      go_roundw
                      case rel => exact ⟨u + 1, by omega, by omega, by go_num, by rw [show u + 1 - 1 = u from by omega, hs2.out]; exact congrArg (Value.int .i64) (by omega), trivial⟩
                      case measure => simp [intOf]; omega
                    · obtain rfl : u = m := by omega
                      have hX : Hid (dayNum y u d * 86400 + ((h * 3600 + n * 60 + s : Nat) : Int) - 60 * zone = 86400 * (D + (sumTo y (u - 1) : Nat) + (d : Int) - 1) + 3600 * (h : Int) + 60 * (n : Int) + (s : Int) - 60 * zone) := by
                        unfold Hid dayNum
                        have := HDD.out
                        omega
                      have hA4 := HA3.out
                      rw [hX.out] at hA4
                      have HA4 := hide hA4
                      have hbt := hide (fun w => between_any (86400 * (D + (sumTo y (u - 1) : Nat) + (d : Int) - 1) + 3600 * (h : Int) + 60 * (n : Int) + (s : Int) - 60 * zone) 0 4102444799 w)
                      clear hA4 HA3 hX HDD hmo hum
                      generalize sumTo y (u - 1) = p1 at *
                      generalize (decide (0 ≤ 86400 * (D + (p1 : Nat) + (d : Int) - 1) + 3600 * (h : Int) + 60 * (n : Int) + (s : Int) - 60 * zone) && decide (86400 * (D + (p1 : Nat) + (d : Int) - 1) + 3600 * (h : Int) + 60 * (n : Int) + (s : Int) - 60 * zone ≤ 4102444799)) = bb at *
                      cases bb
                      · have HA5 := hide ((if_neg (by simp)).symm.trans HA4.out)
                        clear HA4
                        go_wp2_with fail
                        refine (hbt.out _).mono ?_
                        rintro e w' ⟨rfl, h9⟩
                        obtain rfl : W = w' := h9.symm
                        go_wp2_with fail
                        go_ret2
                        exact ⟨by rw [← HA5.out]; rfl, nq, HW.out.symm⟩
                      · have HA5 := hide ((if_pos rfl).symm.trans HA4.out)
                        clear HA4
                        go_wp2_with fail
                        refine (hbt.out _).mono ?_
                        rintro e w' ⟨rfl, h9⟩
                        obtain rfl : W = w' := h9.symm
                        go_wp2_with fail
                        go_ret2
                        exact ⟨by rw [← HA5.out]; rfl, nq, HW.out.symm⟩
end Go.Proofs.YtngojdajamgabadDoor
