/- at: which time it is. -/
import Derived.Test.YtngojdajamgabadDoorWeb
import Derived.Test.YtngojdajamgabadDoorCal2
import Derived.BigRegion
namespace Go.Proofs.YtngojdajamgabadDoor
open Go.RowKit

theorem dayNum_bound (y m d : Nat) (hy : y ≤ 9999) (hm : m ≤ 12) (hd : d ≤ 99) : -800000 ≤ dayNum y m d ∧ dayNum y m d ≤ 3700000 := by
  have h1 := aheadN_hi y (by omega)
  have h2 : aheadN 1970 = 719528 := by kernel_rfl
  have h3 := sumTo_hi y (m - 1)
  unfold dayNum
  rw [h2]
  omega

theorem wrap_in (n : Int) (h1 : -9223372036854775808 ≤ n) (h2 : n ≤ 9223372036854775807) : IntKind.i64.wrap n = n := by
  have h : IntKind.i64.wrap n = wrap64 n := by
    unfold wrap64
    simp only [IntKind.wrap, IntKind.bits, IntKind.signed]
    simp
    omega
  rw [h]
  unfold wrap64
  omega

/-- The time, and the errno, of what was read. -/
def ansL (R : Option Stamp) (n : Nat) : Int × Int :=
  match R with
  | none => (0, 1)
  | some (y, m, d, c, a, k) => if k < n then (0, 1) else if standsB y m d = true then (if (decide (0 ≤ dayNum y m d * 86400 + c - a) && decide (dayNum y m d * 86400 + c - a ≤ 4102444799)) = true then (dayNum y m d * 86400 + c - a, 0) else (0, 3)) else (0, 3)
def BoundR (R : Option Stamp) : Prop := ∀ y m d c a k, R = some (y, m, d, c, a, k) → y ≤ 9999 ∧ m ≤ 99 ∧ d ≤ 99 ∧ c ≤ 86399 ∧ -86400 < a ∧ a < 86400
def ansV (p : Int × Int) : Value := .tuple #[.int .i64 p.1, .int .i64 p.2]

set_option maxRecDepth 100000 in
set_option maxHeartbeats 2000000 in
theorem at_any (K : Nat) (R : Option Stamp) (r b : Nat) (s : ByteArray) (w : World) (hT : IsText w b s 0) (hrb : r ≠ b) (hD : IsRd w r b 0 0 0 0 0) (hK : Enters K) (hB : BoundR R)
    (hread : ∀ w1, Keeps [] w w1 → Calls Tryd.prog K #[.pointer (some ⟨r, 0, none⟩)] w1 fun e w2 => Reader r b s w1 R e w2) :
    Calls Tryd.prog 12 #[.pointer (some ⟨r, 0, none⟩), .func (.func K) #[.pointer (some ⟨r, 0, none⟩)] #[]] w fun e w' => e = .returned (ansV (ansL R s.size)) ∧ Keeps [b, r] w w' := by
  have c0 := hD.cell0
  have ht := hide (try_first K (.pointer (some ⟨r, 0, none⟩)) (fun w2 => ∃ (y m d c : Nat) (a : Int) (k : Nat), R = some (y, m, d, c, a, k) ∧ IsRd w2 r b y m d c a ∧ IsText w2 b s k) (fun _ => R = none) [b, r] b s 0 w hT hK (by simp) (fun i hi => by simp at hi; rcases hi with rfl | rfl; exact hT.lt; exact hD.lt) (fun _ _ h _ => h)
    (fun w1 h1 => (hread w1 h1).mono fun e w2 h => ⟨by
      rcases h.1 with ⟨y, m, d, c, a, k, h1, _, h3, h4, h5⟩ | ⟨h1, h2, j, h3⟩
      · exact .inl ⟨h3, y, m, d, c, a, k, h1, h4, h5⟩
      · exact .inr ⟨h2, h1, j, h3⟩, h.2⟩))
  clear hread hT
  obtain ⟨A, hA⟩ : ∃ A, ansL R s.size = A := ⟨_, rfl⟩
  have HA := hide hA
  rw [hA]
  clear hA
  unfold ansV
  go_enter Tryd.func12, Tryd.ntmps12
  go_wp2_with fail
  refine ht.out.mono ?_
  rintro e w1 ⟨⟨rfl, y, m, d, c, a, k, rfl, hD1, hT1⟩ | ⟨rfl, rfl, hT1⟩, hk1⟩
  · obtain ⟨b1, b2, b3, b4, b5, b6⟩ := hB y m d c a k rfl
    have e0 := hD1.cell0
    have e1 := hD1.cell1
    have e2 := hD1.cell2
    have e3 := hD1.cell3
    have e4 := hD1.cell4
    have e5 := hD1.cell5
    have hdn := hide (fun w1 (h : IsText w1 b s k) => done_any b s k w1 h)
    clear ht c0 hD hB
    by_cases hks : k < s.size
    · have hd : decide (s.size ≤ k) = false := by simp; omega
      have HA2 := hide ((if_pos hks).symm.trans HA.out)
      clear HA
      go_wp2_with fail
      refine (hdn.out _ hT1).mono ?_
      rintro e w2 ⟨rfl, n, rfl⟩
      go_wp2_with fail
      go_ret2
      exact ⟨by rw [← HA2.out]; rfl, hk1.drewN _⟩
    · have hd : decide (s.size ≤ k) = true := by simp; omega
      have HA2 := hide ((if_neg hks).symm.trans HA.out)
      clear HA
      have hst := hide (fun w => stands_any y m d w (by omega) (by omega) (by omega))
      unfold dayV at hst
      have hsm : standsB y m d = true → 1 ≤ m ∧ m ≤ 12 := fun h => by simp [standsB] at h; omega
      have h24 := hide (fun (h : 1 ≤ m ∧ m ≤ 12) w => number24_any y m d w (by omega) h.1 h.2 (by omega))
      unfold dayV at h24
      have hdb := hide (fun (h : 1 ≤ m ∧ m ≤ 12) => dayNum_bound y m d (by omega) h.2 (by omega))
      generalize standsB y m d = t at *
      generalize dayNum y m d = D at *
      cases t
      · have HA3 := hide ((if_neg (by simp)).symm.trans HA2.out)
        clear HA2 h24 hdb hsm
        go_wp2_with fail
        refine (hdn.out _ hT1).mono ?_
        rintro e w2 ⟨rfl, n, rfl⟩
        go_wp2_with fail
        refine (hst.out _).mono ?_
        rintro e w3 ⟨rfl, hk3⟩
        go_wp2_with fail
        go_ret2
        exact ⟨by rw [← HA3.out]; rfl, (hk1.drewN n).trans (hk3.mono (by simp))⟩
      · have HA3 := hide ((if_pos rfl).symm.trans HA2.out)
        have hm12 := hsm rfl
        obtain ⟨d1, d2⟩ := hdb.out hm12
        have h25 := hide (h24.out hm12)
        clear HA2 h24 hdb hsm hm12
        go_wp2_with fail
        refine (hdn.out _ hT1).mono ?_
        rintro e w2 ⟨rfl, n, rfl⟩
        go_wp2_with fail
        refine (hst.out _).mono ?_
        rintro e w3 ⟨rfl, hk3⟩
        have hk03 : Keeps [b, r] w w3 := (hk1.drewN n).trans (hk3.mono (by simp))
        have hD3 : IsRd w3 r b y m d c a := (show IsRd (w1.drewN n) r b y m d c a from hD1).keeps hk3 (by simp)
        have i1 := hD3.cell1
        have i2 := hD3.cell2
        have i3 := hD3.cell3
        have i4 := hD3.cell4
        have i5 := hD3.cell5
        have hkk : ∀ w5 w6, Keeps [] (World.drewN w3 w6) w5 → w5.cell? ⟨r, 4, none⟩ = some (.int .i64 c) ∧ w5.cell? ⟨r, 5, none⟩ = some (.int .i64 a) := fun w5 w6 h => ⟨cell_kept h (by simp) i4, cell_kept h (by simp) i5⟩
        go_upto_region 5 with fail
        go_cut [6] from 28 to 43 (fun v wc => v = .int .i64 (D * 86400 + c - a) ∧ Keeps [b, r] w wc)
        case first =>
          go_region_with (go_at_call 28; refine (h25.out _).mono ?_; rintro e w5 ⟨rfl, hk5⟩; have j4 := cell_kept hk5 (a := ⟨r, 4, none⟩) (by simp) i4; have j5 := cell_kept hk5 (a := ⟨r, 5, none⟩) (by simp) i5)
          all_goals go_wp2
          all_goals go_meet
          all_goals exact ⟨congrArg (Value.int .i64) (by rw [wrap_in (D * 86400) (by omega) (by omega), wrap_in (D * 86400 + (c : Int)) (by omega) (by omega), wrap_in (D * 86400 + (c : Int) - a) (by omega) (by omega)]), hk03.trans (((Keeps.refl [] w3).drewN _).trans hk5 |>.mono (by simp))⟩
        case rest =>
          obtain ⟨rfl, hkc⟩ := hcut
          have hmb := hide (fun w => mayBeTold_any (D * 86400 + c - a) w)
          generalize D * 86400 + (c : Int) - a = X at *
          generalize (decide (0 ≤ X) && decide (X ≤ 4102444799)) = u at *
          cases u
          · have HA4 := hide ((if_neg (by simp)).symm.trans HA3.out)
            clear HA3
            go_wp2_with (go_at_call 15; refine (hmb.out _).mono ?_; rintro e w' ⟨rfl, rfl⟩)
            go_ret2
            exact ⟨by rw [← HA4.out]; rfl, hkc⟩
          · have HA4 := hide ((if_pos rfl).symm.trans HA3.out)
            clear HA3
            go_wp2_with (go_at_call 15; refine (hmb.out _).mono ?_; rintro e w' ⟨rfl, rfl⟩)
            go_ret2
            exact ⟨by rw [← HA4.out]; rfl, hkc⟩
  · have HA2 := hide (show ((0 : Int), (1 : Int)) = A from HA.out)
    clear HA
    go_wp2_with fail
    go_ret2
    exact ⟨by rw [← HA2.out]; rfl, hk1⟩
end Go.Proofs.YtngojdajamgabadDoor
