/- dayAfter: which day it is, so many days from the beginning of 1970 on. -/
import Derived.Test.YtngojdajamgabadDoorCal2
import Derived.Laws.Rows
import Derived.Laws.ResultCell
namespace Go.Proofs.YtngojdajamgabadDoor
open Go.RowKit

/-- The day y-m-d is the one after so many days. -/
def IsDay (days y m d : Nat) : Prop := 1970 ≤ y ∧ y ≤ 2099 ∧ 1 ≤ m ∧ m ≤ 12 ∧ 1 ≤ d ∧ d ≤ monthN y m ∧ (aheadN y - aheadN 1970) + sumTo y (m - 1) + d = days + 1

theorem ahead_mono : ∀ (a b : Nat), a ≤ b → aheadN a ≤ aheadN b := by
  intro a b h
  induction h with
  | refl => exact Nat.le_refl _
  | step _ ih => rw [ahead_succ]; omega
theorem ahead_2100 (y : Nat) (h : 2100 ≤ y) : aheadN 1970 + 47482 ≤ aheadN y := by
  have h2 : aheadN 1970 + 47482 = aheadN 2100 := by kernel_rfl
  rw [h2]
  exact ahead_mono 2100 y h

/-- A day's three cells. -/
def IsDayAt (w : World) (g : Nat) (y m d : Int) : Prop := w.heap[g]? = some (.cells #[.int .i64 y, .int .i64 m, .int .i64 d] 34 (0, 0))
theorem IsDayAt.lt {w : World} {g : Nat} {y m d : Int} (h : IsDayAt w g y m d) : g < w.heap.size := by
  rcases Nat.lt_or_ge g w.heap.size with h' | h'
  · exact h'
  · rw [IsDayAt, Array.getElem?_eq_none h'] at h; simp at h
theorem IsDayAt.cell0 {w : World} {g : Nat} {y m d : Int} (h : IsDayAt w g y m d) : w.cell? ⟨g, 0, none⟩ = some (.int .i64 y) := by simp [World.cell?, IsDayAt] at h ⊢; simp [h]
theorem IsDayAt.cell1 {w : World} {g : Nat} {y m d : Int} (h : IsDayAt w g y m d) : w.cell? ⟨g, 1, none⟩ = some (.int .i64 m) := by simp [World.cell?, IsDayAt] at h ⊢; simp [h]
theorem IsDayAt.cell2 {w : World} {g : Nat} {y m d : Int} (h : IsDayAt w g y m d) : w.cell? ⟨g, 2, none⟩ = some (.int .i64 d) := by simp [World.cell?, IsDayAt] at h ⊢; simp [h]
theorem IsDayAt.free {w : World} {g : Nat} {y m d : Int} (h : IsDayAt w g y m d) (i : Nat) (hi : i < 3) : w.frozen? ⟨g, i, none⟩ = false := by
  obtain rfl | rfl | rfl : i = 0 ∨ i = 1 ∨ i = 2 := by omega
  all_goals (simp [World.frozen?, IsDayAt] at h ⊢; simp [h])
theorem IsDayAt.set0 {w : World} {g : Nat} {y m d : Int} (h : IsDayAt w g y m d) (x : Int) : IsDayAt (w.setCell ⟨g, 0, none⟩ (.int .i64 x)) g x m d := by
  simp [World.setCell, IsDayAt, Array.getElem?_modify] at h ⊢; simp [h]
theorem IsDayAt.set1 {w : World} {g : Nat} {y m d : Int} (h : IsDayAt w g y m d) (x : Int) : IsDayAt (w.setCell ⟨g, 1, none⟩ (.int .i64 x)) g y x d := by
  simp [World.setCell, IsDayAt, Array.getElem?_modify] at h ⊢; simp [h]
theorem IsDayAt.set2 {w : World} {g : Nat} {y m d : Int} (h : IsDayAt w g y m d) (x : Int) : IsDayAt (w.setCell ⟨g, 2, none⟩ (.int .i64 x)) g y m x := by
  simp [World.setCell, IsDayAt, Array.getElem?_modify] at h ⊢; simp [h]
theorem IsDayAt.other {w : World} {g i r : Nat} {y m d : Int} (h : IsDayAt w g y m d) (hn : g ≠ r) (v : Value) : IsDayAt (w.setCell ⟨r, i, none⟩ v) g y m d := by
  rw [IsDayAt, Below.heap_setCell _ _ _ _ hn]; exact h

theorem info34 : (Tryd.prog.info? 34).map (·.size) = some 3 := by kernel_rfl
theorem two_first (w : World) (o1 o2 : Obj) : ((w.alloc o1).alloc o2).heap[w.heap.size]? = some o1 := (Below.heap_alloc (w.alloc o1) o2 w.heap.size (by simp)).trans (heap_alloc_new w o1)
theorem two_second (w : World) (o1 o2 : Obj) : ((w.alloc o1).alloc o2).heap[w.heap.size + 1]? = some o2 := by
  have := heap_alloc_new (w.alloc o1) o2
  rwa [show (w.alloc o1).heap.size = w.heap.size + 1 from by simp] at this

set_option maxRecDepth 100000 in
set_option maxHeartbeats 2000000 in
theorem dayAfter_any (days : Nat) (w : World) (hdays : days ≤ 47481) :
    Calls Tryd.prog 16 #[.int .i64 days] w fun e w' => ∃ y m d : Nat, IsDay days y m d ∧ e = .returned (dayV y m d) ∧ Keeps [] w w' := by
  have hyr := hide (fun y w (h : y ≤ 10000) => daysOfYear_any y w h)
  have hmo := hide (fun y m w (h : y ≤ 10000) (h1 : 1 ≤ m) (h2 : m ≤ 12) => daysOfMonth_any y m w h h1 h2)
  have hlo := hide yearN_lo
  have hsu := hide ahead_succ
  have h21 := hide ahead_2100
  go_enter Tryd.func16, Tryd.ntmps16
  go_wp2_with fail
  go_loopw [0] (fun v wr => ∃ rest y : Nat, v = .int .i64 rest ∧ rest ≤ 47481 ∧ 1970 ≤ y ∧ y ≤ 2099 ∧ Hid (aheadN y + rest = aheadN 1970 + days) ∧ IsDayAt wr w.heap.size 0 0 0 ∧ IsDayAt wr (w.heap.size + 1) y 1 0 ∧ Keeps [] w wr) (fun v _ => (intOf v).toNat)
  case atStart => exact ⟨days, 1970, rfl, hdays, by omega, by omega, hide rfl, two_first _ _ _, two_second _ _ _, ((Keeps.refl _ _).alloc _).alloc _⟩
  case round =>
    obtain ⟨rest, y, rfl, hrest, hy1, hy2, hsum, hD0, hD1, hkp⟩ := hrel
    have c0 := hD1.cell0
    have f0 := hD1.free 0 (by omega)
    have hyc := hide (fun w => hyr.out y w (by omega))
    have hl := hlo.out y
    have hs := hide (hsu.out y)
    have h12 := hide (sumTo_12 y)
    clear hyr hsu hlo
    generalize yearN y = n at *
    by_cases hge : n ≤ rest
    · have hy3 : y + 1 ≤ 2099 := by
        rcases Nat.lt_or_ge (y + 1) 2100 with h | h
        · omega
        · have h1 := h21.out _ h; have h2 := hs.out; have h3 := hsum.out; omega
      clear hmo h12 h21
      go_wp2_with fail
      refine (hyc.out _).mono ?_
      rintro e w1 ⟨rfl, rfl⟩
      go_wp2_with fail
      refine (hyc.out _).mono ?_
      rintro e w1 ⟨rfl, rfl⟩
      go_wp2_with fail
      go_roundw
      case rel => exact ⟨rest - n, y + 1, congrArg (Value.int .i64) (by omega), by omega, by omega, hy3, hide (by rw [hs.out]; have := hsum.out; omega), hD0.other (by omega) _, (show ((y + 1 : Nat) : Int) = (y : Int) + 1 from by omega) ▸ hD1.set0 _, hkp.setCell (.inr (by simp)) _⟩
      case measure => simp [intOf]; omega
    · have hlt : rest < n := by omega
      clear h21
      go_wp2_with fail
      refine (hyc.out _).mono ?_
      rintro e w1 ⟨rfl, rfl⟩
      clear hyc c0 f0
      have hkp0 := hkp
      have hD00 := hD0
      go_wp2_with fail
      go_loopw [0] (fun v wr2 => ∃ r2 m : Nat, v = .int .i64 r2 ∧ r2 ≤ 47481 ∧ 1 ≤ m ∧ m ≤ 12 ∧ Hid (sumTo y (m - 1) + r2 = rest) ∧ IsDayAt wr2 w.heap.size 0 0 0 ∧ IsDayAt wr2 (w.heap.size + 1) y m 0 ∧ Keeps [] w wr2) (fun v _ => (intOf v).toNat)
      case atStart => exact ⟨rest, 1, rfl, hrest, by omega, by omega, hide (by simp [sumTo]), hD0, hD1, hkp⟩
      case round =>
        obtain ⟨r2, m, rfl, hr2, hm1, hm2, hsm, hE0, hE1, hkp2⟩ := hrel
        have c0 := hE1.cell0
        have c1 := hE1.cell1
        have c2 := hE1.cell2
        have f1 := hE1.free 1 (by omega)
        have f2 := hE1.free 2 (by omega)
        have a0 := hE0.cell0
        have a1 := hE0.cell1
        have a2 := hE0.cell2
        have b0 := hE0.free 0 (by omega)
        have b1 := hE0.free 1 (by omega)
        have b2 := hE0.free 2 (by omega)
        have hmc := hide (fun w => hmo.out y m w (by omega) hm1 hm2)
        have hlo2 := monthN_lo y m
        have hst := hide (sumTo_pred y m hm1)
        have hday : r2 < monthN y m → Hid (IsDay days y m (r2 + 1)) := fun h => hide ⟨hy1, hy2, hm1, hm2, by omega, by omega, by have h1 := hsum.out; have h2 := hsm.out; have h3 := ahead_mono 1970 y hy1; omega⟩
        clear hD0 hD1 hkp hkp0 hD00
        generalize monthN y m = q at *
        by_cases hge2 : q ≤ r2
        · have hm3 : m + 1 ≤ 12 := by
            rcases Nat.lt_or_ge m 12 with h | h
            · omega
            · obtain rfl : m = 12 := by omega
              have h1 := h12.out; have h2 := hst.out; have h3 := hsm.out; omega
          clear hday h12
          go_wp2_with fail
          refine (hmc.out _).mono ?_
          rintro e w1 ⟨rfl, rfl⟩
          go_wp2_with fail
          refine (hmc.out _).mono ?_
          rintro e w1 ⟨rfl, rfl⟩
          go_wp2_with fail
          go_roundw
          case rel => exact ⟨r2 - q, m + 1, congrArg (Value.int .i64) (by omega), by omega, by omega, hm3, hide (by rw [show m + 1 - 1 = m from by omega, hst.out]; have := hsm.out; omega), hE0.other (by omega) _, (show ((m + 1 : Nat) : Int) = (m : Int) + 1 from by omega) ▸ hE1.set1 _, hkp2.setCell (.inr (by simp)) _⟩
          case measure => simp [intOf]; omega
        · have hd := hday (by omega)
          clear hday h12 hst
          go_wp2_with fail
          refine (hmc.out _).mono ?_
          rintro e w1 ⟨rfl, rfl⟩
          go_wp2_with fail
          have hF : IsDayAt ((((w1.setCell ⟨w.heap.size + 1, 2, none⟩ (.int .i64 ((r2 : Int) + 1))).setCell ⟨w.heap.size, 0, none⟩ (.int .i64 y)).setCell ⟨w.heap.size, 1, none⟩ (.int .i64 m)).setCell ⟨w.heap.size, 2, none⟩ (.int .i64 ((r2 : Int) + 1))) w.heap.size y m ((r2 : Int) + 1) := (((hE0.other (by omega) _).set0 _).set1 _).set2 _
          have hKF := (((hkp2.setCell (p := ⟨w.heap.size + 1, 2, none⟩) (.inr (by simp)) (.int .i64 ((r2 : Int) + 1))).setCell (p := ⟨w.heap.size, 0, none⟩) (.inr (by simp)) (.int .i64 y)).setCell (p := ⟨w.heap.size, 1, none⟩) (.inr (by simp)) (.int .i64 m)).setCell (p := ⟨w.heap.size, 2, none⟩) (.inr (by simp)) (.int .i64 ((r2 : Int) + 1))
          exact ⟨rfl, _, results_cell_row (P := Tryd.prog) rfl _ _ w.heap.size 34 _ (0, 0) _ rfl hF Tryd.underlying34 rfl (info34.trans rfl), y, m, r2 + 1, hd.out, rfl, hKF⟩
end Go.Proofs.YtngojdajamgabadDoor
