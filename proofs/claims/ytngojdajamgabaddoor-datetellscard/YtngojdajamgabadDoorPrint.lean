/- Print: a time as a text. -/
import Derived.Test.YtngojdajamgabadDoorDay
import Derived.Test.YtngojdajamgabadDoorPad
import Derived.Test.YtngojdajamgabadDoorDScan
import Derived.BigRegion
namespace Go.Proofs.YtngojdajamgabadDoor
open Go.RowKit

/-- The text of a time: a day, and the seconds of it. -/
def stamp (y m d c : Nat) : List UInt8 := d4 y ++ [45] ++ d2 m ++ [45] ++ d2 d ++ [84] ++ d2 (c / 3600) ++ [58] ++ d2 (c / 60 % 60) ++ [58] ++ d2 (c % 60) ++ [90]

theorem print_no (a : Int) (w : World) (h : (decide (0 ≤ a) && decide (a ≤ 4102444799)) = false) :
    Calls Tryd.prog 6 #[.int .i64 a] w fun e w' => e = .returned (.tuple #[.string ⟨#[]⟩, .int .i64 3]) ∧ w' = w := by
  have hm := hide (fun w => h ▸ mayBeTold_any a w)
  clear h
  go_enter Tryd.func6, Tryd.ntmps6
  go_wp2_with (go_at_call 15; refine (hm.out _).mono ?_; rintro e w' ⟨rfl, rfl⟩)
  go_ret2
  exact ⟨rfl, rfl⟩

set_option maxRecDepth 100000 in
set_option maxHeartbeats 2000000 in
theorem print_yes (a : Nat) (w : World) (h : a ≤ 4102444799) (htab : ∀ w', Keeps [] w w' → Lib.TabIs Tryd.prog w' "internal/strconv.uint64pow10" .u64 Lib.pow10Tab) :
    Calls Tryd.prog 6 #[.int .i64 a] w fun e w' => ∃ y m d : Nat, IsDay (a / 86400) y m d ∧ e = .returned (.tuple #[.string ⟨(stamp y m d (a % 86400)).toArray⟩, .int .i64 0]) ∧ Keeps [] w w' := by
  have ht : (decide ((0 : Int) ≤ (a : Int)) && decide ((a : Int) ≤ 4102444799)) = true := by simp; omega
  have hm := hide (fun w => ht ▸ mayBeTold_any (a : Int) w)
  have hda := hide (fun w => dayAfter_any (a / 86400) w (by omega))
  have hq : ((a : Int) / 86400) = ((a / 86400 : Nat) : Int) := by omega
  have hr : ((a : Int) % 86400) = ((a % 86400 : Nat) : Int) := by omega
  have hc : a % 86400 ≤ 86399 := by omega
  have HQ := hide hq
  have HR := hide hr
  clear ht hq hr
  go_enter Tryd.func6, Tryd.ntmps6
  go_wp2_with (go_at_call 15; refine (hm.out _).mono ?_; rintro e w9 ⟨rfl, h9⟩; obtain rfl : w = w9 := h9.symm)
  rw [HQ.out]
  refine (hda.out _).mono ?_
  rintro e w1 ⟨y, m, d, hD, rfl, hk1⟩
  unfold dayV
  have hDD := hide hD
  obtain ⟨y1, y2, m1, m2, dd1, dd2, _⟩ := hD
  have dd3 := monthN_hi y m
  have hp4 := hide (fun w2 (h : Keeps [] w w2) => padded4_any y w2 (by omega) (by omega) (htab w2 h))
  have hpm := hide (fun w2 => padded2_any m w2 (by omega))
  have hpd := hide (fun w2 => padded2_any d w2 (by omega))
  have hph := hide (fun w2 => padded2_any (a % 86400 / 3600) w2 (by omega))
  have hpi := hide (fun w2 => padded2_any (a % 86400 / 60 % 60) w2 (by omega))
  have hps := hide (fun w2 => padded2_any (a % 86400 % 60) w2 (by omega))
  have hst := hide (show (⟨(stamp y m d (a % 86400)).toArray⟩ : ByteArray) = ⟨(d4 y).toArray⟩ ++ ⟨#[45]⟩ ++ ⟨(d2 m).toArray⟩ ++ ⟨#[45]⟩ ++ ⟨(d2 d).toArray⟩ ++ ⟨#[84]⟩ ++ ⟨(d2 (a % 86400 / 3600)).toArray⟩ ++ ⟨#[58]⟩ ++ ⟨(d2 (a % 86400 / 60 % 60)).toArray⟩ ++ ⟨#[58]⟩ ++ ⟨(d2 (a % 86400 % 60)).toArray⟩ ++ ⟨#[90]⟩ from by apply ByteArray.ext; simp [stamp])
  have z4 : (⟨(d4 y).toArray⟩ : ByteArray).size = 4 := rfl
  have zm : (⟨(d2 m).toArray⟩ : ByteArray).size = 2 := rfl
  have zd : (⟨(d2 d).toArray⟩ : ByteArray).size = 2 := rfl
  have zh : (⟨(d2 (a % 86400 / 3600)).toArray⟩ : ByteArray).size = 2 := rfl
  have zi : (⟨(d2 (a % 86400 / 60 % 60)).toArray⟩ : ByteArray).size = 2 := rfl
  have zs : (⟨(d2 (a % 86400 % 60)).toArray⟩ : ByteArray).size = 2 := rfl
  clear dd3 hda hm HQ htab y1 y2 m1 m2 dd1 dd2
  generalize (⟨(d4 y).toArray⟩ : ByteArray) = X4 at *
  generalize (⟨(d2 m).toArray⟩ : ByteArray) = Xm at *
  generalize (⟨(d2 d).toArray⟩ : ByteArray) = Xd at *
  generalize (⟨(d2 (a % 86400 / 3600)).toArray⟩ : ByteArray) = Xh at *
  generalize (⟨(d2 (a % 86400 / 60 % 60)).toArray⟩ : ByteArray) = Xi at *
  generalize (⟨(d2 (a % 86400 % 60)).toArray⟩ : ByteArray) = Xs at *
  generalize hcE : a % 86400 = c at *
  have HC := hide hcE
  clear hcE
  go_upto_region 5 with fail
  rw [HR.out]
  have hkA := hk1.alloc (.cells #[.int .i64 y, .int .i64 m, .int .i64 d] 34)
  go_cut [6] from 15 to 27 (fun v wc => v = .string (X4 ++ ⟨#[45]⟩ ++ Xm ++ ⟨#[45]⟩ ++ Xd) ∧ Keeps [] w wc)
  case first =>
    have hG : IsDayAt (w1.alloc (.cells #[.int .i64 y, .int .i64 m, .int .i64 d] 34)) w1.heap.size y m d := heap_alloc_new _ _
    have g0 := hG.cell0
    have g1 := hG.cell1
    have g2 := hG.cell2
    have hcall : Calls Tryd.prog 17 #[.int .i64 y, .int .i64 4] (w1.alloc (.cells #[.int .i64 y, .int .i64 m, .int .i64 d] 34)).drew fun e w' => e = .returned (.string X4) ∧ Keeps [] (w1.alloc (.cells #[.int .i64 y, .int .i64 m, .int .i64 d] 34)) w' := (hp4.out _ hkA.drew).mono fun _ _ h => ⟨h.1, ((Keeps.refl [] _).drew).trans h.2⟩
    have HCL := hide hcall
    clear hcall hp4 hph hpi hps zh zi zs hst HR HC hc h hDD
    generalize hWW : w1.alloc (.cells #[.int .i64 y, .int .i64 m, .int .i64 d] 34) = W at *
    generalize w1.heap.size = G at *
    clear hWW hG hk1
    go_region_with (first
      | (go_at_call 17; with_reducible refine HCL.out.mono ?_; rintro e w5 ⟨rfl, hk5⟩; have j1 := cell_kept hk5 (a := ⟨G, 1, none⟩) (by simp) g1; have j2 := cell_kept hk5 (a := ⟨G, 2, none⟩) (by simp) g2)
      | (go_at_call 17; with_reducible refine (hpm.out _).mono ?_; rintro e w6 ⟨rfl, h6⟩; subst h6)
      | (go_at_call 17; with_reducible refine (hpd.out _).mono ?_; rintro e w6 ⟨rfl, h6⟩; subst h6))
    all_goals go_wp2
    all_goals go_meet
    all_goals exact ⟨rfl, hkA.trans hk5⟩
  case rest =>
    obtain ⟨rfl, hkc⟩ := hcut
    have zD : (X4 ++ ⟨#[45]⟩ ++ Xm ++ ⟨#[45]⟩ ++ Xd).size = 10 := by simp [ByteArray.size_append, z4, zm, zd]; rfl
    generalize (X4 ++ ⟨#[45]⟩ ++ Xm ++ ⟨#[45]⟩ ++ Xd) = D at *
    have q1 : ((c : Int) / 3600) = ((c / 3600 : Nat) : Int) := by omega
    have q2 : ((c : Int) / 60 % 60) = ((c / 60 % 60 : Nat) : Int) := by omega
    have q3 : ((c : Int) % 60) = ((c % 60 : Nat) : Int) := by omega
    have Q1 := hide q1
    have Q2 := hide q2
    have Q3 := hide q3
    clear q1 q2 q3
    go_wp2_with fail
    rw [Q1.out]
    refine (hph.out _).mono ?_
    rintro e w2 ⟨rfl, rfl⟩
    go_wp2_with fail
    rw [Q2.out]
    refine (hpi.out _).mono ?_
    rintro e w2 ⟨rfl, rfl⟩
    go_wp2_with fail
    rw [Q3.out]
    refine (hps.out _).mono ?_
    rintro e w2 ⟨rfl, rfl⟩
    go_wp2_with fail
    go_ret2
    exact ⟨y, m, d, hDD.out, by rw [HC.out, hst.out]; rfl, hkc⟩
end Go.Proofs.YtngojdajamgabadDoor
