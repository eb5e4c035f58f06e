/- The document's answer for dates: digitsOf, DateOf. -/
import Derived.Test.YtngojdajamgabadDoorDRefB
import Derived.BigRegion
namespace Go.Proofs.YtngojdajamgabadDoor
open Go.RowKit

theorem conv_at (W : World) (g : Nat) (n : Nat) (hn : n < 10) (h : W.cell? ⟨g, 0, none⟩ = some (.int .u8 (48 + (n : Int)))) : (convert 59 9 (.slice (some ⟨g, 0, none⟩) 1 1)).run Tryd.prog W = .ok (.string ⟨#[dg n]⟩) W :=
  run_convert_bytes_back W 59 9 5 ⟨g, 0, none⟩ 1 [dg n] Tryd.underlying59 Tryd.underlying5 Tryd.underlying9 (fun j hj => by
    have : j = 0 := by simp at hj; exact hj
    subst this
    have e0 : (⟨g, 0, none⟩ : Addr).add 0 = ⟨g, 0, none⟩ := by simp [Addr.add]
    rw [e0, h]
    simp [dg_nat n hn])
theorem conv_new (W : World) (n : Nat) (hn : n < 10) : (convert 59 9 (.slice (some ⟨W.heap.size, 0, none⟩) 1 1)).run Tryd.prog (W.alloc (.cells #[.int .u8 (48 + (n : Int))] 5)) = .ok (.string ⟨#[dg n]⟩) (W.alloc (.cells #[.int .u8 (48 + (n : Int))] 5)) :=
  conv_at _ _ n hn (by rw [Lib.cell_of_heap (heap_alloc_new W _)]; rfl)

/-- The last digits of a number. -/
def digL (n : Nat) : Nat → List UInt8
  | 0 => []
  | k + 1 => digL (n / 10) k ++ [dg (n % 10)]
theorem digL_two (n : Nat) (h : n < 100) : digL n 2 = d2 n := by
  simp only [digL, List.nil_append, List.cons_append, d2]
  rw [show n / 10 % 10 = n / 10 from by omega]
theorem digL_four (n : Nat) (h : n < 10000) : digL n 4 = d4 n := by
  simp only [digL, List.nil_append, List.cons_append, d4]
  rw [show n / 10 / 10 / 10 % 10 = n / 1000 from by omega, show n / 10 / 10 % 10 = n / 100 % 10 from by omega]

theorem digL_len (n : Nat) : ∀ k, (digL n k).length = k
  | 0 => rfl
  | k + 1 => by rw [digL, List.length_append, digL_len (n / 10) k]; rfl

set_option maxRecDepth 8000 in
set_option maxHeartbeats 4000000 in
theorem digitsOf_any : ∀ (k n : Nat) (w : World), n ≤ 100000 → k ≤ 4 → Calls Tryd.prog 24 #[.int .i64 n, .int .i64 k] w fun e w' => e = .returned (.string ⟨(digL n k).toArray⟩) ∧ Keeps [] w w'
  | 0, n, w, hn, _ => by
    go_enter Tryd.func24, Tryd.ntmps24
    go_wp2_with fail
    go_ret
    exact ⟨rfl, Keeps.refl _ _⟩
  | k + 1, n, w, hn, hk => by
    have ih := hide (fun W => digitsOf_any k (n / 10) W (by omega) (by omega))
    have hq : ((n / 10 : Nat) : Int) = (n : Int) / 10 := by omega
    have hr : ((n % 10 : Nat) : Int) = (n : Int) % 10 := by omega
    have hc1 := hide (fun W => conv_new W (n % 10) (by omega))
    have hc2 := hide (fun W g h => conv_at W g (n % 10) (by omega) h)
    rw [hq] at ih
    rw [hr] at hc1 hc2
    have hkk : (((k + 1 : Nat) : Int) - 1) = (k : Int) := by omega
    have e1 : Hid ((⟨(digL n (k + 1)).toArray⟩ : ByteArray) = ⟨(digL (n / 10) k).toArray⟩ ++ ⟨#[dg (n % 10)]⟩) := by apply ByteArray.ext; simp [digL]
    have z1 : (⟨(digL (n / 10) k).toArray⟩ : ByteArray).size = k := digL_len (n / 10) k
    rw [e1.out]
    clear e1 hq hr
    generalize (⟨(digL (n / 10) k).toArray⟩ : ByteArray) = S at *
    generalize dg (n % 10) = c at *
    go_enter Tryd.func24, Tryd.ntmps24
    go_wp2_with fail
    have hA := hc2.out ((w.alloc (.cells #[.int .u8 (48 + (n : Int) % 10)] 5)).drew) w.heap.size (by show (w.alloc _).cell? _ = _; rw [Lib.cell_of_heap (heap_alloc_new w _)]; rfl)
    have g1 : IntKind.i64.wrap ((n : Int) / 10) = (n : Int) / 10 := wrap_in _ (by omega) (by omega)
    have g2 : IntKind.i64.wrap (k : Int) = (k : Int) := wrap_in _ (by omega) (by omega)
    have g3 : Int.tmod (n : Int) 10 = (n : Int) % 10 := Int.tmod_eq_emod_of_nonneg (by omega)
    have g4 : IntKind.i64.wrap (48 + (n : Int) % 10) = 48 + (n : Int) % 10 := wrap_in _ (by omega) (by omega)
    have g5 : IntKind.u8.wrap (48 + (n : Int) % 10) = 48 + (n : Int) % 10 := by simp only [IntKind.wrap, IntKind.bits, IntKind.signed]; simp; omega
    have hcl : Hid (∀ (o : Obj), Calls Tryd.prog 24 #[.int .i64 ((n : Int) / 10), .int .i64 (k : Int)] ((w.alloc o).drew) fun e w' => e = .returned (.string S) ∧ Keeps [] (w.alloc o) w') := fun o => (ih.out _).mono fun e w' h => ⟨h.1, ((Keeps.refl [] _).drew).trans h.2⟩
    go_region_with (first
      | (go_at_call 24; with_reducible refine (ih.out w.drew).mono ?_; rintro e w5 ⟨rfl, hk5⟩; have hB := hc1.out w5)
      | (go_at_call 24; refine (hcl.out _).mono ?_; rintro e w5 ⟨rfl, hk5⟩; have hC := hc2.out w5 w.heap.size (cell_kept hk5 (by simp) (by rw [Lib.cell_of_heap (heap_alloc_new w _)]; rfl))))
    all_goals
      go_wp2
      go_ret
      exact ⟨rfl, by first | exact ((((Keeps.refl [] w).drew).trans hk5).alloc _) | exact ((Keeps.refl [] w).alloc _).trans hk5⟩

theorem two_dig (n : Nat) (x : Int) (h : n < 100) (hx : x = n) (W : World) : Calls Tryd.prog 24 #[.int .i64 x, .int .i64 2] W fun e w' => e = .returned (.string ⟨(d2 n).toArray⟩) ∧ Keeps [] W w' := by
  subst hx
  have := digitsOf_any 2 n W (by omega) (by omega)
  rw [digL_two n h] at this
  exact this
theorem four_dig (n : Nat) (h : n < 10000) (W : World) : Calls Tryd.prog 24 #[.int .i64 n, .int .i64 4] W fun e w' => e = .returned (.string ⟨(d4 n).toArray⟩) ∧ Keeps [] W w' := by
  have := digitsOf_any 4 n W (by omega) (by omega)
  rw [digL_four n h] at this
  exact this

set_option maxRecDepth 8000 in
set_option maxHeartbeats 8000000 in
theorem DateOf_any (a : Nat) (w : World) (ha : a ≤ 4102444799) :
    Calls Tryd.prog 9 #[.int .i64 a] w fun e w' => ∃ y m d : Nat, IsDay (a / 86400) y m d ∧ e = .returned (.string ⟨(stamp y m d (a % 86400)).toArray⟩) ∧ Keeps [] w w' := by
  have hyr := hide (fun y w (h : y ≤ 10000) => yearLong_any y w h)
  have hmo := hide (fun y m w (h : y ≤ 10000) (h1 : 1 ≤ m) (h2 : m ≤ 12) => monthLong_any y m w h h1 h2)
  have hlo := hide yearN_lo
  have hsu := hide ahead_succ
  have h21 := hide ahead_2100
  have HQ := hide (show ((a : Int) / 86400) = ((a / 86400 : Nat) : Int) from by omega)
  have HR := hide (show ((a : Int) % 86400) = ((a % 86400 : Nat) : Int) from by omega)
  have hdays : a / 86400 ≤ 47481 := by omega
  have hc : a % 86400 ≤ 86399 := by omega
  go_enter Tryd.func9, Tryd.ntmps9
  go_wp2_with fail
  rw [HQ.out]
  generalize hDD : a / 86400 = days at *
  have HDD := hide hDD
  clear hDD
  go_loopw [3, 4] (fun v i wr => ∃ rest y : Nat, v = .int .i64 rest ∧ i = .int .i64 y ∧ rest ≤ 47481 ∧ 1970 ≤ y ∧ y ≤ 2099 ∧ Hid (aheadN y + rest = aheadN 1970 + days) ∧ w = wr) (fun v _ _ => (intOf v).toNat)
  case atStart => exact ⟨days, 1970, rfl, rfl, hdays, by omega, by omega, hide rfl, rfl⟩
  case round =>
    obtain ⟨rest, y, rfl, rfl, hrest, hy1, hy2, hsum, rfl⟩ := hrel
    have hyc := hide (fun w => hyr.out y w (by omega))
    have hl := hlo.out y
    have hs := hide (hsu.out y)
    have h12 := hide (sumTo_12 y)
    clear hyr hsu hlo
    generalize yearN y = n at *
    by_cases hge : n ≤ rest
    · have hy3 : y + 1 ≤ 2099 := by
        rcases Nat.lt_or_ge (y + 1) 2100 with h | h
        · omega
        · have h1 := h21.out _ h; have h2 := hs.out; have h3 := hsum.out; omega
      clear hmo h12 h21
      go_wp2_with fail
      refine (hyc.out _).mono ?_
      rintro e w1 ⟨rfl, h9⟩
      obtain rfl : w = w1 := h9.symm
      go_wp2_with fail
      refine (hyc.out _).mono ?_
      rintro e w1 ⟨rfl, h9⟩
      obtain rfl : w = w1 := h9.symm
      go_wp2_with fail
      go_roundw
      case rel => exact ⟨rest - n, y + 1, congrArg (Value.int .i64) (by omega), by go_num, by omega, by omega, hy3, hide (by rw [hs.out]; have := hsum.out; omega), trivial⟩
      case measure => simp [intOf]; omega
    · have hlt : rest < n := by omega
      clear h21
      go_wp2_with fail
      refine (hyc.out _).mono ?_
      rintro e w1 ⟨rfl, h9⟩
      obtain rfl : w = w1 := h9.symm
      clear hyc
      go_wp2_with fail
      go_loopw [3, 5] (fun v i wr => ∃ r2 m : Nat, v = .int .i64 r2 ∧ i = .int .i64 m ∧ r2 ≤ 47481 ∧ 1 ≤ m ∧ m ≤ 12 ∧ Hid (sumTo y (m - 1) + r2 = rest) ∧ w = wr) (fun v _ _ => (intOf v).toNat)
      case atStart => exact ⟨rest, 1, rfl, rfl, hrest, by omega, by omega, hide (by simp [sumTo]), rfl⟩
      case round =>
        obtain ⟨r2, m, rfl, rfl, hr2, hm1, hm2, hsm, rfl⟩ := hrel
        have hmc := hide (fun w => hmo.out y m w (by omega) hm1 hm2)
        have hlo2 := monthN_lo y m
        have hhi2 := monthN_hi y m
        have hst := hide (sumTo_pred y m hm1)
        have hday : r2 < monthN y m → Hid (IsDay days y m (r2 + 1)) := fun h => hide ⟨hy1, hy2, hm1, hm2, by omega, by omega, by have h1 := hsum.out; have h2 := hsm.out; have h3 := ahead_mono 1970 y hy1; omega⟩
        generalize monthN y m = q at *
        by_cases hge2 : q ≤ r2
        · have hm3 : m + 1 ≤ 12 := by
            rcases Nat.lt_or_ge m 12 with h | h
            · omega
            · obtain rfl : m = 12 := by omega
              have h1 := h12.out; have h2 := hst.out; have h3 := hsm.out; omega
          clear hday h12
          go_wp2_with fail
          refine (hmc.out _).mono ?_
          rintro e w1 ⟨rfl, h9⟩
          obtain rfl : w = w1 := h9.symm
          go_wp2_with fail
          refine (hmc.out _).mono ?_
          rintro e w1 ⟨rfl, h9⟩
          obtain rfl : w = w1 := h9.symm
          go_wp2_with fail
          go_roundw
          case rel => exact ⟨r2 - q, m + 1, congrArg (Value.int .i64) (by omega), by go_num, by omega, by omega, hm3, hide (by rw [show m + 1 - 1 = m from by omega, hst.out]; have := hsm.out; omega), trivial⟩
          case measure => simp [intOf]; omega
        · have hd := hday (by omega)
          clear hday h12 hst hsm hsum
          have hst := hide (show (⟨(stamp y m (r2 + 1) (a % 86400)).toArray⟩ : ByteArray) = ⟨(d4 y).toArray⟩ ++ ⟨#[45]⟩ ++ ⟨(d2 m).toArray⟩ ++ ⟨#[45]⟩ ++ ⟨(d2 (r2 + 1)).toArray⟩ ++ ⟨#[84]⟩ ++ ⟨(d2 (a % 86400 / 3600)).toArray⟩ ++ ⟨#[58]⟩ ++ ⟨(d2 (a % 86400 / 60 % 60)).toArray⟩ ++ ⟨#[58]⟩ ++ ⟨(d2 (a % 86400 % 60)).toArray⟩ ++ ⟨#[90]⟩ from by apply ByteArray.ext; simp [stamp])
          have HDD2 := hide (show IsDay (a / 86400) y m (r2 + 1) from HDD.out ▸ hd.out)
          clear hd
          generalize hcE : a % 86400 = c at *
          have HC := hide hcE
          clear hcE
          have k1 := hide (fun W => four_dig y (by omega) W)
          have k2 := hide (fun W => two_dig m (m : Int) (by omega) rfl W)
          have k3 := hide (fun W => two_dig (r2 + 1) ((r2 : Int) + 1) (by omega) (by omega) W)
          have k4 := hide (fun W => two_dig (c / 3600) ((c : Int) / 3600) (by omega) (by omega) W)
          have k5 := hide (fun W => two_dig (c / 60 % 60) ((c : Int) % 3600 / 60) (by omega) (by omega) W)
          have k6 := hide (fun W => two_dig (c % 60) ((c : Int) % 60) (by omega) (by omega) W)
          have z4 : (⟨(d4 y).toArray⟩ : ByteArray).size = 4 := rfl
          have zm : (⟨(d2 m).toArray⟩ : ByteArray).size = 2 := rfl
          have zd : (⟨(d2 (r2 + 1)).toArray⟩ : ByteArray).size = 2 := rfl
          have zh : (⟨(d2 (c / 3600)).toArray⟩ : ByteArray).size = 2 := rfl
          have zi : (⟨(d2 (c / 60 % 60)).toArray⟩ : ByteArray).size = 2 := rfl
          have zs : (⟨(d2 (c % 60)).toArray⟩ : ByteArray).size = 2 := rfl
          generalize (⟨(d4 y).toArray⟩ : ByteArray) = X4 at *
          generalize (⟨(d2 m).toArray⟩ : ByteArray) = Xm at *
          generalize (⟨(d2 (r2 + 1)).toArray⟩ : ByteArray) = Xd at *
          generalize (⟨(d2 (c / 3600)).toArray⟩ : ByteArray) = Xh at *
          generalize (⟨(d2 (c / 60 % 60)).toArray⟩ : ByteArray) = Xi at *
          generalize (⟨(d2 (c % 60)).toArray⟩ : ByteArray) = Xs at *
          clear hmo HQ HDD
          go_wp2_with fail
          refine (hmc.out _).mono ?_
          rintro e w1 ⟨rfl, h9⟩
          obtain rfl : w = w1 := h9.symm
          go_wp2_with fail
          rw [HR.out]
          refine (k1.out _).mono ?_
          rintro e w1 ⟨rfl, hk1⟩
          go_wp2_with fail
          refine (k2.out _).mono ?_
          rintro e w2 ⟨rfl, hk2⟩
          go_wp2_with fail
          refine (k3.out _).mono ?_
          rintro e w3 ⟨rfl, hk3⟩
          go_wp2_with fail
          refine (k4.out _).mono ?_
          rintro e w4 ⟨rfl, hk4⟩
          go_wp2_with fail
          refine (k5.out _).mono ?_
          rintro e w5 ⟨rfl, hk5⟩
          go_wp2_with fail
          refine (k6.out _).mono ?_
          rintro e w6 ⟨rfl, hk6⟩
          go_wp2_with fail
          go_ret
          exact ⟨y, m, r2 + 1, HDD2.out, by rw [HC.out, hst.out]; rfl, ((((hk1.trans hk2).trans hk3).trans hk4).trans hk5).trans hk6⟩
end Go.Proofs.YtngojdajamgabadDoor
