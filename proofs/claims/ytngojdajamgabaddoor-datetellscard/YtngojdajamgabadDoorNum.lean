/- Numbers of so many digits, and times of a day. -/
import Derived.Test.YtngojdajamgabadDoorDScan
namespace Go.Proofs.YtngojdajamgabadDoor
open Go.RowKit

/-- So many digits from a place on: the number, and the place behind it. -/
def numL (l : List UInt8) : Nat → Nat → Nat → Option (Nat × Nat)
  | 0, k, a => some (a, k)
  | n + 1, k, a => if k < l.length ∧ digB (l.getD k 0) = true then numL l n (k + 1) (a * 10 + ((l.getD k 0).toNat - 48)) else none
def intR (o : Option (Nat × Nat)) : Option (Value × Nat) := o.map fun p => (.int .i64 (p.1 : Nat), p.2)

theorem numL_bound (l : List UInt8) : ∀ (n k a x k' : Nat), numL l n k a = some (x, k') → x < (a + 1) * 10 ^ n ∧ k' = k + n
  | 0, k, a, x, k', h => by simp [numL] at h; omega
  | n + 1, k, a, x, k', h => by
    unfold numL at h
    split at h
    · rename_i hd
      have := numL_bound l n _ _ x k' h
      have h9 : (l.getD k 0).toNat - 48 ≤ 9 := by have := hd.2; unfold digB at this; generalize l.getD k 0 = c at *; simp at this; omega
      refine ⟨Nat.lt_of_lt_of_le this.1 ?_, by omega⟩
      rw [Nat.pow_succ, ← Nat.mul_assoc, Nat.mul_right_comm]
      exact Nat.mul_le_mul_right _ (by omega)
    · simp at h

set_option maxRecDepth 100000 in
set_option maxHeartbeats 1000000 in
theorem number_any (r b : Nat) (s : ByteArray) (k n : Nat) (w : World) (hs : s.size ≤ 140737488351232) (hT : IsText w b s k) (hk : k ≤ s.size) (hn : n ≤ 4) (hrb : r ≠ b) (hR : w.cell? ⟨r, 0, none⟩ = some (.pointer (some ⟨b, 0, none⟩))) :
    Calls Tryd.prog 29 #[.pointer (some ⟨r, 0, none⟩), .int .i64 n] w fun e w' => Reads b s w (intR (numL s.data.toList n k 0)) e w' := by
  obtain ⟨R, hRR⟩ : ∃ R, numL s.data.toList n k 0 = R := ⟨_, rfl⟩
  have H0 := hide hRR
  rw [hRR]
  clear hRR
  have hrS : (r : Nat) ∉ [b] := by simpa using hrb
  go_enter Tryd.func29, Tryd.ntmps29
  go_wp2_with fail
  go_loopw [5, 8] (fun v i wr => ∃ j a kk : Nat, j ≤ n ∧ i = .int .i64 j ∧ v = .int .i64 a ∧ a ≤ 9999 ∧ Hid (a < 10 ^ j) ∧ IsText wr b s kk ∧ kk ≤ s.size ∧ Keeps [b] w wr ∧ Hid (numL s.data.toList (n - j) kk a = R)) (fun _ i _ => n - (intOf i).toNat)
  case atStart => exact ⟨0, 0, k, by omega, rfl, rfl, by omega, hide (by simp), hT, hk, Keeps.refl _ _, H0⟩
  case round =>
    obtain ⟨j, a, kk, hj, rfl, rfl, ha, ha2, hT', hkk, hkp, hN⟩ := hrel
    have c0 := cell_kept hkp hrS hR
    clear hR hT H0
    by_cases hjn : j < n
    · obtain ⟨m, hm⟩ : ∃ m, n - j = m + 1 := ⟨n - j - 1, by omega⟩
      have hm2 := hide (show n - (j + 1) = m from by omega)
      rw [hm] at hN
      have hNo := hN.out
      unfold numL at hNo
      have hN2 := hide hNo
      clear hN hNo hm
      by_cases hlt : kk < s.size
      · have hone := hide (fun w1 (h : IsText w1 b s kk) => one_yes b s kk w1 hs h hlt)
        have hdg := hide (fun w => digit_any (byteAt s kk) w)
        have hc : (byteAt s kk).toNat < 256 := UInt8.toNat_lt _
        cases hd : digB (byteAt s kk)
        · have hRn := hide (show none = R from (if_neg (fun h => by rw [show s.data.toList.getD kk 0 = byteAt s kk from rfl, hd] at h; simp at h)).symm.trans hN2.out)
          rw [hd] at hdg
          clear hN2 hd
          generalize (byteAt s kk).toNat = c at *
          go_wp2_with fail
          refine (hone.out _ hT').mono ?_
          rintro e w1 ⟨rfl, hT1, hk1⟩
          go_wp2_with fail
          refine (hdg.out _).mono ?_
          rintro e w2 ⟨rfl, rfl⟩
          go_wp2_with (go_at_call 49; refine (giveUp_any _).mono ?_; rintro e w' ⟨rfl, rfl⟩)
          exact ⟨rfl, Reads.no (by rw [← hRn.out]; rfl) hT1 (hkp.trans hk1)⟩
        · have hd2 : 48 ≤ (byteAt s kk).toNat ∧ (byteAt s kk).toNat ≤ 57 := by simpa [digB] using hd
          have hRn := hide (show numL s.data.toList m (kk + 1) (a * 10 + ((byteAt s kk).toNat - 48)) = R from (if_pos ⟨by rw [len_size]; exact hlt, hd⟩).symm.trans hN2.out)
          have hpw : Hid (a * 10 + ((byteAt s kk).toNat - 48) < 10 ^ (j + 1)) := hide (by rw [Nat.pow_succ]; have := ha2.out; omega)
          have hp4 : 10 ^ (j + 1) ≤ 10 ^ 4 := Nat.pow_le_pow_right (by omega) (by omega)
          have hb4 : a * 10 + ((byteAt s kk).toNat - 48) ≤ 9999 := by have := hpw.out; simp at hp4; omega
          rw [hd] at hdg
          clear hN2 hd hp4 ha2
          obtain ⟨hd3, hd4⟩ := hd2
          generalize (byteAt s kk).toNat = c at *
          obtain ⟨g, rfl⟩ : ∃ g, c = 48 + g := ⟨c - 48, by omega⟩
          rw [Nat.add_sub_cancel_left] at hRn hpw hb4
          go_wp2_with fail
          refine (hone.out _ hT').mono ?_
          rintro e w1 ⟨rfl, hT1, hk1⟩
          go_wp2_with fail
          refine (hdg.out _).mono ?_
          rintro e w2 ⟨rfl, rfl⟩
          go_wp2_with fail
          go_roundw
          case rel => exact ⟨j + 1, a * 10 + g, kk + 1, by omega, by go_num, by rw [show ((a : Int) * 10 + (48 + (g : Int) - 48)) = ((a * 10 + g : Nat) : Int) from by omega], hb4, hpw, hT1, by omega, hkp.trans hk1, by rw [hm2.out]; exact hRn⟩
          case measure => simp [intOf]; omega
      · have hone := hide (fun w1 (h : IsText w1 b s kk) => one_no b s kk w1 h (by omega))
        have hRn := hide (show none = R from (if_neg (fun h => by have := h.1; rw [len_size] at this; omega)).symm.trans hN2.out)
        clear hN2
        go_wp2_with fail
        refine (hone.out _ hT').mono ?_
        rintro e w1 ⟨rfl, m', rfl⟩
        go_wp2_with fail
        exact ⟨rfl, Reads.no (by rw [← hRn.out]; rfl) hT' (hkp.drewN _)⟩
    · have hRn := hide (show some (a, kk) = R from by have := hN.out; rw [show n - j = 0 from by omega] at this; exact this)
      clear hN
      go_wp2_with fail
      go_ret
      exact Reads.yes (by rw [← hRn.out]; rfl) hkk hT' hkp

theorem intR_some {o : Option (Nat × Nat)} {v : Value} {k : Nat} (h : intR o = some (v, k)) : ∃ x : Nat, o = some (x, k) ∧ v = .int .i64 x := by
  cases o with
  | none => simp [intR] at h
  | some p => simp [intR] at h; exact ⟨p.1, by rw [← h.2], h.1.symm⟩
theorem intR_none {o : Option (Nat × Nat)} (h : intR o = none) : o = none := by cases o <;> simp [intR] at h ⊢
theorem unitR_some {o : Option Nat} {v : Value} {k : Nat} (h : unitR o = some (v, k)) : o = some k ∧ v = .tuple #[] := by
  cases o with
  | none => simp [unitR] at h
  | some p => simp [unitR] at h; exact ⟨by rw [h.2], h.1.symm⟩
theorem unitR_none {o : Option Nat} (h : unitR o = none) : o = none := by cases o <;> simp [unitR] at h ⊢

def upL (l : List UInt8) (k most : Nat) : Option (Nat × Nat) := (numL l 2 k 0).bind fun p => if p.1 ≤ most then some p else none

set_option maxHeartbeats 400000 in
theorem upTo_any (r b : Nat) (s : ByteArray) (k most : Nat) (w : World) (hs : s.size ≤ 140737488351232) (hT : IsText w b s k) (hk : k ≤ s.size) (hrb : r ≠ b) (hR : w.cell? ⟨r, 0, none⟩ = some (.pointer (some ⟨b, 0, none⟩))) :
    Calls Tryd.prog 50 #[.pointer (some ⟨r, 0, none⟩), .int .i64 most] w fun e w' => Reads b s w (intR (upL s.data.toList k most)) e w' := by
  have hn := hide (number_any r b s k 2 w hs hT hk (by omega) hrb hR)
  have hE := hide (show upL s.data.toList k most = (numL s.data.toList 2 k 0).bind fun p => if p.1 ≤ most then some p else none from rfl)
  generalize numL s.data.toList 2 k 0 = R0 at *
  generalize upL s.data.toList k most = R at *
  go_enter Tryd.func50, Tryd.ntmps50
  go_wp2_with fail
  refine hn.out.mono ?_
  rintro e w1 ⟨⟨v, k', h1, hk', rfl, hT1⟩ | ⟨h1, rfl, j, hT1⟩, hk1⟩
  · obtain ⟨x, rfl, rfl⟩ := intR_some h1
    clear h1 hn
    by_cases hx : x ≤ most
    · have hE2 := hide (hE.out.trans (if_pos hx))
      clear hE
      go_wp2_with fail
      go_ret
      exact Reads.yes (by rw [hE2.out]; rfl) hk' hT1 hk1
    · have hE2 := hide (hE.out.trans (if_neg hx))
      clear hE
      go_wp2_with (go_at_call 49; refine (giveUp_any _).mono ?_; rintro e w' ⟨rfl, rfl⟩)
      exact ⟨rfl, Reads.no (by rw [hE2.out]; rfl) hT1 hk1⟩
  · have h2 := intR_none h1
    subst h2
    go_wp2_with fail
    exact ⟨rfl, Reads.no (by rw [hE.out]; rfl) hT1 hk1⟩

def todL (l : List UInt8) (k : Nat) : Option (Nat × Nat) :=
  (upL l k 23).bind fun h => (mustL l h.2 [58]).bind fun k1 => (upL l k1 59).bind fun m => (mustL l m.2 [58]).bind fun k2 => (upL l k2 59).bind fun x => some (h.1 * 3600 + m.1 * 60 + x.1, x.2)

theorem upL_le {l : List UInt8} {k most x k' : Nat} (h : upL l k most = some (x, k')) : x ≤ most := by
  unfold upL at h
  cases h0 : numL l 2 k 0 with
  | none => rw [h0] at h; simp at h
  | some p =>
    rw [h0] at h
    simp only [Option.bind_some] at h
    split at h
    · simp only [Option.some.injEq] at h; subst h; assumption
    · simp at h

set_option maxRecDepth 100000 in
set_option maxHeartbeats 1000000 in
theorem timeOfDay_any (r b : Nat) (s : ByteArray) (k : Nat) (w : World) (hs : s.size ≤ 140737488351232) (hT : IsText w b s k) (hk : k ≤ s.size) (hrb : r ≠ b) (hR : w.cell? ⟨r, 0, none⟩ = some (.pointer (some ⟨b, 0, none⟩))) :
    Calls Tryd.prog 31 #[.pointer (some ⟨r, 0, none⟩)] w fun e w' => Reads b s w (intR (todL s.data.toList k)) e w' := by
  have hrS : (r : Nat) ∉ [b] := by simpa using hrb
  have hE := hide (show todL s.data.toList k = (upL s.data.toList k 23).bind fun h => (mustL s.data.toList h.2 [58]).bind fun k1 => (upL s.data.toList k1 59).bind fun m => (mustL s.data.toList m.2 [58]).bind fun k2 => (upL s.data.toList k2 59).bind fun x => some (h.1 * 3600 + m.1 * 60 + x.1, x.2) from rfl)
  generalize todL s.data.toList k = R at *
  have h1 := hide (upTo_any r b s k 23 w hs hT hk hrb hR)
  go_enter Tryd.func31, Tryd.ntmps31
  go_wp2_with fail
  refine h1.out.mono ?_
  rintro e w1 ⟨⟨v, k1, hv, hk1, rfl, hT1⟩ | ⟨hv, rfl, j, hT1⟩, hkp1⟩
  case' inr => (rw [intR_none hv] at hE; go_wp2_with fail; exact ⟨rfl, Reads.no (by rw [hE.out]; rfl) hT1 hkp1⟩)
  obtain ⟨x1, hx1, rfl⟩ := intR_some hv
  have hl1 := upL_le hx1
  rw [hx1] at hE
  clear hv hx1 h1
  have c1 := cell_kept hkp1 hrS hR
  have h2 := hide (must_any b s k1 ⟨#[58]⟩ w1 hs hT1 hk1)
  go_wp2_with fail
  refine h2.out.mono ?_
  rintro e w2 ⟨⟨v, k2, hv, hk2, rfl, hT2⟩ | ⟨hv, rfl, j, hT2⟩, hkp2⟩
  case' inr => (have hE' := hE.out; simp only [Option.bind_some] at hE'; rw [unitR_none hv] at hE'; have hE2 := hide hE'; clear hE' hE; go_wp2_with fail; exact ⟨rfl, Reads.no (by rw [hE2.out]; rfl) hT2 (hkp1.trans hkp2)⟩)
  obtain ⟨hx2, rfl⟩ := unitR_some hv
  have hE' := hE.out
  simp only [Option.bind_some] at hE'
  rw [hx2] at hE'
  have hE2 := hide hE'
  clear hv hx2 h2 hE hE'
  have c2 := cell_kept hkp2 hrS c1
  clear c1
  have h3 := hide (upTo_any r b s k2 59 w2 hs hT2 hk2 hrb c2)
  go_wp2_with fail
  refine h3.out.mono ?_
  rintro e w3 ⟨⟨v, k3, hv, hk3, rfl, hT3⟩ | ⟨hv, rfl, j, hT3⟩, hkp3⟩
  case' inr => (have hE' := hE2.out; simp only [Option.bind_some] at hE'; rw [intR_none hv] at hE'; have hE3 := hide hE'; clear hE' hE2; go_wp2_with fail; exact ⟨rfl, Reads.no (by rw [hE3.out]; rfl) hT3 ((hkp1.trans hkp2).trans hkp3)⟩)
  obtain ⟨x3, hx3, rfl⟩ := intR_some hv
  have hl3 := upL_le hx3
  have hE' := hE2.out
  simp only [Option.bind_some] at hE'
  rw [hx3] at hE'
  have hE3 := hide hE'
  clear hv hx3 h3 hE2 hE'
  have c3 := cell_kept hkp3 hrS c2
  clear c2
  have h4 := hide (must_any b s k3 ⟨#[58]⟩ w3 hs hT3 hk3)
  go_wp2_with fail
  refine h4.out.mono ?_
  rintro e w4 ⟨⟨v, k4, hv, hk4, rfl, hT4⟩ | ⟨hv, rfl, j, hT4⟩, hkp4⟩
  case' inr => (have hE' := hE3.out; simp only [Option.bind_some] at hE'; rw [unitR_none hv] at hE'; have hE4 := hide hE'; clear hE' hE3; go_wp2_with fail; exact ⟨rfl, Reads.no (by rw [hE4.out]; rfl) hT4 (((hkp1.trans hkp2).trans hkp3).trans hkp4)⟩)
  obtain ⟨hx4, rfl⟩ := unitR_some hv
  have hE' := hE3.out
  simp only [Option.bind_some] at hE'
  rw [hx4] at hE'
  have hE4 := hide hE'
  clear hv hx4 h4 hE3 hE'
  have c4 := cell_kept hkp4 hrS c3
  clear c3
  have h5 := hide (upTo_any r b s k4 59 w4 hs hT4 hk4 hrb c4)
  go_wp2_with fail
  refine h5.out.mono ?_
  rintro e w5 ⟨⟨v, k5, hv, hk5, rfl, hT5⟩ | ⟨hv, rfl, j, hT5⟩, hkp5⟩
  case' inr => (have hE' := hE4.out; simp only [Option.bind_some] at hE'; rw [intR_none hv] at hE'; have hE5 := hide hE'; clear hE' hE4; go_wp2_with fail; exact ⟨rfl, Reads.no (by rw [hE5.out]; rfl) hT5 ((((hkp1.trans hkp2).trans hkp3).trans hkp4).trans hkp5)⟩)
  obtain ⟨x5, hx5, rfl⟩ := intR_some hv
  have hl5 := upL_le hx5
  have hE' := hE4.out
  simp only [Option.bind_some] at hE'
  rw [hx5] at hE'
  have hE5 := hide hE'
  clear hv hx5 h5 hE4 hE'
  go_wp2_with fail
  go_ret
  exact Reads.yes (by rw [hE5.out]; simp [intR]) hk5 hT5 ((((hkp1.trans hkp2).trans hkp3).trans hkp4).trans hkp5)
end Go.Proofs.YtngojdajamgabadDoor
