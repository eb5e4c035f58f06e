/- What is ahead of UTC; a day of one digit or two. -/
import Derived.Test.YtngojdajamgabadDoorNum
namespace Go.Proofs.YtngojdajamgabadDoor
open Go.RowKit

def sintR (o : Option (Int × Nat)) : Option (Value × Nat) := o.map fun p => (.int .i64 p.1, p.2)
theorem sintR_some {o : Option (Int × Nat)} {v : Value} {k : Nat} (h : sintR o = some (v, k)) : ∃ x : Int, o = some (x, k) ∧ v = .int .i64 x := by
  cases o with
  | none => simp [sintR] at h
  | some p => simp [sintR] at h; exact ⟨p.1, by rw [← h.2], h.1.symm⟩
theorem sintR_none {o : Option (Int × Nat)} (h : sintR o = none) : o = none := by cases o <;> simp [sintR] at h ⊢

def offTail (l : List UInt8) (k : Nat) (mark : List UInt8) : Option (Nat × Nat) :=
  (upL l k 23).bind fun h => (mustL l h.2 mark).bind fun k1 => (upL l k1 59).bind fun m => some (h.1 * 3600 + m.1 * 60, m.2)
def offL (l : List UInt8) (k : Nat) (mark : List UInt8) : Option (Int × Nat) :=
  if stL l k [45] = true then (offTail l (k + 1) mark).map fun p => (-(p.1 : Int), p.2)
  else (mustL l k [43]).bind fun k1 => (offTail l k1 mark).map fun p => ((p.1 : Int), p.2)

set_option maxRecDepth 100000 in
set_option maxHeartbeats 1000000 in
theorem offset_any (r b : Nat) (s : ByteArray) (k : Nat) (p : ByteArray) (w : World) (hs : s.size ≤ 140737488351232) (hT : IsText w b s k) (hk : k ≤ s.size) (hrb : r ≠ b) (hR : w.cell? ⟨r, 0, none⟩ = some (.pointer (some ⟨b, 0, none⟩))) :
    Calls Tryd.prog 33 #[.pointer (some ⟨r, 0, none⟩), .string p] w fun e w' => Reads b s w (sintR (offL s.data.toList k p.data.toList)) e w' := by
  have hrS : (r : Nat) ∉ [b] := by simpa using hrb
  have hE := hide (show offL s.data.toList k p.data.toList = if stL s.data.toList k [45] = true then (offTail s.data.toList (k + 1) p.data.toList).map fun p => (-(p.1 : Int), p.2)
    else (mustL s.data.toList k [43]).bind fun k1 => (offTail s.data.toList k1 p.data.toList).map fun p => ((p.1 : Int), p.2) from rfl)
  generalize offL s.data.toList k p.data.toList = R at *
  have hp := hide (passed_any b s k ⟨#[45]⟩ w hs hT hk)
  have hlen : Hid (stL s.data.toList k [45] = true → k + 1 ≤ s.size) := hide (fun h => by have := stL_len h (by rw [len_size]; exact hk); rw [len_size] at this; exact this)
  have hq : (⟨#[45]⟩ : ByteArray).data.toList = [45] := rfl
  rw [hq] at hp
  generalize stL s.data.toList k [45] = t at *
  go_enter Tryd.func33, Tryd.ntmps33
  go_wp2_with fail
  refine hp.out.mono ?_
  rintro e w0 ⟨rfl, hT0, hK0⟩
  have c0 := cell_kept hK0 hrS hR
  clear hR hp hT
  cases t
  · have hT0 : IsText w0 b s k := hT0
    have hE0 := hide (hE.out.trans (if_neg (by simp)))
    clear hE hlen
    have h1 := hide (must_any b s k ⟨#[43]⟩ w0 hs hT0 hk)
    go_wp2_with fail
    refine h1.out.mono ?_
    rintro e w1 ⟨⟨v, k1, hv, hk1, rfl, hT1⟩ | ⟨hv, rfl, j, hT1⟩, hkp1⟩
    case' inr => (have hE' := hE0.out; (try simp only [Option.bind_some] at hE'); rw [unitR_none hv] at hE'; have hE1 := hide hE'; clear hE' hE0; go_wp2_with fail; exact ⟨rfl, Reads.no (by rw [hE1.out]; rfl) hT1 (hK0.trans (hkp1.mono (by simp)))⟩)
    obtain ⟨hx1, rfl⟩ := unitR_some hv
    unfold offTail at hE0
    have hE' := hE0.out
    try simp only [Option.bind_some] at hE'
    rw [hx1] at hE'
    have hE1 := hide hE'
    clear hv hx1 h1 hE0 hE'
    have hK1 := hK0.trans (hkp1.mono (by simp))
    have c1 := cell_kept hkp1 hrS c0
    clear c0
    have h2 := hide (upTo_any r b s k1 23 w1 hs hT1 hk1 hrb c1)
    go_wp2_with fail
    refine h2.out.mono ?_
    rintro e w2 ⟨⟨v, k2, hv, hk2, rfl, hT2⟩ | ⟨hv, rfl, j, hT2⟩, hkp2⟩
    case' inr => (have hE' := hE1.out; (try simp only [Option.bind_some] at hE'); rw [intR_none hv] at hE'; have hE2 := hide hE'; clear hE' hE1; go_wp2_with fail; exact ⟨rfl, Reads.no (by rw [hE2.out]; rfl) hT2 (hK1.trans (hkp2.mono (by simp)))⟩)
    obtain ⟨x2, hx2, rfl⟩ := intR_some hv
    have hl2 := upL_le hx2
    have hE' := hE1.out
    try simp only [Option.bind_some] at hE'
    rw [hx2] at hE'
    have hE2 := hide hE'
    clear hv hx2 h2 hE1 hE'
    have hK2 := hK1.trans (hkp2.mono (by simp))
    have c2 := cell_kept hkp2 hrS c1
    clear c1
    have h3 := hide (must_any b s k2 p w2 hs hT2 hk2)
    go_wp2_with fail
    refine h3.out.mono ?_
    rintro e w3 ⟨⟨v, k3, hv, hk3, rfl, hT3⟩ | ⟨hv, rfl, j, hT3⟩, hkp3⟩
    case' inr => (have hE' := hE2.out; (try simp only [Option.bind_some] at hE'); rw [unitR_none hv] at hE'; have hE3 := hide hE'; clear hE' hE2; go_wp2_with fail; exact ⟨rfl, Reads.no (by rw [hE3.out]; rfl) hT3 (hK2.trans (hkp3.mono (by simp)))⟩)
    obtain ⟨hx3, rfl⟩ := unitR_some hv
    have hE' := hE2.out
    try simp only [Option.bind_some] at hE'
    rw [hx3] at hE'
    have hE3 := hide hE'
    clear hv hx3 h3 hE2 hE'
    have hK3 := hK2.trans (hkp3.mono (by simp))
    have c3 := cell_kept hkp3 hrS c2
    clear c2
    have h4 := hide (upTo_any r b s k3 59 w3 hs hT3 hk3 hrb c3)
    go_wp2_with fail
    refine h4.out.mono ?_
    rintro e w4 ⟨⟨v, k4, hv, hk4, rfl, hT4⟩ | ⟨hv, rfl, j, hT4⟩, hkp4⟩
    case' inr => (have hE' := hE3.out; (try simp only [Option.bind_some] at hE'); rw [intR_none hv] at hE'; have hE4 := hide hE'; clear hE' hE3; go_wp2_with fail; exact ⟨rfl, Reads.no (by rw [hE4.out]; rfl) hT4 (hK3.trans (hkp4.mono (by simp)))⟩)
    obtain ⟨x4, hx4, rfl⟩ := intR_some hv
    have hl4 := upL_le hx4
    have hE' := hE3.out
    try simp only [Option.bind_some] at hE'
    rw [hx4] at hE'
    have hE4 := hide hE'
    clear hv hx4 h4 hE3 hE'
    have hK4 := hK3.trans (hkp4.mono (by simp))
    have c4 := cell_kept hkp4 hrS c3
    clear c3
    go_wp2_with fail
    go_ret
    exact Reads.yes (by rw [hE4.out]; exact congrArg some (Prod.ext (congrArg (Value.int .i64) (by first | rfl | omega | (simp; omega))) rfl)) hk4 hT4 hK4
  · have hT0 : IsText w0 b s (k + 1) := hT0
    have hk0 : k + 1 ≤ s.size := hlen.out rfl
    have hE0 := hide (hE.out.trans (if_pos rfl))
    unfold offTail at hE0
    clear hE hlen
    have h1 := hide (upTo_any r b s (k + 1) 23 w0 hs hT0 hk0 hrb c0)
    go_wp2_with fail
    refine h1.out.mono ?_
    rintro e w1 ⟨⟨v, k1, hv, hk1, rfl, hT1⟩ | ⟨hv, rfl, j, hT1⟩, hkp1⟩
    case' inr => (have hE' := hE0.out; (try simp only [Option.bind_some] at hE'); rw [intR_none hv] at hE'; have hE1 := hide hE'; clear hE' hE0; go_wp2_with fail; exact ⟨rfl, Reads.no (by rw [hE1.out]; rfl) hT1 (hK0.trans (hkp1.mono (by simp)))⟩)
    obtain ⟨x1, hx1, rfl⟩ := intR_some hv
    have hl1 := upL_le hx1
    have hE' := hE0.out
    try simp only [Option.bind_some] at hE'
    rw [hx1] at hE'
    have hE1 := hide hE'
    clear hv hx1 h1 hE0 hE'
    have hK1 := hK0.trans (hkp1.mono (by simp))
    have c1 := cell_kept hkp1 hrS c0
    clear c0
    have h2 := hide (must_any b s k1 p w1 hs hT1 hk1)
    go_wp2_with fail
    refine h2.out.mono ?_
    rintro e w2 ⟨⟨v, k2, hv, hk2, rfl, hT2⟩ | ⟨hv, rfl, j, hT2⟩, hkp2⟩
    case' inr => (have hE' := hE1.out; (try simp only [Option.bind_some] at hE'); rw [unitR_none hv] at hE'; have hE2 := hide hE'; clear hE' hE1; go_wp2_with fail; exact ⟨rfl, Reads.no (by rw [hE2.out]; rfl) hT2 (hK1.trans (hkp2.mono (by simp)))⟩)
    obtain ⟨hx2, rfl⟩ := unitR_some hv
    have hE' := hE1.out
    try simp only [Option.bind_some] at hE'
    rw [hx2] at hE'
    have hE2 := hide hE'
    clear hv hx2 h2 hE1 hE'
    have hK2 := hK1.trans (hkp2.mono (by simp))
    have c2 := cell_kept hkp2 hrS c1
    clear c1
    have h3 := hide (upTo_any r b s k2 59 w2 hs hT2 hk2 hrb c2)
    go_wp2_with fail
    refine h3.out.mono ?_
    rintro e w3 ⟨⟨v, k3, hv, hk3, rfl, hT3⟩ | ⟨hv, rfl, j, hT3⟩, hkp3⟩
    case' inr => (have hE' := hE2.out; (try simp only [Option.bind_some] at hE'); rw [intR_none hv] at hE'; have hE3 := hide hE'; clear hE' hE2; go_wp2_with fail; exact ⟨rfl, Reads.no (by rw [hE3.out]; rfl) hT3 (hK2.trans (hkp3.mono (by simp)))⟩)
    obtain ⟨x3, hx3, rfl⟩ := intR_some hv
    have hl3 := upL_le hx3
    have hE' := hE2.out
    try simp only [Option.bind_some] at hE'
    rw [hx3] at hE'
    have hE3 := hide hE'
    clear hv hx3 h3 hE2 hE'
    have hK3 := hK2.trans (hkp3.mono (by simp))
    have c3 := cell_kept hkp3 hrS c2
    clear c2
    go_wp2_with fail
    go_ret
    exact Reads.yes (by rw [hE3.out]; exact congrArg some (Prod.ext (congrArg (Value.int .i64) (by first | rfl | omega | (simp; omega))) rfl)) hk3 hT3 hK3

def shortL (l : List UInt8) (k : Nat) : Option (Nat × Nat) := if (decide (k + 1 < l.length) && digB (l.getD (k + 1) 0)) = true then numL l 2 k 0 else numL l 1 k 0

set_option maxHeartbeats 400000 in
theorem shortNumber_any (r b : Nat) (s : ByteArray) (k : Nat) (w : World) (hs : s.size ≤ 140737488351232) (hT : IsText w b s k) (hk : k ≤ s.size) (hrb : r ≠ b) (hR : w.cell? ⟨r, 0, none⟩ = some (.pointer (some ⟨b, 0, none⟩))) :
    Calls Tryd.prog 35 #[.pointer (some ⟨r, 0, none⟩)] w fun e w' => Reads b s w (intR (shortL s.data.toList k)) e w' := by
  have ha := hide (ahead_any b s k w hs hT hk)
  have hE := hide (show shortL s.data.toList k = if (decide (k + 1 < s.size) && digB (byteAt s (k + 1))) = true then numL s.data.toList 2 k 0 else numL s.data.toList 1 k 0 from by unfold shortL; rw [len_size]; rfl)
  generalize shortL s.data.toList k = R at *
  generalize (decide (k + 1 < s.size) && digB (byteAt s (k + 1))) = t at *
  go_enter Tryd.func35, Tryd.ntmps35
  go_wp2_with fail
  refine ha.out.mono ?_
  rintro e w1 ⟨rfl, n, rfl⟩
  cases t
  · have h1 := hide (number_any r b s k 1 (w.drewN n) hs hT hk (by omega) hrb hR)
    rw [← hE.out.trans (if_neg (by simp))] at h1
    go_wp2_with fail
    refine h1.out.mono ?_
    rintro e w2 ⟨⟨v, k', hv, hk', rfl, hT1⟩ | ⟨hv, rfl, j, hT1⟩, hk1⟩
    · go_wp2_with fail
      go_ret
      exact Reads.yes hv hk' hT1 (((Keeps.refl _ _).drewN n).trans hk1)
    · go_wp2_with fail
      exact ⟨rfl, Reads.no hv hT1 (((Keeps.refl _ _).drewN n).trans hk1)⟩
  · have h1 := hide (number_any r b s k 2 (w.drewN n) hs hT hk (by omega) hrb hR)
    rw [← hE.out.trans (if_pos rfl)] at h1
    go_wp2_with fail
    refine h1.out.mono ?_
    rintro e w2 ⟨⟨v, k', hv, hk', rfl, hT1⟩ | ⟨hv, rfl, j, hT1⟩, hk1⟩
    · go_wp2_with fail
      go_ret
      exact Reads.yes hv hk' hT1 (((Keeps.refl _ _).drewN n).trans hk1)
    · go_wp2_with fail
      exact ⟨rfl, Reads.no hv hT1 (((Keeps.refl _ _).drewN n).trans hk1)⟩
end Go.Proofs.YtngojdajamgabadDoor
