/- The two forms of a time: web, mail. -/
import Derived.Test.YtngojdajamgabadDoorOff
import Derived.Test.YtngojdajamgabadDoorMon
namespace Go.Proofs.YtngojdajamgabadDoor
open Go.RowKit

/-- A reader of a time lies in block r; its text in block b. -/
def IsRd (w : World) (r b : Nat) (y m d c a : Int) : Prop := w.heap[r]? = some (.cells #[.pointer (some ⟨b, 0, none⟩), .int .i64 y, .int .i64 m, .int .i64 d, .int .i64 c, .int .i64 a] 36 (0, 0))
theorem IsRd.lt {w : World} {r b : Nat} {y m d c a : Int} (h : IsRd w r b y m d c a) : r < w.heap.size := by
  rcases Nat.lt_or_ge r w.heap.size with h' | h'
  · exact h'
  · rw [IsRd, Array.getElem?_eq_none h'] at h; simp at h
theorem IsRd.keeps {S : List Nat} {w w' : World} {r b : Nat} {y m d c a : Int} (h : IsRd w r b y m d c a) (hk : Keeps S w w') (hb : r ∉ S) : IsRd w' r b y m d c a := by
  rw [IsRd, hk.block r h.lt hb]; exact h
theorem IsRd.cell0 {w : World} {r b : Nat} {y m d c a : Int} (h : IsRd w r b y m d c a) : w.cell? ⟨r, 0, none⟩ = some (.pointer (some ⟨b, 0, none⟩)) := by simp [World.cell?, IsRd] at h ⊢; simp [h]
theorem IsRd.free {w : World} {r b : Nat} {y m d c a : Int} (h : IsRd w r b y m d c a) (i : Nat) (hi : i < 6) : w.frozen? ⟨r, i, none⟩ = false := by
  obtain rfl | rfl | rfl | rfl | rfl | rfl : i = 0 ∨ i = 1 ∨ i = 2 ∨ i = 3 ∨ i = 4 ∨ i = 5 := by omega
  all_goals (simp [World.frozen?, IsRd] at h ⊢; simp [h])
theorem IsText.other {w : World} {b r i : Nat} {s : ByteArray} {k : Nat} (h : IsText w b s k) (hrb : r ≠ b) (v : Value) : IsText (w.setCell ⟨r, i, none⟩ v) b s k := by
  rw [IsText, Below.heap_setCell _ _ _ _ (Ne.symm hrb)]; exact h
theorem IsRd.cell1 {w : World} {r b : Nat} {y m d c a : Int} (h : IsRd w r b y m d c a) : w.cell? ⟨r, 1, none⟩ = some (.int .i64 y) := by simp [World.cell?, IsRd] at h ⊢; simp [h]
theorem IsRd.set1 {w : World} {r b : Nat} {y m d c a : Int} (h : IsRd w r b y m d c a) (x : Int) : IsRd (w.setCell ⟨r, 1, none⟩ (.int .i64 x)) r b x m d c a := by
  simp [World.setCell, IsRd, Array.getElem?_modify] at h ⊢; simp [h]
theorem IsRd.cell2 {w : World} {r b : Nat} {y m d c a : Int} (h : IsRd w r b y m d c a) : w.cell? ⟨r, 2, none⟩ = some (.int .i64 m) := by simp [World.cell?, IsRd] at h ⊢; simp [h]
theorem IsRd.set2 {w : World} {r b : Nat} {y m d c a : Int} (h : IsRd w r b y m d c a) (x : Int) : IsRd (w.setCell ⟨r, 2, none⟩ (.int .i64 x)) r b y x d c a := by
  simp [World.setCell, IsRd, Array.getElem?_modify] at h ⊢; simp [h]
theorem IsRd.cell3 {w : World} {r b : Nat} {y m d c a : Int} (h : IsRd w r b y m d c a) : w.cell? ⟨r, 3, none⟩ = some (.int .i64 d) := by simp [World.cell?, IsRd] at h ⊢; simp [h]
theorem IsRd.set3 {w : World} {r b : Nat} {y m d c a : Int} (h : IsRd w r b y m d c a) (x : Int) : IsRd (w.setCell ⟨r, 3, none⟩ (.int .i64 x)) r b y m x c a := by
  simp [World.setCell, IsRd, Array.getElem?_modify] at h ⊢; simp [h]
theorem IsRd.cell4 {w : World} {r b : Nat} {y m d c a : Int} (h : IsRd w r b y m d c a) : w.cell? ⟨r, 4, none⟩ = some (.int .i64 c) := by simp [World.cell?, IsRd] at h ⊢; simp [h]
theorem IsRd.set4 {w : World} {r b : Nat} {y m d c a : Int} (h : IsRd w r b y m d c a) (x : Int) : IsRd (w.setCell ⟨r, 4, none⟩ (.int .i64 x)) r b y m d x a := by
  simp [World.setCell, IsRd, Array.getElem?_modify] at h ⊢; simp [h]
theorem IsRd.cell5 {w : World} {r b : Nat} {y m d c a : Int} (h : IsRd w r b y m d c a) : w.cell? ⟨r, 5, none⟩ = some (.int .i64 a) := by simp [World.cell?, IsRd] at h ⊢; simp [h]
theorem IsRd.set5 {w : World} {r b : Nat} {y m d c a : Int} (h : IsRd w r b y m d c a) (x : Int) : IsRd (w.setCell ⟨r, 5, none⟩ (.int .i64 x)) r b y m d c x := by
  simp [World.setCell, IsRd, Array.getElem?_modify] at h ⊢; simp [h]

abbrev Stamp := Nat × Nat × Nat × Nat × Int × Nat
def Reader (r b : Nat) (s : ByteArray) (w : World) (R : Option Stamp) (e : Ending) (w' : World) : Prop :=
  ((∃ (y m d c : Nat) (a : Int) (k : Nat), R = some (y, m, d, c, a, k) ∧ k ≤ s.size ∧ e = .returned (.tuple #[]) ∧ IsRd w' r b y m d c a ∧ IsText w' b s k) ∨ (R = none ∧ e = .panicked gave ∧ ∃ j, IsText w' b s j)) ∧ Keeps [b, r] w w'
theorem Reader.yes {r b : Nat} {s : ByteArray} {w w' : World} {R : Option Stamp} {y m d c : Nat} {a : Int} {k : Nat} (h : R = some (y, m, d, c, a, k)) (hk : k ≤ s.size) (hD : IsRd w' r b y m d c a) (hT : IsText w' b s k) (h2 : Keeps [b, r] w w') : Reader r b s w R (.returned (.tuple #[])) w' := ⟨.inl ⟨y, m, d, c, a, k, h, hk, rfl, hD, hT⟩, h2⟩
theorem Reader.no {r b : Nat} {s : ByteArray} {w w' : World} {R : Option Stamp} {k : Nat} (h : R = none) (hT : IsText w' b s k) (h2 : Keeps [b, r] w w') : Reader r b s w R (.panicked gave) w' := ⟨.inr ⟨h, rfl, k, hT⟩, h2⟩

def webL (l : List UInt8) : Option Stamp :=
  (numL l 4 0 0).bind fun y => (mustL l y.2 [45]).bind fun k1 => (numL l 2 k1 0).bind fun m => (mustL l m.2 [45]).bind fun k2 => (numL l 2 k2 0).bind fun d => (mustL l d.2 [84]).bind fun k3 => (todL l k3).bind fun c =>
    if stL l c.2 [90] = true then some (y.1, m.1, d.1, c.1, 0, c.2 + 1) else (offL l c.2 [58]).bind fun a => some (y.1, m.1, d.1, c.1, a.1, a.2)
def mailL (l : List UInt8) : Option Stamp :=
  (weekL l 0).bind fun k0 => (shortL l k0).bind fun d => (mustL l d.2 [32]).bind fun k1 => (monL l k1).bind fun m => (mustL l m.2 [32]).bind fun k2 => (numL l 4 k2 0).bind fun y => (mustL l y.2 [32]).bind fun k3 => (todL l k3).bind fun c => (mustL l c.2 [32]).bind fun k4 =>
    if stL l k4 [71, 77, 84] = true then some (y.1, m.1, d.1, c.1, 0, k4 + 3) else if stL l k4 [85, 84] = true then some (y.1, m.1, d.1, c.1, 0, k4 + 2) else (offL l k4 []).bind fun a => some (y.1, m.1, d.1, c.1, a.1, a.2)

set_option maxRecDepth 100000 in
set_option maxHeartbeats 2000000 in
theorem web_any (r b : Nat) (s : ByteArray) (w : World) (hs : s.size ≤ 140737488351232) (hT : IsText w b s 0) (hrb : r ≠ b) (hD0 : IsRd w r b 0 0 0 0 0) :
    Calls Tryd.prog 13 #[.pointer (some ⟨r, 0, none⟩)] w fun e w' => Reader r b s w (webL s.data.toList) e w' := by
  have hrS : (r : Nat) ∉ [b] := by simpa using hrb
  obtain ⟨R, hR⟩ : ∃ R, webL s.data.toList = R := ⟨_, rfl⟩
  rw [hR]
  unfold webL at hR
  have hE0 := hide hR.symm
  clear hR
  have hK0 : Keeps [b, r] w w := Keeps.refl _ _
  have c0 := hD0.cell0
  go_enter Tryd.func13, Tryd.ntmps13
  have h1 := hide (number_any r b s 0 4 w hs hT (Nat.zero_le _) (by omega) hrb c0)
  go_wp2_with fail
  refine h1.out.mono ?_
  rintro e w1 ⟨⟨v, k1, hv, hk1, rfl, hT1⟩ | ⟨hv, rfl, j, hT1⟩, hkp1⟩
  case' inr => (have hE' := hE0.out; (try simp only [Option.bind_some] at hE'); rw [intR_none hv] at hE'; have hE1 := hide hE'; clear hE' hE0; go_wp2_with fail; exact ⟨rfl, Reader.no (by rw [hE1.out]; rfl) hT1 (hK0.trans (hkp1.mono (by simp)))⟩)
  obtain ⟨x1, hx1, rfl⟩ := intR_some hv
  have hE' := hE0.out
  (try simp only [Option.bind_some] at hE')
  rw [hx1] at hE'
  have hE1 := hide hE'
  clear hv hx1 h1 hE0 hE' c0
  have hK1 := hK0.trans (hkp1.mono (by simp))
  have hD1 := hD0.keeps hkp1 hrS
  have c1 := hD1.cell0
  have g1 := hD1.cell1
  have f1 := hD1.free 1 (by omega)
  have hT1' := hT1.other (i := 1) hrb (.int .i64 (x1 : Nat))
  have hD1' := hD1.set1 (x1 : Nat)
  have hK1' := hK1.setCell (p := ⟨r, 1, none⟩) (.inl (by simp)) (.int .i64 (x1 : Nat))
  have c1' := hD1'.cell0
  have h2 := hide (must_any b s k1 ⟨#[45]⟩ (w1.setCell ⟨r, 1, none⟩ (.int .i64 (x1 : Nat))) hs hT1' hk1)
  go_wp2_with fail
  refine h2.out.mono ?_
  rintro e w2 ⟨⟨v, k2, hv, hk2, rfl, hT2⟩ | ⟨hv, rfl, j, hT2⟩, hkp2⟩
  case' inr => (have hE' := hE1.out; (try simp only [Option.bind_some] at hE'); rw [unitR_none hv] at hE'; have hE2 := hide hE'; clear hE' hE1; go_wp2_with fail; exact ⟨rfl, Reader.no (by rw [hE2.out]; rfl) hT2 (hK1'.trans (hkp2.mono (by simp)))⟩)
  obtain ⟨hx2, rfl⟩ := unitR_some hv
  have hE' := hE1.out
  (try simp only [Option.bind_some] at hE')
  rw [hx2] at hE'
  have hE2 := hide hE'
  clear hv hx2 h2 hE1 hE' c1'
  have hK2 := hK1'.trans (hkp2.mono (by simp))
  have hD2 := hD1'.keeps hkp2 hrS
  have c2 := hD2.cell0
  have h3 := hide (number_any r b s k2 2 w2 hs hT2 hk2 (by omega) hrb c2)
  go_wp2_with fail
  refine h3.out.mono ?_
  rintro e w3 ⟨⟨v, k3, hv, hk3, rfl, hT3⟩ | ⟨hv, rfl, j, hT3⟩, hkp3⟩
  case' inr => (have hE' := hE2.out; (try simp only [Option.bind_some] at hE'); rw [intR_none hv] at hE'; have hE3 := hide hE'; clear hE' hE2; go_wp2_with fail; exact ⟨rfl, Reader.no (by rw [hE3.out]; rfl) hT3 (hK2.trans (hkp3.mono (by simp)))⟩)
  obtain ⟨x3, hx3, rfl⟩ := intR_some hv
  have hE' := hE2.out
  (try simp only [Option.bind_some] at hE')
  rw [hx3] at hE'
  have hE3 := hide hE'
  clear hv hx3 h3 hE2 hE' c2
  have hK3 := hK2.trans (hkp3.mono (by simp))
  have hD3 := hD2.keeps hkp3 hrS
  have c3 := hD3.cell0
  have g3 := hD3.cell2
  have f3 := hD3.free 2 (by omega)
  have hT3' := hT3.other (i := 2) hrb (.int .i64 (x3 : Nat))
  have hD3' := hD3.set2 (x3 : Nat)
  have hK3' := hK3.setCell (p := ⟨r, 2, none⟩) (.inl (by simp)) (.int .i64 (x3 : Nat))
  have c3' := hD3'.cell0
  have h4 := hide (must_any b s k3 ⟨#[45]⟩ (w3.setCell ⟨r, 2, none⟩ (.int .i64 (x3 : Nat))) hs hT3' hk3)
  go_wp2_with fail
  refine h4.out.mono ?_
  rintro e w4 ⟨⟨v, k4, hv, hk4, rfl, hT4⟩ | ⟨hv, rfl, j, hT4⟩, hkp4⟩
  case' inr => (have hE' := hE3.out; (try simp only [Option.bind_some] at hE'); rw [unitR_none hv] at hE'; have hE4 := hide hE'; clear hE' hE3; go_wp2_with fail; exact ⟨rfl, Reader.no (by rw [hE4.out]; rfl) hT4 (hK3'.trans (hkp4.mono (by simp)))⟩)
  obtain ⟨hx4, rfl⟩ := unitR_some hv
  have hE' := hE3.out
  (try simp only [Option.bind_some] at hE')
  rw [hx4] at hE'
  have hE4 := hide hE'
  clear hv hx4 h4 hE3 hE' c3'
  have hK4 := hK3'.trans (hkp4.mono (by simp))
  have hD4 := hD3'.keeps hkp4 hrS
  have c4 := hD4.cell0
  have h5 := hide (number_any r b s k4 2 w4 hs hT4 hk4 (by omega) hrb c4)
  go_wp2_with fail
  refine h5.out.mono ?_
  rintro e w5 ⟨⟨v, k5, hv, hk5, rfl, hT5⟩ | ⟨hv, rfl, j, hT5⟩, hkp5⟩
  case' inr => (have hE' := hE4.out; (try simp only [Option.bind_some] at hE'); rw [intR_none hv] at hE'; have hE5 := hide hE'; clear hE' hE4; go_wp2_with fail; exact ⟨rfl, Reader.no (by rw [hE5.out]; rfl) hT5 (hK4.trans (hkp5.mono (by simp)))⟩)
  obtain ⟨x5, hx5, rfl⟩ := intR_some hv
  have hE' := hE4.out
  (try simp only [Option.bind_some] at hE')
  rw [hx5] at hE'
  have hE5 := hide hE'
  clear hv hx5 h5 hE4 hE' c4
  have hK5 := hK4.trans (hkp5.mono (by simp))
  have hD5 := hD4.keeps hkp5 hrS
  have c5 := hD5.cell0
  have g5 := hD5.cell3
  have f5 := hD5.free 3 (by omega)
  have hT5' := hT5.other (i := 3) hrb (.int .i64 (x5 : Nat))
  have hD5' := hD5.set3 (x5 : Nat)
  have hK5' := hK5.setCell (p := ⟨r, 3, none⟩) (.inl (by simp)) (.int .i64 (x5 : Nat))
  have c5' := hD5'.cell0
  have h6 := hide (must_any b s k5 ⟨#[84]⟩ (w5.setCell ⟨r, 3, none⟩ (.int .i64 (x5 : Nat))) hs hT5' hk5)
  go_wp2_with fail
  refine h6.out.mono ?_
  rintro e w6 ⟨⟨v, k6, hv, hk6, rfl, hT6⟩ | ⟨hv, rfl, j, hT6⟩, hkp6⟩
  case' inr => (have hE' := hE5.out; (try simp only [Option.bind_some] at hE'); rw [unitR_none hv] at hE'; have hE6 := hide hE'; clear hE' hE5; go_wp2_with fail; exact ⟨rfl, Reader.no (by rw [hE6.out]; rfl) hT6 (hK5'.trans (hkp6.mono (by simp)))⟩)
  obtain ⟨hx6, rfl⟩ := unitR_some hv
  have hE' := hE5.out
  (try simp only [Option.bind_some] at hE')
  rw [hx6] at hE'
  have hE6 := hide hE'
  clear hv hx6 h6 hE5 hE' c5'
  have hK6 := hK5'.trans (hkp6.mono (by simp))
  have hD6 := hD5'.keeps hkp6 hrS
  have c6 := hD6.cell0
  have h7 := hide (timeOfDay_any r b s k6 w6 hs hT6 hk6 hrb c6)
  go_wp2_with fail
  refine h7.out.mono ?_
  rintro e w7 ⟨⟨v, k7, hv, hk7, rfl, hT7⟩ | ⟨hv, rfl, j, hT7⟩, hkp7⟩
  case' inr => (have hE' := hE6.out; (try simp only [Option.bind_some] at hE'); rw [intR_none hv] at hE'; have hE7 := hide hE'; clear hE' hE6; go_wp2_with fail; exact ⟨rfl, Reader.no (by rw [hE7.out]; rfl) hT7 (hK6.trans (hkp7.mono (by simp)))⟩)
  obtain ⟨x7, hx7, rfl⟩ := intR_some hv
  have hE' := hE6.out
  (try simp only [Option.bind_some] at hE')
  rw [hx7] at hE'
  have hE7 := hide hE'
  clear hv hx7 h7 hE6 hE' c6
  have hK7 := hK6.trans (hkp7.mono (by simp))
  have hD7 := hD6.keeps hkp7 hrS
  have c7 := hD7.cell0
  have g7 := hD7.cell4
  have f7 := hD7.free 4 (by omega)
  have hT7' := hT7.other (i := 4) hrb (.int .i64 (x7 : Nat))
  have hD7' := hD7.set4 (x7 : Nat)
  have hK7' := hK7.setCell (p := ⟨r, 4, none⟩) (.inl (by simp)) (.int .i64 (x7 : Nat))
  have c7' := hD7'.cell0
  have hp := hide (passed_any b s k7 ⟨#[90]⟩ (w7.setCell ⟨r, 4, none⟩ (.int .i64 (x7 : Nat))) hs hT7' hk7)
  have hlen : Hid (stL s.data.toList k7 [90] = true → k7 + 1 ≤ s.size) := hide (fun h => by have := stL_len h (by rw [len_size]; exact hk7); rw [len_size] at this; exact this)
  have hq : (⟨#[90]⟩ : ByteArray).data.toList = [90] := rfl
  rw [hq] at hp
  have hE' := hE7.out
  simp only [Option.bind_some] at hE'
  have hEz := hide hE'
  clear hE' hE7 hq
  generalize stL s.data.toList k7 [90] = t at *
  go_wp2_with fail
  refine hp.out.mono ?_
  rintro e wp ⟨rfl, hTp, hkp⟩
  have hDp := hD7'.keeps hkp hrS
  have hKp := hK7'.trans (hkp.mono (by simp))
  have cp := hDp.cell0
  clear hp c7'
  cases t
  · have hTq : IsText wp b s k7 := hTp
    have hE2 := hide (hEz.out.trans (if_neg (by simp)))
    have ho := hide (offset_any r b s k7 ⟨#[58]⟩ wp hs hTq hk7 hrb cp)
    have gp := hDp.cell5
    have fp := hDp.free 5 (by omega)
    clear hEz hTp
    go_wp2_with fail
    refine ho.out.mono ?_
    rintro e wo ⟨⟨v, ko, hv, hko, rfl, hTo⟩ | ⟨hv, rfl, j, hTo⟩, hkpo⟩
    · obtain ⟨xo, hxo, rfl⟩ := sintR_some hv
      have hE' := hE2.out
      rw [hxo] at hE'
      have hE3 := hide hE'
      clear hE2 hE' hv hxo ho
      have hDo := hDp.keeps hkpo hrS
      have go := hDo.cell5
      have fo := hDo.free 5 (by omega)
      go_wp2_with fail
      refine bodyPost_ret (v := .tuple #[]) (by simp [results, Tryd.results13]) rfl ?_
      exact Reader.yes hE3.out hko (hDo.set5 xo) (hTo.other hrb _) ((hKp.trans (hkpo.mono (by simp))).setCell (.inl (by simp)) _)
    · have hE' := hE2.out
      rw [sintR_none hv] at hE'
      have hE3 := hide hE'
      clear hE2 hE'
      go_wp2_with fail
      exact ⟨rfl, Reader.no (by rw [hE3.out]; rfl) hTo (hKp.trans (hkpo.mono (by simp)))⟩
  · have hTq : IsText wp b s (k7 + 1) := hTp
    have hE2 := hide (hEz.out.trans (if_pos rfl))
    have hle := hlen.out rfl
    clear hEz hTp hlen
    go_wp2_with fail
    refine bodyPost_ret (v := .tuple #[]) (by simp [results, Tryd.results13]) rfl ?_
    exact Reader.yes hE2.out hle hDp hTq hKp
end Go.Proofs.YtngojdajamgabadDoor
