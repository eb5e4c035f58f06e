/- Pass. -/
import Derived.Test.YtngojdajamgabadDoorScan
namespace Go.Proofs.YtngojdajamgabadDoor
open Go.RowKit

/-- K is a function with a body: a call of it enters it. -/
def Enters (K : Nat) : Prop := ∀ (args : Array Value) (w : World), (callFunc K args).run Tryd.prog w = .ok (.enter K args) w

/-- How many bytes of a list pass, from its beginning on. -/
def passLen (f : UInt8 → Bool) (l : List UInt8) : Nat := (l.takeWhile f).length

theorem passLen_is (f : UInt8 → Bool) : ∀ (l : List UInt8) (m : Nat), m ≤ l.length → (∀ i, i < m → f (l.getD i 0) = true) → (m < l.length → f (l.getD m 0) = false) → passLen f l = m
  | [], m, h, _, _ => by simp at h; simp [passLen, h]
  | c :: l, 0, _, _, h => by have := h (by simp); simp at this; simp [passLen, this]
  | c :: l, m + 1, h1, h2, h3 => by
    have h0 : f c = true := by simpa using h2 0 (by omega)
    have := passLen_is f l m (by simpa using h1) (fun i hi => by simpa using h2 (i + 1) (by omega)) (fun h => by simpa using h3 (by simpa using h))
    simp only [passLen] at this ⊢
    simp [h0, this]

theorem passLen_at (f : UInt8 → Bool) (s : ByteArray) (k j : Nat) (hkj : k ≤ j) (hj : j ≤ s.size) (hall : ∀ i, k ≤ i → i < j → f (byteAt s i) = true) (hstop : j < s.size → f (byteAt s j) = false) :
    k + passLen f (s.data.toList.drop k) = j := by
  have hl : s.data.toList.length = s.size := Array.length_toList
  have := passLen_is f (s.data.toList.drop k) (j - k) (by simp only [List.length_drop, hl]; omega)
    (fun i hi => by have := hall (k + i) (by omega) (by omega); simpa [byteAt, List.getD_eq_getElem?_getD, List.getElem?_drop] using this)
    (fun h => by
      have h' : j < s.size := by simp only [List.length_drop, hl] at h; omega
      have := hstop h'
      simp only [byteAt, List.getD_eq_getElem?_getD, List.getElem?_drop] at this ⊢
      rw [show k + (j - k) = j from by omega]; exact this)
  omega

set_option maxHeartbeats 400000 in
theorem pass_any (K : Nat) (caps : Array Value) (f : UInt8 → Bool) (b : Nat) (s : ByteArray) (k : Nat) (w : World) (hs : s.size ≤ 140737488351232) (hT : IsText w b s k) (hk : k ≤ s.size) (hK : Enters K)
    (hf : ∀ (c : UInt8) (w1 : World), Keeps [b] w w1 → Calls Tryd.prog K (#[.int .u8 c.toNat] ++ caps) w1 fun e w' => e = .returned (.bool (f c)) ∧ ∃ n, w' = w1.drewN n) :
    Calls Tryd.prog 52 #[.pointer (some ⟨b, 0, none⟩), .func (.func K) #[] caps] w fun e w' =>
      e = .returned (.string (s.extract k (k + passLen f (s.data.toList.drop k)))) ∧ IsText w' b s (k + passLen f (s.data.toList.drop k)) ∧ Keeps [b] w w' := by
  have c1 := hT.cell1
  have hK' := hK
  unfold Enters at hK'
  have fin : ∀ j, k ≤ j → j ≤ s.size → (∀ i, k ≤ i → i < j → f (byteAt s i) = true) → (j < s.size → f (byteAt s j) = false) → Hid (k + passLen f (s.data.toList.drop k) = j) := passLen_at f s k
  go_enter Tryd.func52, Tryd.ntmps52
  go_wp2_with fail
  go_loopw [10] (fun _ wr => ∃ j : Nat, k ≤ j ∧ j ≤ s.size ∧ (∀ i, k ≤ i → i < j → f (byteAt s i) = true) ∧ IsText wr b s j ∧ Keeps [b] w wr) (fun _ wr => s.size - (intOf ((wr.cell? ⟨b, 1, none⟩).getD undef)).toNat)
  case atStart => exact ⟨k, Nat.le_refl _, hk, fun i h1 h2 => by omega, hT, Keeps.refl _ _⟩
  case round =>
    obtain ⟨j, hkj, hj, hall, hT', hkp⟩ := hrel
    have HA := hide hall
    have c0' := hT'.cell0
    have c1' := hT'.cell1
    have f1' := hT'.free1
    clear c1 hall
    by_cases hlt : j < s.size
    · have hd : decide (s.size ≤ j) = false := by simp; omega
      have hcall : ∀ n, Calls Tryd.prog K (#[.int .u8 s[j].toNat] ++ caps) (wr.drewN n) fun e w' => e = .returned (.bool (f s[j])) ∧ ∃ n', w' = (wr.drewN n).drewN n' := fun n => hf s[j] _ (hkp.drewN n)
      have HC := hide hcall
      clear hcall hf
      cases hfc : f s[j]
      · rw [hfc] at HC
        have HF := fin j hkj hj HA.out (fun _ => by rw [byteAt_eq s j hlt]; exact hfc)
        clear fin hfc
        go_wp2_with fail
        go_quiet (first | (go_at_call 26; exact Calls.quiet_of (done_any _ _ _ _ hT')) | exact Calls.quiet_of (HC.out _))
        go_wp2_with fail
        go_quiet (fail)
        go_wp2
        go_ret
        rw [HF.out]
        exact ⟨by simp, hT', (hkp.drewN _).drewN _⟩
      · rw [hfc] at HC
        have hall' : ∀ i, k ≤ i → i < j + 1 → f (byteAt s i) = true := by
          intro i h1 h2
          by_cases he : i = j
          · rw [he, byteAt_eq s j hlt]; exact hfc
          · exact HA.out i h1 (by omega)
        have HA' := hide hall'
        clear fin hfc hall' HA
        go_wp2_with fail
        go_quiet (first | (go_at_call 26; exact Calls.quiet_of (done_any _ _ _ _ hT')) | exact Calls.quiet_of (HC.out _))
        go_wp2_with fail
        go_roundw
        case rel => exact ⟨j + 1, by omega, by omega, HA'.out, hT'.set (j + 1), (hkp.setCell (by simp) _).drewN _⟩
        case measure =>
          have h2 : ((wr.drewN nq).setCell ⟨b, 1, none⟩ (.int .i64 ((j : Int) + 1))).cell? ⟨b, 1, none⟩ = some (.int .i64 ((j : Int) + 1)) := (hT'.set (j + 1)).cell1
          rw [h2, c1']
          simp only [intOf, Option.getD_some]
          omega
    · have hd : decide (s.size ≤ j) = true := by simp; omega
      have HF := fin j hkj hj HA.out (fun h => by omega)
      clear hf fin
      go_wp2_with fail
      go_quiet (first | (go_at_call 26; exact Calls.quiet_of (done_any _ _ _ _ hT')) | fail)
      go_wp2_with fail
      go_quiet (fail)
      go_wp2
      go_ret
      rw [HF.out]
      exact ⟨by simp, hT', (hkp.drewN _).drewN _⟩
end Go.Proofs.YtngojdajamgabadDoor
