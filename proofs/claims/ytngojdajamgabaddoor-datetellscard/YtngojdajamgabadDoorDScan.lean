/- The calls of package scan that date uses beside: Begins, Passed, Must, Digit, Small, Letter, Ahead. -/
import Derived.Test.YtngojdajamgabadDoorTry
import Derived.Test.YtngojdajamgabadDoorShelf
import Derived.Test.YtngojdajamgabadDoorCal
import Derived.Lib.IndexBytes
namespace Go.Proofs.YtngojdajamgabadDoor
open Go.RowKit

theorem len_size (s : ByteArray) : s.data.toList.length = s.size := Array.length_toList

/-- Does p stand at the place k of l? -/
def stL (l : List UInt8) (k : Nat) (p : List UInt8) : Bool := p.isPrefixOf (l.drop k)

theorem stL_len {l : List UInt8} {k : Nat} {p : List UInt8} (h : stL l k p = true) (hk : k ≤ l.length) : k + p.length ≤ l.length := by
  have h' : p <+: l.drop k := by simpa [stL] using h
  have := h'.length_le
  rw [List.length_drop] at this
  omega

set_option maxHeartbeats 400000 in
theorem begins_any (b : Nat) (s : ByteArray) (k : Nat) (p : ByteArray) (w : World) (hT : IsText w b s k) (hk : k ≤ s.size) :
    Calls Tryd.prog 51 #[.pointer (some ⟨b, 0, none⟩), .string p] w fun e w' => e = .returned (.bool (stL s.data.toList k p.data.toList)) ∧ ∃ n, w' = w.drewN n := by
  have c0 := hT.cell0
  have c1 := hT.cell1
  have e1 : Lib.hasPrefix (s.extract k s.size).data.toList p.data.toList = stL s.data.toList k p.data.toList := by rw [Lib.extract_to_end]; rfl
  have hp := hide (fun w => e1 ▸ Tryd.strings_HasPrefix (s.extract k s.size) p w)
  generalize stL s.data.toList k p.data.toList = r at *
  clear e1
  go_enter Tryd.func51, Tryd.ntmps51
  go_wp2_with fail
  go_quiet ((go_at_call 57; exact Calls.quiet_of_same (hp.out _)))
  go_wp2
  go_ret
  exact ⟨rfl, _, rfl⟩

set_option maxHeartbeats 400000 in
theorem passed_any (b : Nat) (s : ByteArray) (k : Nat) (p : ByteArray) (w : World) (hs : s.size ≤ 140737488351232) (hT : IsText w b s k) (hk : k ≤ s.size) :
    Calls Tryd.prog 32 #[.pointer (some ⟨b, 0, none⟩), .string p] w fun e w' => e = .returned (.bool (stL s.data.toList k p.data.toList)) ∧ IsText w' b s (if stL s.data.toList k p.data.toList = true then k + p.size else k) ∧ Keeps [b] w w' := by
  have c1 : ∀ n, (w.drewN n).cell? ⟨b, 1, none⟩ = some (.int .i64 k) := fun _ => hT.cell1
  have f1 : ∀ n, (w.drewN n).frozen? ⟨b, 1, none⟩ = false := fun _ => hT.free1
  have hb := hide (fun w1 (h : IsText w1 b s k) => begins_any b s k p w1 h hk)
  have hlen := fun h => stL_len (p := p.data.toList) (l := s.data.toList) (k := k) h (by rw [len_size]; exact hk)
  rw [len_size, len_size] at hlen
  generalize stL s.data.toList k p.data.toList = r at *
  cases r
  · clear hlen
    go_enter Tryd.func32, Tryd.ntmps32
    go_wp2_with (go_at_call 51; refine (hb.out _ hT).mono ?_; rintro e w' ⟨rfl, n, rfl⟩)
    go_ret
    exact ⟨rfl, hT, (Keeps.refl _ _).drewN _⟩
  · have hle := hlen rfl
    clear hlen
    go_enter Tryd.func32, Tryd.ntmps32
    go_wp2_with (go_at_call 51; refine (hb.out _ hT).mono ?_; rintro e w' ⟨rfl, n, rfl⟩)
    go_ret
    exact ⟨rfl, hT.set (k + p.size), ((Keeps.refl _ _).drewN _).setCell (by simp) _⟩

/-- What reading on comes to: R is what is read and the place behind it, or nothing: then it gives up. -/
def Reads (b : Nat) (s : ByteArray) (w : World) (R : Option (Value × Nat)) (e : Ending) (w' : World) : Prop :=
  ((∃ v k', R = some (v, k') ∧ k' ≤ s.size ∧ e = .returned v ∧ IsText w' b s k') ∨ (R = none ∧ e = .panicked gave ∧ ∃ j, IsText w' b s j)) ∧ Keeps [b] w w'

theorem Reads.yes {b : Nat} {s : ByteArray} {w w' : World} {R : Option (Value × Nat)} {v : Value} {k : Nat} (h : R = some (v, k)) (hk : k ≤ s.size) (hT : IsText w' b s k) (h2 : Keeps [b] w w') : Reads b s w R (.returned v) w' := ⟨.inl ⟨v, k, h, hk, rfl, hT⟩, h2⟩
theorem Reads.no {b : Nat} {s : ByteArray} {w w' : World} {R : Option (Value × Nat)} {k : Nat} (h : R = none) (hT : IsText w' b s k) (h2 : Keeps [b] w w') : Reads b s w R (.panicked gave) w' := ⟨.inr ⟨h, rfl, k, hT⟩, h2⟩

theorem cell_kept {S : List Nat} {w w' : World} {a : Addr} {v : Value} (h : Keeps S w w') (hn : a.block ∉ S) (hc : w.cell? a = some v) : w'.cell? a = some v := by
  rcases Nat.lt_or_ge a.block w.heap.size with h' | h'
  · rw [World.cell?_of_block (h.block _ h' hn)]; exact hc
  · unfold World.cell? at hc
    rw [Array.getElem?_eq_none h'] at hc
    simp at hc

/-- What passing a mark comes to. -/
def mustL (l : List UInt8) (k : Nat) (p : List UInt8) : Option Nat := if stL l k p = true then some (k + p.length) else none
def unitR (o : Option Nat) : Option (Value × Nat) := o.map fun k => (.tuple #[], k)

set_option maxHeartbeats 400000 in
theorem must_any (b : Nat) (s : ByteArray) (k : Nat) (p : ByteArray) (w : World) (hs : s.size ≤ 140737488351232) (hT : IsText w b s k) (hk : k ≤ s.size) :
    Calls Tryd.prog 30 #[.pointer (some ⟨b, 0, none⟩), .string p] w fun e w' => Reads b s w (unitR (mustL s.data.toList k p.data.toList)) e w' := by
  have hb := hide (passed_any b s k p w hs hT hk)
  have hlen := fun h => stL_len (p := p.data.toList) (l := s.data.toList) (k := k) h (by rw [len_size]; exact hk)
  rw [len_size, len_size] at hlen
  have hE := hide (show unitR (mustL s.data.toList k p.data.toList) = if stL s.data.toList k p.data.toList = true then some (.tuple #[], k + p.size) else none from by unfold unitR mustL; rw [len_size]; split <;> rfl)
  generalize unitR (mustL s.data.toList k p.data.toList) = E at *
  generalize stL s.data.toList k p.data.toList = r at *
  cases r
  · have hE2 := hide (hE.out.trans (if_neg (by simp)))
    clear hE hlen
    go_enter Tryd.func30, Tryd.ntmps30
    go_wp2_with fail
    refine (hb.out).mono ?_
    rintro e w' ⟨rfl, h1, h2⟩
    go_wp2_with (go_at_call 49; refine (giveUp_any _).mono ?_; rintro e w' ⟨rfl, rfl⟩)
    exact ⟨rfl, Reads.no hE2.out (by simpa using h1) h2⟩
  · have hE2 := hide (hE.out.trans (if_pos rfl))
    have hle := hlen rfl
    clear hE hlen
    go_enter Tryd.func30, Tryd.ntmps30
    go_wp2_with fail
    refine (hb.out).mono ?_
    rintro e w' ⟨rfl, h1, h2⟩
    go_wp2_with fail
    refine bodyPost_ret (v := .tuple #[]) (by simp [results, Tryd.results30]) rfl ?_
    exact Reads.yes hE2.out hle (by simpa using h1) h2

def digB (c : UInt8) : Bool := decide (48 ≤ c.toNat) && decide (c.toNat ≤ 57)
def smallB (c : UInt8) : Bool := decide (97 ≤ c.toNat) && decide (c.toNat ≤ 122)
def bigB (c : UInt8) : Bool := decide (65 ≤ c.toNat) && decide (c.toNat ≤ 90)
def letterB (c : UInt8) : Bool := smallB c || bigB c

set_option maxHeartbeats 400000 in
theorem digit_any (c : UInt8) (w : World) : Calls Tryd.prog 48 #[.int .u8 c.toNat] w fun e w' => e = .returned (.bool (digB c)) ∧ w' = w := by
  unfold digB
  have hc : c.toNat < 256 := UInt8.toNat_lt c
  generalize c.toNat = n at *
  rcases (show n < 48 ∨ (48 ≤ n ∧ n ≤ 57) ∨ 57 < n from by omega) with h | h | h
  all_goals
    go_enter Tryd.func48, Tryd.ntmps48
    go_wp2
    go_ret
    refine ⟨ret_bool ?_, rfl⟩
    first
      | (simp; omega)
      | (rw [Bool.eq_iff_iff]; simp; omega)

set_option maxHeartbeats 400000 in
theorem small_any (c : UInt8) (w : World) : Calls Tryd.prog 63 #[.int .u8 c.toNat] w fun e w' => e = .returned (.bool (smallB c)) ∧ w' = w := by
  unfold smallB
  have hc : c.toNat < 256 := UInt8.toNat_lt c
  generalize c.toNat = n at *
  rcases (show n < 97 ∨ (97 ≤ n ∧ n ≤ 122) ∨ 122 < n from by omega) with h | h | h
  all_goals
    go_enter Tryd.func63, Tryd.ntmps63
    go_wp2
    go_ret
    refine ⟨ret_bool ?_, rfl⟩
    first
      | (simp; omega)
      | (rw [Bool.eq_iff_iff]; simp; omega)

set_option maxHeartbeats 400000 in
theorem letter_any (c : UInt8) (w : World) : Calls Tryd.prog 53 #[.int .u8 c.toNat] w fun e w' => e = .returned (.bool (letterB c)) ∧ w' = w := by
  have hc : c.toNat < 256 := UInt8.toNat_lt c
  cases hs : smallB c
  · have hl : letterB c = (decide ((65 : Int) ≤ (c.toNat : Int)) && decide ((c.toNat : Int) ≤ 90)) := by
      unfold letterB bigB; rw [hs, Bool.eq_iff_iff]; simp; omega
    rw [hl]
    have hsm := hide (fun w => hs ▸ small_any c w)
    clear hs hl
    generalize c.toNat = n at *
    by_cases h : 65 ≤ n
    · go_enter Tryd.func53, Tryd.ntmps53
      go_wp2_with (go_at_call 63; refine (hsm.out _).mono ?_; rintro e w' ⟨rfl, rfl⟩)
      go_ret
      refine ⟨ret_bool ?_, rfl⟩
      rw [Bool.eq_iff_iff]; simp; omega
    · go_enter Tryd.func53, Tryd.ntmps53
      go_wp2_with (go_at_call 63; refine (hsm.out _).mono ?_; rintro e w' ⟨rfl, rfl⟩)
      go_ret
      refine ⟨ret_bool ?_, rfl⟩
      rw [Bool.eq_iff_iff]; simp; omega
  · have hl : letterB c = true := by unfold letterB; rw [hs]; rfl
    rw [hl]
    have hsm := hide (fun w => hs ▸ small_any c w)
    clear hs hl
    go_enter Tryd.func53, Tryd.ntmps53
    go_wp2_with (go_at_call 63; refine (hsm.out _).mono ?_; rintro e w' ⟨rfl, rfl⟩)
    go_ret
    exact ⟨rfl, rfl⟩

set_option maxHeartbeats 400000 in
theorem ahead_any (b : Nat) (s : ByteArray) (k : Nat) (w : World) (hs : s.size ≤ 140737488351232) (hT : IsText w b s k) (hk : k ≤ s.size) :
    Calls Tryd.prog 54 #[.pointer (some ⟨b, 0, none⟩), .int .i64 1, .func (.func 48) #[] #[]] w fun e w' => e = .returned (.bool (decide (k + 1 < s.size) && digB (byteAt s (k + 1)))) ∧ ∃ n, w' = w.drewN n := by
  have c0 := hT.cell0
  have c1 := hT.cell1
  by_cases h : k + 1 < s.size
  · have hd : decide ((1 : Int) < (s.size : Int) - (k : Int)) = true := by simp; omega
    have hlt : (1 : Int) < (s.size : Int) - (k : Int) := by omega
    have hlt2 : (k : Int) + (1 : Int) < (s.size : Int) := by omega
    have hlt3 : (0 : Int) ≤ (k : Int) + (1 : Int) := by omega
    rw [decide_eq_true h, byteAt_eq s _ h]
    have hl := hide (fun w => digit_any s[k + 1] w)
    generalize digB s[k + 1] = r at *
    go_enter Tryd.func54, Tryd.ntmps54
    go_wp2_with fail
    go_quiet ((go_at_call 48; exact Calls.quiet_of_same (hl.out _)))
    go_wp2
    go_ret
    exact ⟨by simp, _, rfl⟩
  · have hd : decide ((1 : Int) < (s.size : Int) - (k : Int)) = false := by simp; omega
    rw [decide_eq_false h]
    go_enter Tryd.func54, Tryd.ntmps54
    go_wp2_with fail
    go_quiet (fail)
    go_wp2
    go_ret
    exact ⟨rfl, _, rfl⟩
end Go.Proofs.YtngojdajamgabadDoor
