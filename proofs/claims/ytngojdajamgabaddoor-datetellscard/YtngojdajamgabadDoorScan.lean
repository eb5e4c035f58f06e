/- The calls of package scan that escape uses: what each returns, or that it gives up, and what it leaves of memory. -/
import Derived.Test.YtngojdajamgabadDoorBase
namespace Go.Proofs.YtngojdajamgabadDoor
open Go.RowKit

set_option maxHeartbeats 400000 in
theorem new_any (s : ByteArray) (w : World) :
    Calls Tryd.prog 11 #[.string s] w fun e w' => e = .returned (.pointer (some ⟨w.heap.size, 0, none⟩)) ∧ w' = w.alloc (.cells #[.string s, .int .i64 0] 50) := by
  go_enter Tryd.func11, Tryd.ntmps11
  go_wp2
  go_ret
  exact ⟨rfl, rfl⟩

set_option maxHeartbeats 400000 in
theorem done_any (b : Nat) (s : ByteArray) (k : Nat) (w : World) (hT : IsText w b s k) :
    Calls Tryd.prog 26 #[.pointer (some ⟨b, 0, none⟩)] w fun e w' => e = .returned (.bool (decide (s.size ≤ k))) ∧ ∃ n, w' = w.drewN n := by
  have c0 := hT.cell0
  have c1 := hT.cell1
  go_enter Tryd.func26, Tryd.ntmps26
  go_wp2_with fail
  go_quiet (fail)
  go_wp2
  go_ret
  exact ⟨by simp, _, rfl⟩

/-- What scan gives up with. -/
def gave : List PanicEntry := [{ v := .iface 61 (.agg #[]), recovered := false }]

set_option maxHeartbeats 400000 in
theorem giveUp_any (w : World) :
    Calls Tryd.prog 49 #[] w fun e w' => e = .panicked gave ∧ w' = w := by
  go_enter Tryd.func49, Tryd.ntmps49
  go_wp2
  exact ⟨rfl, rfl, rfl⟩

/-- The byte at a place. -/
def byteAt (s : ByteArray) (k : Nat) : UInt8 := s.data.toList.getD k 0
theorem byteAt_eq (s : ByteArray) (k : Nat) (h : k < s.size) : byteAt s k = s[k] := by
  have h' : k < s.data.toList.length := by simpa using h
  simp only [byteAt, List.getD_eq_getElem?_getD, List.getElem?_eq_getElem h', Option.getD_some]
  rfl

set_option maxHeartbeats 400000 in
theorem peek_yes (b : Nat) (s : ByteArray) (k : Nat) (w : World) (hT : IsText w b s k) (hk : k < s.size) :
    Calls Tryd.prog 62 #[.pointer (some ⟨b, 0, none⟩)] w fun e w' => e = .returned (.int .u8 (byteAt s k).toNat) ∧ ∃ n, w' = w.drewN n := by
  have c0 := hT.cell0
  have c1 := hT.cell1
  have hd : decide (s.size ≤ k) = false := by simp; omega
  go_enter Tryd.func62, Tryd.ntmps62
  go_wp2_with (go_at_call 26; refine (done_any _ _ _ _ hT).mono ?_; rintro e w' ⟨rfl, n, rfl⟩)
  go_quiet (fail)
  go_wp2
  go_ret
  exact ⟨by simp [byteAt_eq s k hk], _, World.drewN_drewN _ _ _⟩

set_option maxHeartbeats 400000 in
theorem peek_no (b : Nat) (s : ByteArray) (k : Nat) (w : World) (hT : IsText w b s k) (hk : s.size ≤ k) :
    Calls Tryd.prog 62 #[.pointer (some ⟨b, 0, none⟩)] w fun e w' => e = .panicked gave ∧ ∃ n, w' = w.drewN n := by
  have hd : decide (s.size ≤ k) = true := by simp; omega
  go_enter Tryd.func62, Tryd.ntmps62
  go_wp2_with (first | (go_at_call 26; refine (done_any _ _ _ _ hT).mono ?_; rintro e w' ⟨rfl, n, rfl⟩) | (go_at_call 49; refine (giveUp_any _).mono ?_; rintro e w' ⟨rfl, rfl⟩))
  exact ⟨rfl, rfl, _, rfl⟩

set_option maxHeartbeats 400000 in
theorem one_yes (b : Nat) (s : ByteArray) (k : Nat) (w : World) (hs : s.size ≤ 140737488351232) (hT : IsText w b s k) (hk : k < s.size) :
    Calls Tryd.prog 47 #[.pointer (some ⟨b, 0, none⟩)] w fun e w' => e = .returned (.int .u8 (byteAt s k).toNat) ∧ IsText w' b s (k + 1) ∧ Keeps [b] w w' := by
  have c1 := hT.cell1
  have f1 := hT.free1
  go_enter Tryd.func47, Tryd.ntmps47
  go_wp2_with (go_at_call 62; refine (peek_yes _ _ _ _ hT hk).mono ?_; rintro e w' ⟨rfl, n, rfl⟩)
  go_ret
  exact ⟨by simp, hT.set (k + 1), ((Keeps.refl _ _).setCell (by simp) _).drewN _⟩

set_option maxHeartbeats 400000 in
theorem one_no (b : Nat) (s : ByteArray) (k : Nat) (w : World) (hT : IsText w b s k) (hk : s.size ≤ k) :
    Calls Tryd.prog 47 #[.pointer (some ⟨b, 0, none⟩)] w fun e w' => e = .panicked gave ∧ ∃ n, w' = w.drewN n := by
  go_enter Tryd.func47, Tryd.ntmps47
  go_wp2_with (go_at_call 62; refine (peek_no _ _ _ _ hT hk).mono ?_; rintro e w' ⟨rfl, n, rfl⟩)
  exact ⟨rfl, rfl, _, rfl⟩
end Go.Proofs.YtngojdajamgabadDoor
