/- The other calls of package scan: Begins, Ahead, Rest, PassTo; and token.take. -/
import Derived.Test.YtngojdajamgababGreatLower
import Derived.Test.YtngojdajamgababGreatRef
import Derived.Test.YtngojdajamgababGreatShelfIndex
namespace Go.Proofs.YtngojdajamgababGreat
open Go.RowKit

set_option maxHeartbeats 400000 in
theorem begins_any (b : Nat) (s : ByteArray) (k : Nat) (p : ByteArray) (w : World) (hT : IsText w b s k) (hk : k ≤ s.size) :
    Calls Tryz.prog 70 #[.pointer (some ⟨b, 0, none⟩), .string p] w fun e w' => e = .returned (.bool (stAt s k p.data.toList)) ∧ ∃ n, w' = w.drewN n := by
  have c0 := hT.cell0
  have c1 := hT.cell1
  have e1 : Lib.hasPrefix (s.extract k s.size).data.toList p.data.toList = stAt s k p.data.toList := by rw [Lib.extract_to_end]; rfl
  have hp := hide (fun w => e1 ▸ Tryz.strings_HasPrefix (s.extract k s.size) p w)
  generalize stAt s k p.data.toList = r at *
  clear e1
  go_enter Tryz.func70, Tryz.ntmps70
  go_wp2_with fail
  go_quiet ((go_at_call 92; exact Calls.quiet_of_same (hp.out _)))
  go_wp2
  go_ret
  exact ⟨rfl, _, rfl⟩

set_option maxHeartbeats 400000 in
theorem ahead_any (b : Nat) (s : ByteArray) (k n : Nat) (w : World) (hs : s.size ≤ 3000) (hT : IsText w b s k) (hk : k ≤ s.size) (hn : n ≤ 3000) :
    Calls Tryz.prog 87 #[.pointer (some ⟨b, 0, none⟩), .int .i64 n, .func (.func 88) #[] #[]] w fun e w' => e = .returned (.bool (decide (k + n < s.size) && letterB (byteAt s (k + n)))) ∧ ∃ n, w' = w.drewN n := by
  have c0 := hT.cell0
  have c1 := hT.cell1
  by_cases h : k + n < s.size
  · have hd : decide ((n : Int) < (s.size : Int) - (k : Int)) = true := by simp; omega
    have hlt : (n : Int) < (s.size : Int) - (k : Int) := by omega
    have hlt2 : (k : Int) + (n : Int) < (s.size : Int) := by omega
    have hlt3 : (0 : Int) ≤ (k : Int) + (n : Int) := by omega
    rw [decide_eq_true h, byteAt_eq s _ h]
    have hl := hide (fun w => letter_any s[k + n] w)
    generalize letterB s[k + n] = r at *
    go_enter Tryz.func87, Tryz.ntmps87
    go_wp2_with fail
    go_quiet ((go_at_call 88; exact Calls.quiet_of_same (hl.out _)))
    go_wp2
    go_ret
    exact ⟨by simp, _, rfl⟩
  · have hd : decide ((n : Int) < (s.size : Int) - (k : Int)) = false := by simp; omega
    rw [decide_eq_false h]
    go_enter Tryz.func87, Tryz.ntmps87
    go_wp2_with fail
    go_quiet (fail)
    go_wp2
    go_ret
    exact ⟨rfl, _, rfl⟩

set_option maxHeartbeats 400000 in
theorem rest_any (b : Nat) (s : ByteArray) (k : Nat) (w : World) (hT : IsText w b s k) (hk : k ≤ s.size) :
    Calls Tryz.prog 45 #[.pointer (some ⟨b, 0, none⟩)] w fun e w' => e = .returned (.string (s.extract k s.size)) ∧ IsText w' b s s.size ∧ Keeps [b] w w' := by
  have c0 := hT.cell0
  have c1 := hT.cell1
  have f1 := hT.free1
  go_enter Tryz.func45, Tryz.ntmps45
  go_wp2_with fail
  go_quiet (fail)
  go_wp2
  go_ret
  exact ⟨rfl, hT.set s.size, ((Keeps.refl _ _).setCell (by simp) _).drewN _⟩

/-- The package's own variable holds some number. -/
def HasMax (w : World) : Prop := ∃ m, w.cell? ⟨0, 0, none⟩ = some (.int .i64 m)

theorem HasMax.lt {w : World} (h : HasMax w) : 0 < w.heap.size := by
  obtain ⟨m, hm⟩ := h
  rcases Nat.lt_or_ge 0 w.heap.size with h' | h'
  · exact h'
  · unfold World.cell? at hm
    rw [Array.getElem?_eq_none h'] at hm
    simp at hm

theorem HasMax.keeps {S : List Nat} {w w' : World} (h : HasMax w) (hk : Keeps S w w') (h0 : 0 ∉ S) : HasMax w' := by
  obtain ⟨m, hm⟩ := id h
  exact ⟨m, (World.cell?_of_block (a := ⟨0, 0, none⟩) (hk.block 0 h.lt h0)).trans hm⟩

theorem index_le : ∀ (l p : List UInt8), Lib.index l p ≤ l.length
  | [], p => by unfold Lib.index; split <;> simp
  | c :: l, p => by
    have := index_le l p
    unfold Lib.index
    split
    · simp; omega
    · split
      · simp; omega
      · simp; omega

/-- Where a mark ends, from a place on. -/
def endOf (mark l : List UInt8) : Option Nat := if Lib.index l mark < 0 then none else some ((Lib.index l mark).toNat + mark.length)

set_option maxHeartbeats 400000 in
theorem passTo_any (b : Nat) (s : ByteArray) (k : Nat) (p : ByteArray) (w : World) (hs : s.size ≤ 3000) (hp : p.size ≤ 3000) (hT : IsText w b s k) (hk : k ≤ s.size) (hM : HasMax w) :
    Calls Tryz.prog 71 #[.pointer (some ⟨b, 0, none⟩), .string p] w fun e w' =>
      ((∃ m, endOf p.data.toList (s.data.toList.drop k) = some m ∧ e = .returned (.string (s.extract k (k + m - p.size))) ∧ IsText w' b s (k + m)) ∨ (endOf p.data.toList (s.data.toList.drop k) = none ∧ e = .panicked gave ∧ IsText w' b s k)) ∧ Keeps [b] w w' := by
  have c0 := hT.cell0
  have c1 := hT.cell1
  have f1 := hT.free1
  obtain ⟨m, hm⟩ := hM
  obtain ⟨i, hi⟩ : ∃ i, Lib.index (s.data.toList.drop k) p.data.toList = i := ⟨_, rfl⟩
  have e1 : Lib.index (s.extract k s.size).data.toList p.data.toList = i := by rw [Lib.extract_to_end]; exact hi
  have hx := hide (fun n => e1 ▸ Tryz.strings_Index (s.extract k s.size) p m (w.drewN n) (by simp; omega) hm)
  have hge := Lib.index_ge (s.data.toList.drop k) p.data.toList
  have hle := index_le (s.data.toList.drop k) p.data.toList
  rw [List.length_drop, len_size, hi] at hle
  rw [hi] at hge
  have he := hide (show endOf p.data.toList (s.data.toList.drop k) = if i < 0 then none else some (i.toNat + p.size) from by unfold endOf; rw [hi, len_size])
  clear hm hi e1
  generalize endOf p.data.toList (s.data.toList.drop k) = E at *
  by_cases hneg : i < 0
  · go_enter Tryz.func71, Tryz.ntmps71
    go_wp2_with fail
    go_quiet ((go_at_call 93; exact Calls.quiet_of_same (hx.out _)))
    go_wp2_with fail
    refine (giveUp_any _).mono ?_
    rintro e w1 ⟨rfl, rfl⟩
    go_wp2_with fail
    exact ⟨rfl, .inr ⟨he.out.trans (if_pos hneg), rfl, hT⟩, (Keeps.refl _ _).drewN _⟩
  · obtain ⟨j, rfl⟩ : ∃ j : Nat, i = j := ⟨i.toNat, by omega⟩
    go_enter Tryz.func71, Tryz.ntmps71
    go_wp2_with fail
    go_quiet ((go_at_call 93; exact Calls.quiet_of_same (hx.out _)))
    go_wp2_with fail
    go_quiet (fail)
    go_wp2_with fail
    go_ret
    refine ⟨.inl ⟨j + p.size, he.out.trans (if_neg (by omega)), ?_, ?_⟩, ((Keeps.refl _ _).setCell (by simp) _).drewN _⟩
    · rw [show k + (j + p.size) - p.size = k + j from by omega]
      rfl
    · exact hT.set (k + (j + p.size))

set_option maxHeartbeats 400000 in
theorem tak_any (s : ByteArray) (w : World) (hs : s.size ≤ 3000) :
    Calls Tryz.prog 75 #[.string s] w fun e w' => e = .returned (.string ⟨(takeL s.data.toList).1.toArray⟩) ∧ Keeps [] w w' := by
  have ht : ∀ w, Calls Tryz.prog 96 #[.string s] w fun e w' => e = .returned (.tuple #[.string ⟨(takeL s.data.toList).1.toArray⟩, .int .i64 0]) ∧ Keeps [] w w' := fun w =>
    (take_any s w (by unfold maxLen; omega)).mono fun _ _ ⟨he, hk⟩ => ⟨he.trans (by unfold takeAns; rw [len_size, if_neg (by omega)]; rfl), hk⟩
  have HT := hide ht
  clear ht
  generalize (takeL s.data.toList).1 = r at *
  go_enter Tryz.func75, Tryz.ntmps75
  go_wp2_with fail
  refine (HT.out _).mono ?_
  rintro e w1 ⟨rfl, hk1⟩
  go_wp2_with fail
  go_ret
  exact ⟨rfl, hk1⟩
end Go.Proofs.YtngojdajamgababGreat
