/- The other calls of package scan: Begins, Ahead, Rest, PassTo; and token.take. -/
import Derived.Test.YtaeblkmkpfklkacTry
import Derived.Test.YtaeblkmkpfklkacShelfIndex
namespace Go.Proofs.Ytaeblkmkpfklkac
open Go.RowKit

set_option maxHeartbeats 400000 in
theorem begins_any (b : Nat) (s : ByteArray) (k : Nat) (p : ByteArray) (w : World) (hT : IsText w b s k) (hk : k ≤ s.size) :
    Calls Try.prog 22 #[.pointer (some ⟨b, 0, none⟩), .string p] w fun e w' => e = .returned (.bool (stAt s k p.data.toList)) ∧ ∃ n, w' = w.drewN n := by
  have c0 := hT.cell0
  have c1 := hT.cell1
  have e1 : Lib.hasPrefix (s.extract k s.size).data.toList p.data.toList = stAt s k p.data.toList := by rw [Lib.extract_to_end]; rfl
  have hp := hide (fun w => e1 ▸ Try.strings_HasPrefix (s.extract k s.size) p w)
  generalize stAt s k p.data.toList = r at *
  clear e1
  go_enter Try.func22, Try.ntmps22
  go_wp2_with fail
  go_quiet ((go_at_call 32; exact Calls.quiet_of_same (hp.out _)))
  go_wp2
  go_ret
  exact ⟨rfl, _, rfl⟩

set_option maxHeartbeats 400000 in
theorem rest_any (b : Nat) (s : ByteArray) (k : Nat) (w : World) (hT : IsText w b s k) (hk : k ≤ s.size) :
    Calls Try.prog 26 #[.pointer (some ⟨b, 0, none⟩)] w fun e w' => e = .returned (.string (s.extract k s.size)) ∧ IsText w' b s s.size ∧ Keeps [b] w w' := by
  have c0 := hT.cell0
  have c1 := hT.cell1
  have f1 := hT.free1
  go_enter Try.func26, Try.ntmps26
  go_wp2_with fail
  go_quiet (fail)
  go_wp2
  go_ret
  exact ⟨rfl, hT.set s.size, ((Keeps.refl _ _).setCell (by simp) _).drewN _⟩

/-- The package's own variable holds some number. -/
def HasMax (w : World) : Prop := ∃ m, w.cell? ⟨0, 0, none⟩ = some (.int .i64 m)

theorem HasMax.lt {w : World} (h : HasMax w) : 0 < w.heap.size := by
  obtain ⟨m, hm⟩ := h
  rcases Nat.lt_or_ge 0 w.heap.size with h' | h'
  · exact h'
  · unfold World.cell? at hm
    rw [Array.getElem?_eq_none h'] at hm
    simp at hm

theorem HasMax.keeps {S : List Nat} {w w' : World} (h : HasMax w) (hk : Keeps S w w') (h0 : 0 ∉ S) : HasMax w' := by
  obtain ⟨m, hm⟩ := id h
  exact ⟨m, (World.cell?_of_block (a := ⟨0, 0, none⟩) (hk.block 0 h.lt h0)).trans hm⟩

theorem index_le : ∀ (l p : List UInt8), Lib.index l p ≤ l.length
  | [], p => by unfold Lib.index; split <;> simp
  | c :: l, p => by
    have := index_le l p
    unfold Lib.index
    split
    · simp; omega
    · split
      · simp; omega
      · simp; omega

/-- Where a mark ends, from a place on. -/
def endOf (mark l : List UInt8) : Option Nat := if Lib.index l mark < 0 then none else some ((Lib.index l mark).toNat + mark.length)

set_option maxHeartbeats 400000 in
theorem passTo_any (b : Nat) (s : ByteArray) (k : Nat) (p : ByteArray) (w : World) (hs : s.size ≤ 3000) (hp : p.size ≤ 3000) (hT : IsText w b s k) (hk : k ≤ s.size) (hM : HasMax w) :
    Calls Try.prog 23 #[.pointer (some ⟨b, 0, none⟩), .string p] w fun e w' =>
      ((∃ m, endOf p.data.toList (s.data.toList.drop k) = some m ∧ e = .returned (.string (s.extract k (k + m - p.size))) ∧ IsText w' b s (k + m)) ∨ (endOf p.data.toList (s.data.toList.drop k) = none ∧ e = .panicked gave ∧ IsText w' b s k)) ∧ Keeps [b] w w' := by
  have c0 := hT.cell0
  have c1 := hT.cell1
  have f1 := hT.free1
  obtain ⟨m, hm⟩ := hM
  obtain ⟨i, hi⟩ : ∃ i, Lib.index (s.data.toList.drop k) p.data.toList = i := ⟨_, rfl⟩
  have e1 : Lib.index (s.extract k s.size).data.toList p.data.toList = i := by rw [Lib.extract_to_end]; exact hi
  have hx := hide (fun n => e1 ▸ Try.strings_Index (s.extract k s.size) p m (w.drewN n) (by simp; omega) hm)
  have hge := Lib.index_ge (s.data.toList.drop k) p.data.toList
  have hle := index_le (s.data.toList.drop k) p.data.toList
  rw [List.length_drop, len_size, hi] at hle
  rw [hi] at hge
  have he := hide (show endOf p.data.toList (s.data.toList.drop k) = if i < 0 then none else some (i.toNat + p.size) from by unfold endOf; rw [hi, len_size])
  clear hm hi e1
  generalize endOf p.data.toList (s.data.toList.drop k) = E at *
  by_cases hneg : i < 0
  · go_enter Try.func23, Try.ntmps23
    go_wp2_with fail
    go_quiet ((go_at_call 46; exact Calls.quiet_of_same (hx.out _)))
    go_wp2_with fail
    refine (giveUp_any _).mono ?_
    rintro e w1 ⟨rfl, rfl⟩
    go_wp2_with fail
    exact ⟨rfl, .inr ⟨he.out.trans (if_pos hneg), rfl, hT⟩, (Keeps.refl _ _).drewN _⟩
  · obtain ⟨j, rfl⟩ : ∃ j : Nat, i = j := ⟨i.toNat, by omega⟩
    go_enter Try.func23, Try.ntmps23
    go_wp2_with fail
    go_quiet ((go_at_call 46; exact Calls.quiet_of_same (hx.out _)))
    go_wp2_with fail
    go_quiet (fail)
    go_wp2_with fail
    go_ret
    refine ⟨.inl ⟨j + p.size, he.out.trans (if_neg (by omega)), ?_, ?_⟩, ((Keeps.refl _ _).setCell (by simp) _).drewN _⟩
    · rw [show k + (j + p.size) - p.size = k + j from by omega]
      rfl
    · exact hT.set (k + (j + p.size))

theorem pass_list (f : UInt8 → Bool) (s : ByteArray) (k : Nat) : (s.extract k (k + passLen f (s.data.toList.drop k))).data.toList = (s.data.toList.drop k).takeWhile f := by
  rw [Lib.extract_data, Nat.add_sub_cancel_left]
  exact (List.prefix_iff_eq_take.1 (List.takeWhile_prefix _)).symm

theorem pass_str (f : UInt8 → Bool) (s : ByteArray) (k : Nat) : s.extract k (k + passLen f (s.data.toList.drop k)) = ⟨((s.data.toList.drop k).takeWhile f).toArray⟩ := by
  apply WideShapes.bytes_inj
  rw [pass_list]

/-- Pass, for a function without what it captures. -/
theorem pass_of (K : Nat) (f : UInt8 → Bool) (hK : Enters K) (hf : ∀ (c : UInt8) (w : World), Calls Try.prog K #[.int .u8 c.toNat] w fun e w' => e = .returned (.bool (f c)) ∧ w' = w)
    (b : Nat) (s : ByteArray) (k : Nat) (w : World) (hs : s.size ≤ 3000) (hT : IsText w b s k) (hk : k ≤ s.size) :
    Calls Try.prog 39 #[.pointer (some ⟨b, 0, none⟩), .func (.func K) #[] #[]] w fun e w' =>
      e = .returned (.string ⟨((s.data.toList.drop k).takeWhile f).toArray⟩) ∧ IsText w' b s (k + ((s.data.toList.drop k).takeWhile f).length) ∧ Keeps [b] w w' := by
  rw [← pass_str]
  exact pass_any K #[] f b s k w hs hT hk hK fun c w1 _ => (hf c w1).mono fun _ _ ⟨he, hw⟩ => ⟨he, 0, hw⟩

theorem takeWhile_le (f : UInt8 → Bool) (s : ByteArray) (k : Nat) (hk : k ≤ s.size) : k + ((s.data.toList.drop k).takeWhile f).length ≤ s.size := by
  have h1 : (s.data.toList.drop k).length = s.size - k := by rw [List.length_drop]; rfl
  have h2 : ((s.data.toList.drop k).takeWhile f).length ≤ (s.data.toList.drop k).length := (List.takeWhile_sublist _).length_le
  omega
theorem IsText.at {w : World} {b : Nat} {s : ByteArray} {k j : Nat} (h : IsText w b s k) (e : k = j) : IsText w b s j := e ▸ h
end Go.Proofs.Ytaeblkmkpfklkac
