/- isName, however long a text is. -/
import Derived.Test.YtngojdajamgababGreatLower
namespace Go.Proofs.YtngojdajamgababGreat
open Go.RowKit

set_option maxHeartbeats 1000000 in
theorem isName_all (s : ByteArray) (w : World) (hs : s.size ≤ maxLen) :
    Calls Tryz.prog 64 #[.string s] w fun e w' => e = .returned (.bool (isNameL s.data.toList)) ∧ w' = w := by
  by_cases h : s.size ≤ 3000
  · exact isName_any s w h
  · have hf : isNameL s.data.toList = false := by
      unfold isNameL
      have : decide (s.data.toList.length ≤ 20) = false := by have := len_size s; simp; omega
      rw [this]
      simp
    have hne : s.toList.isEmpty = false := by
      rw [ByteArray.toList_eq]
      have := len_size s
      cases hq : s.data.toList with
      | nil => rw [hq] at this; simp at this; omega
      | cons a b => rfl
    rw [hf]
    clear hf
    unfold maxLen at hs
    have hg : decide ((20 : Int) < (s.size : Int)) = true := by simp; omega
    go_enter Tryz.func64, Tryz.ntmps64
    go_wp2_with fail
    go_ret
    exact ⟨rfl, rfl⟩
end Go.Proofs.YtngojdajamgababGreat
