/- The small calls of the document's answer: between, startsAt, digit, row, PutOf, tooLong. -/
import Derived.Test.YtngojdajamgababGreatEscape
import Derived.Test.YtngojdajamgababGreatRefMath
namespace Go.Proofs.YtngojdajamgababGreat
open Go.RowKit

/-- Does p stand at a place of s? -/
def stAt (s : ByteArray) (k : Nat) (p : List UInt8) : Bool := p.isPrefixOf (s.data.toList.drop k)

theorem stAt_eq (s : ByteArray) (k : Nat) (p : ByteArray) : ((s.extract k (k + p.size)).toList == p.toList) = stAt s k p.data.toList := by
  rw [ByteArray.toList_eq, ByteArray.toList_eq, Lib.extract_data, Nat.add_sub_cancel_left, Bool.eq_iff_iff, stAt, List.isPrefixOf_iff_prefix, beq_iff_eq, List.prefix_iff_eq_take, len_size]
  exact eq_comm

theorem stAt_short (s : ByteArray) (k : Nat) (p : ByteArray) (h : s.size < k + p.size) (hk : k ≤ s.size) : stAt s k p.data.toList = false := by
  rw [Bool.eq_false_iff]
  intro hp
  have := (List.isPrefixOf_iff_prefix.1 hp).length_le
  rw [List.length_drop, len_size, len_size] at this
  omega

end Go.Proofs.YtngojdajamgababGreat
