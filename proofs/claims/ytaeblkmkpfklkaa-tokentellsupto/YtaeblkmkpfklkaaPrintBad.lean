/- Print of tokens that are not right. -/
import Derived.Test.YtaeblkmkpfklkaaPrintAll
import Derived.Test.YtaeblkmkpfklkaaCheck
namespace Go.Proofs.Ytaeblkmkpfklkaa
open Go.RowKit Go.Maps

theorem fits_bulk {ts : List Tok} (hn : bulkL ts ≤ 1100000) : ∀ t ∈ ts, FitsT t := fun t ht => by
  have h1 := bulkL_mem ht
  unfold bulkT at h1
  exact ⟨by unfold maxLen; omega, fun p hp => by have h2 := bulkP_mem hp; unfold maxLen; omega⟩

set_option maxHeartbeats 1000000 in
theorem print_bad (w : World) (v : Value) (ts : List Tok) (hv : Toks w v ts) (hn : bulkL ts ≤ 1100000) (c : Int) (hc : chkL ts = c) (h0 : c ≠ 0) :
    Calls Try.prog 17 #[v] w fun e w' => e = .returned (.tuple #[.string ⟨#[]⟩, .int .i64 c]) ∧ Keeps [] w w' := by
  have hchk := hide (check_any w v ts hv (fits_bulk hn))
  rw [hc] at hchk
  have hcb : (c != 0) = true := by simpa using h0
  clear hc
  go_enter Try.func17, Try.ntmps17
  go_wp2_with fail
  refine hchk.out.mono ?_
  rintro e w1 ⟨rfl, hk1⟩
  go_wp2_with fail
  go_ret2
  exact ⟨rfl, hk1⟩

end Go.Proofs.Ytaeblkmkpfklkaa
