/- UrlBack. -/
import Derived.Test.YtaeblkmkpfklkacUrlL
namespace Go.Proofs.Ytaeblkmkpfklkac
open Go.RowKit

theorem eqNo (w : World) : (binOp .eql 23 (.agg #[.string ⟨#[]⟩, .string ⟨#[]⟩, .string ⟨#[]⟩, .string ⟨#[]⟩, .string ⟨#[]⟩, .bool false, .bool false, .bool false, .bool false]) (.agg #[.string ⟨#[]⟩, .string ⟨#[]⟩, .string ⟨#[]⟩, .string ⟨#[]⟩, .string ⟨#[]⟩, .bool false, .bool false, .bool false, .bool false])).run Try.prog w = .ok (.bool true) w := by kernel_rfl

theorem resX_bad {b s : List UInt8} (h : resE b s ≠ 0) : resX b s = [] := by
  unfold resE at h
  unfold resX
  by_cases hl : 3000 < b.length ∨ 3000 < s.length
  · rw [if_pos hl]
  · rw [if_neg hl] at h ⊢
    cases hr : resAns b s with
    | none => rfl
    | some x => rw [hr] at h; simp at h

/-- What is resolved is resolved again to itself. -/
theorem res_back {b s : List UInt8} (h : resE b s = 0) : (resX b s).length ≤ 3000 ∧ (splitL (resX b s)).hs = true ∧ resE b (resX b s) = 0 ∧ resX b (resX b s) = resX b s := by
  obtain ⟨e1, hl⟩ := resE_zero h
  obtain ⟨h1, h2, h3⟩ := res_again e1
  have hn : ¬ (3000 < b.length ∨ 3000 < (resX b s).length) := by omega
  refine ⟨h3, h1, ?_, ?_⟩
  · unfold resE; rw [if_neg hn, h2]
  · generalize resX b s = X at *
    unfold resX
    rw [if_neg hn, h2]

set_option maxRecDepth 8000 in
set_option maxHeartbeats 40000000 in
theorem back_any (s base : ByteArray) (w : World) (h1 : s.size ≤ maxLen) (h2 : base.size ≤ maxLen) (hM : HasMax w) :
    Calls Try.prog 3 #[.string s, .string base] w fun e w' => e = .returned (.bool true) ∧ Keeps [] w w' := by
  by_cases hs : 3000 < s.size
  · have sp := hide (fun w => split_long s w h1 hs)
    unfold urlV urlCells noUrl at sp
    have heq := eqNo
    have hgd : Try.prog.eqGuardType Try.prog.depth 23 = false := by kernel_rfl
    go_enter Try.func3, Try.ntmps3
    go_wp2_with fail
    refine (sp.out _).mono ?_
    rintro e w1 ⟨rfl, hk1⟩
    have hka : Keeps [] w (w1.alloc (.cells #[.string ⟨#[]⟩, .string ⟨#[]⟩, .string ⟨#[]⟩, .string ⟨#[]⟩, .string ⟨#[]⟩, .bool false, .bool false, .bool false, .bool false] 23)) := hk1.alloc _
    have hU : IsUrl (w1.alloc (.cells #[.string ⟨#[]⟩, .string ⟨#[]⟩, .string ⟨#[]⟩, .string ⟨#[]⟩, .string ⟨#[]⟩, .bool false, .bool false, .bool false, .bool false] 23)) w1.heap.size noUrl := heap_alloc_new _ _
    go_wp2_with fail
    refine (urlBegun_any _ (hM.keeps hka (by simp))).mono ?_
    rintro e w2 ⟨rfl, hk2⟩
    have hU2 := hU.keeps hk2 (by simp)
    have n0 : w2.cell? ⟨w1.heap.size, 0, none⟩ = some (.string ⟨#[]⟩) := hU2.cell 0
    have n1 : w2.cell? ⟨w1.heap.size, 1, none⟩ = some (.string ⟨#[]⟩) := hU2.cell 1
    have n2 : w2.cell? ⟨w1.heap.size, 2, none⟩ = some (.string ⟨#[]⟩) := hU2.cell 2
    have n3 : w2.cell? ⟨w1.heap.size, 3, none⟩ = some (.string ⟨#[]⟩) := hU2.cell 3
    have n4 : w2.cell? ⟨w1.heap.size, 4, none⟩ = some (.string ⟨#[]⟩) := hU2.cell 4
    have n5 : w2.cell? ⟨w1.heap.size, 5, none⟩ = some (.bool false) := hU2.cell 5
    have n6 : w2.cell? ⟨w1.heap.size, 6, none⟩ = some (.bool false) := hU2.cell 6
    have n7 : w2.cell? ⟨w1.heap.size, 7, none⟩ = some (.bool false) := hU2.cell 7
    have n8 : w2.cell? ⟨w1.heap.size, 8, none⟩ = some (.bool false) := hU2.cell 8
    go_wp2_with fail
    go_ret
    exact ⟨by simp, hka.trans hk2⟩
  · have hsz : s.size ≤ 3000 := by omega
    have sp := hide (fun w hM => split_short s w hs hM)
    have hsl := split_len s.data.toList
    rw [len_size] at hsl
    have hXe : (⟨s.data.toList.toArray⟩ : ByteArray) = s := by apply WideShapes.bytes_inj; rfl
    have jn : Hid (∀ w, HasMax w → Calls Try.prog 8 #[urlV (splitL s.data.toList)] w fun e w' => e = .returned (.tuple #[.string s, .int .i64 0]) ∧ Keeps [] w w') := fun w hM => by
      have := join_any (splitL s.data.toList) w ⟨by omega, by omega, by omega, by omega, by omega⟩ hM
      rw [joins_split _ (by rw [len_size]; omega)] at this
      simp only [ansO, hXe] at this
      exact this
    have d1 := hide (fun w => dots_any s w hsz)
    have hdl := dotsL_len s.data.toList
    rw [len_size] at hdl
    have d2 := hide (fun w => dots_any ⟨(dotsL s.data.toList).toArray⟩ w (by rw [str_size]; omega))
    rw [str_list, dotsL_twice] at d2
    have rA := hide (fun w hM => resolve_all base s w h2 h1 hM)
    clear hsl hXe
    generalize splitL s.data.toList = u at *
    generalize dotsL s.data.toList = D at *
    have hd : decide ((s.size : Int) < (D.length : Int)) = false := by simp; omega
    by_cases hE : resE base.data.toList s.data.toList = 0
    · obtain ⟨q1, q2, q3, q4⟩ := res_back hE
      have sr := hide (fun w hM => split_short ⟨(resX base.data.toList s.data.toList).toArray⟩ w (by rw [str_size]; omega) hM)
      rw [str_list] at sr
      have rB := hide (fun w hM => resolve_all base ⟨(resX base.data.toList s.data.toList).toArray⟩ w h2 (by rw [str_size]; unfold maxLen; omega) hM)
      rw [str_list, q3, q4] at rB
      rw [hE] at rA
      generalize resX base.data.toList s.data.toList = X at *
      have hx : decide ((3000 : Int) < (X.length : Int)) = false := by simp; omega
      clear hE q1 q3 q4
      generalize splitL X = v at *
      unfold urlV urlCells at sp jn sr
      rw [q2] at sr
      clear q2
      go_enter Try.func3, Try.ntmps3
      go_wp2_with fail
      refine (sp.out _ hM).mono ?_
      rintro e w1 ⟨rfl, hk1⟩
      have hka : Keeps [] w (w1.alloc (.cells #[.string ⟨u.scheme.toArray⟩, .string ⟨u.authority.toArray⟩, .string ⟨u.path.toArray⟩, .string ⟨u.query.toArray⟩, .string ⟨u.fragment.toArray⟩, .bool u.hs, .bool u.ha, .bool u.hq, .bool u.hf] 23)) := hk1.alloc _
      have hU : IsUrl (w1.alloc (.cells #[.string ⟨u.scheme.toArray⟩, .string ⟨u.authority.toArray⟩, .string ⟨u.path.toArray⟩, .string ⟨u.query.toArray⟩, .string ⟨u.fragment.toArray⟩, .bool u.hs, .bool u.ha, .bool u.hq, .bool u.hf] 23)) w1.heap.size u := heap_alloc_new _ _
      go_wp2_with fail
      refine (urlBegun_any _ (hM.keeps hka (by simp))).mono ?_
      rintro e w2 ⟨rfl, hk2⟩
      have hK2 := hka.trans hk2
      have hM2 := hM.keeps hK2 (by simp)
      have hU2 := hU.keeps hk2 (by simp)
      have n0 : w2.cell? ⟨w1.heap.size, 0, none⟩ = some (.string ⟨u.scheme.toArray⟩) := hU2.cell 0
      have n1 : w2.cell? ⟨w1.heap.size, 1, none⟩ = some (.string ⟨u.authority.toArray⟩) := hU2.cell 1
      have n2 : w2.cell? ⟨w1.heap.size, 2, none⟩ = some (.string ⟨u.path.toArray⟩) := hU2.cell 2
      have n3 : w2.cell? ⟨w1.heap.size, 3, none⟩ = some (.string ⟨u.query.toArray⟩) := hU2.cell 3
      have n4 : w2.cell? ⟨w1.heap.size, 4, none⟩ = some (.string ⟨u.fragment.toArray⟩) := hU2.cell 4
      have n5 : w2.cell? ⟨w1.heap.size, 5, none⟩ = some (.bool u.hs) := hU2.cell 5
      have n6 : w2.cell? ⟨w1.heap.size, 6, none⟩ = some (.bool u.ha) := hU2.cell 6
      have n7 : w2.cell? ⟨w1.heap.size, 7, none⟩ = some (.bool u.hq) := hU2.cell 7
      have n8 : w2.cell? ⟨w1.heap.size, 8, none⟩ = some (.bool u.hf) := hU2.cell 8
      go_wp2_with fail
      refine (jn.out _ hM2).mono ?_
      rintro e w3 ⟨rfl, hk3⟩
      have hK3 := hK2.trans hk3
      have hM3 := hM.keeps hK3 (by simp)
      go_wp2_with fail
      refine (d1.out _).mono ?_
      rintro e w4 ⟨rfl, hk4⟩
      have hK4 := hK3.trans hk4
      go_wp2_with fail
      refine (d2.out _).mono ?_
      rintro e w5 ⟨rfl, hk5⟩
      have hK5 := hK4.trans hk5
      have hM5 := hM.keeps hK5 (by simp)
      go_wp2_with fail
      refine (rA.out _ hM5).mono ?_
      rintro e w6 ⟨rfl, hk6⟩
      have hK6 := hK5.trans hk6
      have hM6 := hM.keeps hK6 (by simp)
      go_wp2_with fail
      refine (sr.out _ hM6).mono ?_
      rintro e w7 ⟨rfl, hk7⟩
      have hK7 := hK6.trans hk7
      have hK8 : Keeps [] w (w7.alloc (.cells #[.string ⟨v.scheme.toArray⟩, .string ⟨v.authority.toArray⟩, .string ⟨v.path.toArray⟩, .string ⟨v.query.toArray⟩, .string ⟨v.fragment.toArray⟩, .bool true, .bool v.ha, .bool v.hq, .bool v.hf] 23)) := hK7.alloc _
      have hM8 := hM.keeps hK8 (by simp)
      have hV : (w7.alloc (.cells #[.string ⟨v.scheme.toArray⟩, .string ⟨v.authority.toArray⟩, .string ⟨v.path.toArray⟩, .string ⟨v.query.toArray⟩, .string ⟨v.fragment.toArray⟩, .bool true, .bool v.ha, .bool v.hq, .bool v.hf] 23)).heap[w7.heap.size]? = some (.cells #[.string ⟨v.scheme.toArray⟩, .string ⟨v.authority.toArray⟩, .string ⟨v.path.toArray⟩, .string ⟨v.query.toArray⟩, .string ⟨v.fragment.toArray⟩, .bool true, .bool v.ha, .bool v.hq, .bool v.hf] 23 (0, 0)) := heap_alloc_new _ _
      go_wp2_with fail
      refine (rB.out _ hM8).mono ?_
      rintro e w9 ⟨rfl, hk9⟩
      have hV9 : w9.heap[w7.heap.size]? = some (.cells #[.string ⟨v.scheme.toArray⟩, .string ⟨v.authority.toArray⟩, .string ⟨v.path.toArray⟩, .string ⟨v.query.toArray⟩, .string ⟨v.fragment.toArray⟩, .bool true, .bool v.ha, .bool v.hq, .bool v.hf] 23 (0, 0)) := by rw [hk9.block _ (lt_of_block hV) (by simp)]; exact hV
      have c5 : w9.cell? ⟨w7.heap.size, 5, none⟩ = some (.bool true) := by rw [Lib.cell_of_heap hV9]; rfl
      go_wp2_with fail
      go_ret
      exact ⟨by simp, hK8.trans hk9⟩
    · have hX := resX_bad hE
      rw [hX] at rA
      generalize resE base.data.toList s.data.toList = E at *
      have hE' : (E != 0) = true := by simpa using hE
      have hE2 : (E == 0) = false := by simpa using hE
      clear hX hE
      unfold urlV urlCells at sp jn
      go_enter Try.func3, Try.ntmps3
      go_wp2_with fail
      refine (sp.out _ hM).mono ?_
      rintro e w1 ⟨rfl, hk1⟩
      have hka : Keeps [] w (w1.alloc (.cells #[.string ⟨u.scheme.toArray⟩, .string ⟨u.authority.toArray⟩, .string ⟨u.path.toArray⟩, .string ⟨u.query.toArray⟩, .string ⟨u.fragment.toArray⟩, .bool u.hs, .bool u.ha, .bool u.hq, .bool u.hf] 23)) := hk1.alloc _
      have hU : IsUrl (w1.alloc (.cells #[.string ⟨u.scheme.toArray⟩, .string ⟨u.authority.toArray⟩, .string ⟨u.path.toArray⟩, .string ⟨u.query.toArray⟩, .string ⟨u.fragment.toArray⟩, .bool u.hs, .bool u.ha, .bool u.hq, .bool u.hf] 23)) w1.heap.size u := heap_alloc_new _ _
      go_wp2_with fail
      refine (urlBegun_any _ (hM.keeps hka (by simp))).mono ?_
      rintro e w2 ⟨rfl, hk2⟩
      have hK2 := hka.trans hk2
      have hM2 := hM.keeps hK2 (by simp)
      have hU2 := hU.keeps hk2 (by simp)
      have n0 : w2.cell? ⟨w1.heap.size, 0, none⟩ = some (.string ⟨u.scheme.toArray⟩) := hU2.cell 0
      have n1 : w2.cell? ⟨w1.heap.size, 1, none⟩ = some (.string ⟨u.authority.toArray⟩) := hU2.cell 1
      have n2 : w2.cell? ⟨w1.heap.size, 2, none⟩ = some (.string ⟨u.path.toArray⟩) := hU2.cell 2
      have n3 : w2.cell? ⟨w1.heap.size, 3, none⟩ = some (.string ⟨u.query.toArray⟩) := hU2.cell 3
      have n4 : w2.cell? ⟨w1.heap.size, 4, none⟩ = some (.string ⟨u.fragment.toArray⟩) := hU2.cell 4
      have n5 : w2.cell? ⟨w1.heap.size, 5, none⟩ = some (.bool u.hs) := hU2.cell 5
      have n6 : w2.cell? ⟨w1.heap.size, 6, none⟩ = some (.bool u.ha) := hU2.cell 6
      have n7 : w2.cell? ⟨w1.heap.size, 7, none⟩ = some (.bool u.hq) := hU2.cell 7
      have n8 : w2.cell? ⟨w1.heap.size, 8, none⟩ = some (.bool u.hf) := hU2.cell 8
      go_wp2_with fail
      refine (jn.out _ hM2).mono ?_
      rintro e w3 ⟨rfl, hk3⟩
      have hK3 := hK2.trans hk3
      have hM3 := hM.keeps hK3 (by simp)
      go_wp2_with fail
      refine (d1.out _).mono ?_
      rintro e w4 ⟨rfl, hk4⟩
      have hK4 := hK3.trans hk4
      go_wp2_with fail
      refine (d2.out _).mono ?_
      rintro e w5 ⟨rfl, hk5⟩
      have hK5 := hK4.trans hk5
      have hM5 := hM.keeps hK5 (by simp)
      go_wp2_with fail
      refine (rA.out _ hM5).mono ?_
      rintro e w6 ⟨rfl, hk6⟩
      have hK6 := hK5.trans hk6
      have hM6 := hM.keeps hK6 (by simp)
      go_wp2_with fail
      go_ret
      exact ⟨by simp, hK6⟩
end Go.Proofs.Ytaeblkmkpfklkac
