/- Resolve. -/
import Derived.Test.YtaeblkmkpfklkacUrlH
namespace Go.Proofs.Ytaeblkmkpfklkac
open Go.RowKit

theorem enters12 : Enters 12 := enters_of Try.func12 (by kernel_rfl) (by kernel_rfl)
theorem enters15 : Enters 15 := enters_of Try.func15 (by kernel_rfl) (by kernel_rfl)
theorem enters8 : Enters 8 := enters_of Try.func8 (by kernel_rfl) (by kernel_rfl)

theorem keeps_drew {S : List Nat} {w w' : World} (h : Keeps S w.drew w') : Keeps S w w' := ⟨h.os, h.tape, h.output, h.size, h.block⟩

/-- What is split of a text is no longer than that. -/
theorem split_len (l : List UInt8) : (splitL l).scheme.length ≤ l.length ∧ (splitL l).authority.length ≤ l.length ∧ (splitL l).path.length ≤ l.length ∧ (splitL l).query.length ≤ l.length ∧ (splitL l).fragment.length ≤ l.length := by
  have tw : ∀ (f : UInt8 → Bool) (k : Nat), ((l.drop k).takeWhile f).length ≤ l.length := fun f k => by
    have h1 : ((l.drop k).takeWhile f).length ≤ (l.drop k).length := (List.takeWhile_sublist _).length_le
    rw [List.length_drop] at h1
    omega
  refine ⟨?_, ?_, ?_, ?_, ?_⟩
  · show ((schemeL l).getD []).length ≤ _
    unfold schemeL
    split
    · have := tw schB 0
      simpa using this
    · simp
  · show (auL l).length ≤ _
    unfold auL
    split
    · exact tw _ _
    · simp
  · exact tw _ _
  · show (quL l).length ≤ _
    unfold quL
    split
    · exact tw _ _
    · simp
  · show (frL l).length ≤ _
    unfold frL
    split
    · rw [List.length_drop]; omega
    · simp

theorem res_short (b u : UrlT) (n : Nat) (hb : b.scheme.length ≤ n ∧ b.authority.length ≤ n ∧ b.path.length ≤ n ∧ b.query.length ≤ n ∧ b.fragment.length ≤ n) (hu : u.scheme.length ≤ n ∧ u.authority.length ≤ n ∧ u.path.length ≤ n ∧ u.query.length ≤ n ∧ u.fragment.length ≤ n) (hn : n ≤ 3000) : Short (resL b u) := by
  obtain ⟨b1, b2, b3, b4, b5⟩ := hb
  obtain ⟨u1, u2, u3, u4, u5⟩ := hu
  have h1 := dotsL_len u.path
  have h2 := dotsL_len (mergedL b u.path)
  have h3 := merged_len b u.path
  unfold Short resL
  split
  · exact ⟨by simp only; omega, by simp only; omega, by simp only; omega, by simp only; omega, by simp only; omega⟩
  split
  · exact ⟨by simp only; omega, by simp only; omega, by simp only; omega, by simp only; omega, by simp only; omega⟩
  · refine ⟨by simp only; omega, by simp only; omega, by simp only; omega, ?_, by simp only; omega⟩
    simp only
    split <;> omega

set_option maxHeartbeats 1000000 in
theorem resolve_long (s t : ByteArray) (w : World) (hs : s.size ≤ maxLen) (ht : t.size ≤ maxLen) (h : 3000 < s.size ∨ 3000 < t.size) :
    Calls Try.prog 10 #[.string s, .string t] w fun e w' => e = .returned (.tuple #[.string ⟨#[]⟩, .int .i64 2]) ∧ w' = w := by
  unfold maxLen at hs ht
  by_cases h1 : 3000 < s.size
  · have hd : decide ((3000 : Int) < (s.size : Int)) = true := by simp; omega
    go_enter Try.func10, Try.ntmps10
    go_wp2_with fail
    go_ret2
    exact ⟨rfl, rfl⟩
  · have hd : decide ((3000 : Int) < (s.size : Int)) = false := by simp; omega
    have hd2 : decide ((3000 : Int) < (t.size : Int)) = true := by simp; omega
    go_enter Try.func10, Try.ntmps10
    go_wp2_with fail
    go_ret2
    exact ⟨rfl, rfl⟩

set_option maxRecDepth 8000 in
set_option maxHeartbeats 10000000 in
theorem resolve_any (s t : ByteArray) (w : World) (hs : s.size ≤ 3000) (ht : t.size ≤ 3000) (hM : HasMax w) :
    Calls Try.prog 10 #[.string s, .string t] w fun e w' => e = ansO (resAns s.data.toList t.data.toList) ∧ Keeps [] w w' := by
  have hd : decide ((3000 : Int) < (s.size : Int)) = false := by simp; omega
  have hd2 : decide ((3000 : Int) < (t.size : Int)) = false := by simp; omega
  have sp1 := hide (fun w hM => split_any s w hs hM)
  have sp2 := hide (fun w hM => split_any t w ht hM)
  have hl1 := split_len s.data.toList
  have hl2 := split_len t.data.toList
  rw [len_size] at hl1 hl2
  have hsh := res_short (splitL s.data.toList) (splitL t.data.toList) 3000 ⟨by omega, by omega, by omega, by omega, by omega⟩ ⟨by omega, by omega, by omega, by omega, by omega⟩ (Nat.le_refl _)
  have hre := hide (fun w => resolved_any (splitL s.data.toList) (splitL t.data.toList) w (by omega) (by omega))
  have hjn := hide (fun w hM => join_any (resL (splitL s.data.toList) (splitL t.data.toList)) w hsh hM)
  obtain ⟨A, hA⟩ : ∃ A, resAns s.data.toList t.data.toList = A := ⟨_, rfl⟩
  rw [hA]
  have HA : Hid (A = if (splitL s.data.toList).hs = true then joinsL (resL (splitL s.data.toList) (splitL t.data.toList)) else none) := hA.symm
  clear hA hl1 hl2 hsh
  generalize resL (splitL s.data.toList) (splitL t.data.toList) = r at *
  generalize splitL s.data.toList = b at *
  generalize splitL t.data.toList = u at *
  unfold urlV urlCells at sp1 sp2 hre hjn
  have hx : Hid (∀ w : World, IsUrl (w.alloc (.cells #[.string ⟨b.scheme.toArray⟩, .string ⟨b.authority.toArray⟩, .string ⟨b.path.toArray⟩, .string ⟨b.query.toArray⟩, .string ⟨b.fragment.toArray⟩, .bool b.hs, .bool b.ha, .bool b.hq, .bool b.hf] 23)) w.heap.size b) := fun w => heap_alloc_new _ _
  cases hb : b.hs
  · have HA2 : Hid (A = none) := HA.out.trans (if_neg (by simp [hb]))
    rw [hb] at sp1
    clear hb HA
    go_enter Try.func10, Try.ntmps10
    go_wp2_with fail
    refine (sp1.out _ hM).mono ?_
    rintro e w1 ⟨rfl, hk1⟩
    go_wp2_with fail
    go_ret2
    exact ⟨by rw [HA2.out]; rfl, hk1.alloc _⟩
  · have HA2 : Hid (A = joinsL r) := HA.out.trans (if_pos hb)
    rw [hb] at sp1 hre hx
    clear HA
    cases hjr : joinsL r with
    | none =>
      rw [hjr] at hjn
      simp only [ansO] at hjn
      have HJ := hide hjr
      clear hjr
      go_enter Try.func10, Try.ntmps10
      go_wp2_with fail
      refine (sp1.out _ hM).mono ?_
      rintro e w1 ⟨rfl, hk1⟩
      have hM1 := hM.keeps hk1 (by simp)
      have hx1 := hx.out w1
      have hka : Keeps [] w1 (w1.alloc (.cells #[.string ⟨b.scheme.toArray⟩, .string ⟨b.authority.toArray⟩, .string ⟨b.path.toArray⟩, .string ⟨b.query.toArray⟩, .string ⟨b.fragment.toArray⟩, .bool true, .bool b.ha, .bool b.hq, .bool b.hf] 23)) := (Keeps.refl [] w1).alloc _
      have hMa := hM1.keeps hka (by simp)
      have AF : ∀ w2, Keeps [] (w1.alloc (.cells #[.string ⟨b.scheme.toArray⟩, .string ⟨b.authority.toArray⟩, .string ⟨b.path.toArray⟩, .string ⟨b.query.toArray⟩, .string ⟨b.fragment.toArray⟩, .bool true, .bool b.ha, .bool b.hq, .bool b.hf] 23)).drew w2 → IsUrl w2 w1.heap.size b := fun w2 hk2 => hx1.keeps (keeps_drew hk2) (by simp)
      have HAF := hide AF
      clear AF
      go_wp2_with fail
      go_region_law (first
        | (refine step_call rfl 12 _ _ rfl enters12 #[.string t] (by first | (simp [Act.eval]; done) | (simp [Act.eval, Act.put]; done) | kernel_rfl) (sp2.out _ (by exact hMa)) ?_; rintro e w2 ⟨rfl, hk2⟩; refine ⟨_, rfl, ?_⟩; have hka2 := hka.trans (keeps_drew hk2); have hx2 := HAF.out _ hk2; have n0 : w2.cell? ⟨w1.heap.size, 0, none⟩ = some (.string ⟨b.scheme.toArray⟩) := hx2.cell 0; have n1 : w2.cell? ⟨w1.heap.size, 1, none⟩ = some (.string ⟨b.authority.toArray⟩) := hx2.cell 1; have n2 : w2.cell? ⟨w1.heap.size, 2, none⟩ = some (.string ⟨b.path.toArray⟩) := hx2.cell 2; have n3 : w2.cell? ⟨w1.heap.size, 3, none⟩ = some (.string ⟨b.query.toArray⟩) := hx2.cell 3; have n4 : w2.cell? ⟨w1.heap.size, 4, none⟩ = some (.string ⟨b.fragment.toArray⟩) := hx2.cell 4; have n5 : w2.cell? ⟨w1.heap.size, 5, none⟩ = some (.bool b.hs) := hx2.cell 5; have n6 : w2.cell? ⟨w1.heap.size, 6, none⟩ = some (.bool b.ha) := hx2.cell 6; have n7 : w2.cell? ⟨w1.heap.size, 7, none⟩ = some (.bool b.hq) := hx2.cell 7; have n8 : w2.cell? ⟨w1.heap.size, 8, none⟩ = some (.bool b.hf) := hx2.cell 8; rw [hb] at n5; have hM2 := hMa.keeps (keeps_drew hk2) (by simp))
        | (refine step_call rfl 15 _ _ rfl enters15 #[.agg #[.string ⟨b.scheme.toArray⟩, .string ⟨b.authority.toArray⟩, .string ⟨b.path.toArray⟩, .string ⟨b.query.toArray⟩, .string ⟨b.fragment.toArray⟩, .bool true, .bool b.ha, .bool b.hq, .bool b.hf], .agg #[.string ⟨u.scheme.toArray⟩, .string ⟨u.authority.toArray⟩, .string ⟨u.path.toArray⟩, .string ⟨u.query.toArray⟩, .string ⟨u.fragment.toArray⟩, .bool u.hs, .bool u.ha, .bool u.hq, .bool u.hf]] (by first | (simp [Act.eval]; done) | (simp [Act.eval, Act.put]; done) | kernel_rfl) (hre.out _) ?_; rintro e w3 ⟨rfl, hk3⟩; refine ⟨_, rfl, ?_⟩)
        | (refine step_call rfl 8 _ _ rfl enters8 #[.agg #[.string ⟨r.scheme.toArray⟩, .string ⟨r.authority.toArray⟩, .string ⟨r.path.toArray⟩, .string ⟨r.query.toArray⟩, .string ⟨r.fragment.toArray⟩, .bool r.hs, .bool r.ha, .bool r.hq, .bool r.hf]] (by first | (simp [Act.eval]; done) | (simp [Act.eval, Act.put]; done) | kernel_rfl) (hjn.out _ (hM2.keeps hk3 (by simp))) ?_; rintro e w4 ⟨rfl, hk4⟩; refine ⟨_, rfl, ?_⟩))
      all_goals go_wp2
      all_goals go_ret2
      all_goals exact ⟨by rw [HA2.out, HJ.out]; rfl, hk1.trans ((hka2.trans hk3).trans hk4)⟩
    | some x =>
      rw [hjr] at hjn
      simp only [ansO] at hjn
      have HJ := hide hjr
      clear hjr
      go_enter Try.func10, Try.ntmps10
      go_wp2_with fail
      refine (sp1.out _ hM).mono ?_
      rintro e w1 ⟨rfl, hk1⟩
      have hM1 := hM.keeps hk1 (by simp)
      have hx1 := hx.out w1
      have hka : Keeps [] w1 (w1.alloc (.cells #[.string ⟨b.scheme.toArray⟩, .string ⟨b.authority.toArray⟩, .string ⟨b.path.toArray⟩, .string ⟨b.query.toArray⟩, .string ⟨b.fragment.toArray⟩, .bool true, .bool b.ha, .bool b.hq, .bool b.hf] 23)) := (Keeps.refl [] w1).alloc _
      have hMa := hM1.keeps hka (by simp)
      have AF : ∀ w2, Keeps [] (w1.alloc (.cells #[.string ⟨b.scheme.toArray⟩, .string ⟨b.authority.toArray⟩, .string ⟨b.path.toArray⟩, .string ⟨b.query.toArray⟩, .string ⟨b.fragment.toArray⟩, .bool true, .bool b.ha, .bool b.hq, .bool b.hf] 23)).drew w2 → IsUrl w2 w1.heap.size b := fun w2 hk2 => hx1.keeps (keeps_drew hk2) (by simp)
      have HAF := hide AF
      clear AF
      go_wp2_with fail
      go_region_law (first
        | (refine step_call rfl 12 _ _ rfl enters12 #[.string t] (by first | (simp [Act.eval]; done) | (simp [Act.eval, Act.put]; done) | kernel_rfl) (sp2.out _ (by exact hMa)) ?_; rintro e w2 ⟨rfl, hk2⟩; refine ⟨_, rfl, ?_⟩; have hka2 := hka.trans (keeps_drew hk2); have hx2 := HAF.out _ hk2; have n0 : w2.cell? ⟨w1.heap.size, 0, none⟩ = some (.string ⟨b.scheme.toArray⟩) := hx2.cell 0; have n1 : w2.cell? ⟨w1.heap.size, 1, none⟩ = some (.string ⟨b.authority.toArray⟩) := hx2.cell 1; have n2 : w2.cell? ⟨w1.heap.size, 2, none⟩ = some (.string ⟨b.path.toArray⟩) := hx2.cell 2; have n3 : w2.cell? ⟨w1.heap.size, 3, none⟩ = some (.string ⟨b.query.toArray⟩) := hx2.cell 3; have n4 : w2.cell? ⟨w1.heap.size, 4, none⟩ = some (.string ⟨b.fragment.toArray⟩) := hx2.cell 4; have n5 : w2.cell? ⟨w1.heap.size, 5, none⟩ = some (.bool b.hs) := hx2.cell 5; have n6 : w2.cell? ⟨w1.heap.size, 6, none⟩ = some (.bool b.ha) := hx2.cell 6; have n7 : w2.cell? ⟨w1.heap.size, 7, none⟩ = some (.bool b.hq) := hx2.cell 7; have n8 : w2.cell? ⟨w1.heap.size, 8, none⟩ = some (.bool b.hf) := hx2.cell 8; rw [hb] at n5; have hM2 := hMa.keeps (keeps_drew hk2) (by simp))
        | (refine step_call rfl 15 _ _ rfl enters15 #[.agg #[.string ⟨b.scheme.toArray⟩, .string ⟨b.authority.toArray⟩, .string ⟨b.path.toArray⟩, .string ⟨b.query.toArray⟩, .string ⟨b.fragment.toArray⟩, .bool true, .bool b.ha, .bool b.hq, .bool b.hf], .agg #[.string ⟨u.scheme.toArray⟩, .string ⟨u.authority.toArray⟩, .string ⟨u.path.toArray⟩, .string ⟨u.query.toArray⟩, .string ⟨u.fragment.toArray⟩, .bool u.hs, .bool u.ha, .bool u.hq, .bool u.hf]] (by first | (simp [Act.eval]; done) | (simp [Act.eval, Act.put]; done) | kernel_rfl) (hre.out _) ?_; rintro e w3 ⟨rfl, hk3⟩; refine ⟨_, rfl, ?_⟩)
        | (refine step_call rfl 8 _ _ rfl enters8 #[.agg #[.string ⟨r.scheme.toArray⟩, .string ⟨r.authority.toArray⟩, .string ⟨r.path.toArray⟩, .string ⟨r.query.toArray⟩, .string ⟨r.fragment.toArray⟩, .bool r.hs, .bool r.ha, .bool r.hq, .bool r.hf]] (by first | (simp [Act.eval]; done) | (simp [Act.eval, Act.put]; done) | kernel_rfl) (hjn.out _ (hM2.keeps hk3 (by simp))) ?_; rintro e w4 ⟨rfl, hk4⟩; refine ⟨_, rfl, ?_⟩))
      all_goals go_wp2
      all_goals go_ret2
      all_goals exact ⟨by rw [HA2.out, HJ.out]; rfl, hk1.trans ((hka2.trans hk3).trans hk4)⟩
end Go.Proofs.Ytaeblkmkpfklkac
