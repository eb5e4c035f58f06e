/- told and sign: the code point that a name tells, and the one that stands at a place. -/
import Derived.Test.YtngojdajamgababGreatSign
import Derived.Lib.IndexBytes
namespace Go.Proofs.YtngojdajamgababGreat
open Go.RowKit

theorem told_eq (s : ByteArray) : toldL s.data.toList =
    if (s.toList == [97, 109, 112]) = true then some 38
    else if (s.toList == [108, 116]) = true then some 60
    else if (s.toList == [103, 116]) = true then some 62
    else if (s.toList == [113, 117, 111, 116]) = true then some 34
    else if (s.toList == [97, 112, 111, 115]) = true then some 39
    else if Lib.hasPrefix s.data.toList [35, 120] = true then numL 16 6 (s.data.toList.drop 2)
    else if Lib.hasPrefix s.data.toList [35] = true then numL 10 7 (s.data.toList.drop 1)
    else none := by
  rw [ByteArray.toList_eq]
  generalize s.data.toList = l
  by_cases h1 : l = [97, 109, 112]
  · simp [toldL, h1]
  by_cases h2 : l = [108, 116]
  · simp [toldL, h2]
  by_cases h3 : l = [103, 116]
  · simp [toldL, h3]
  by_cases h4 : l = [113, 117, 111, 116]
  · simp [toldL, h4]
  by_cases h5 : l = [97, 112, 111, 115]
  · simp [toldL, h5]
  simp [toldL, Lib.hasPrefix, h1, h2, h3, h4, h5]

theorem prefix_size {s : ByteArray} {p : List UInt8} (h : Lib.hasPrefix s.data.toList p = true) : p.length ≤ s.size := by
  have := List.IsPrefix.length_le (List.isPrefixOf_iff_prefix.1 h)
  simpa using this

set_option maxHeartbeats 1000000 in
theorem told_any (s : ByteArray) (hs : s.size ≤ 3000) (w : World) :
    Calls Tryz.prog 124 #[.string s] w fun e w' => e = ans (toldL s.data.toList) ∧ w' = w := by
  have hx2 : (s.extract 2 s.size).data.toList = s.data.toList.drop 2 := Lib.extract_to_end s 2
  have hx1 : (s.extract 1 s.size).data.toList = s.data.toList.drop 1 := Lib.extract_to_end s 1
  have hn2 : ∀ w, Calls Tryz.prog 126 #[.string (s.extract 2 s.size), .int .i64 16, .int .i64 6] w fun e w' => e = ans (numL 16 6 (s.data.toList.drop 2)) ∧ w' = w := fun w => hx2 ▸ number_any (s.extract 2 s.size) 16 6 (by simp) (by simp; omega) w
  have hn1 : ∀ w, Calls Tryz.prog 126 #[.string (s.extract 1 s.size), .int .i64 10, .int .i64 7] w fun e w' => e = ans (numL 10 7 (s.data.toList.drop 1)) ∧ w' = w := fun w => hx1 ▸ number_any (s.extract 1 s.size) 10 7 (by simp) (by simp; omega) w
  have H2 := hide hn2
  have H1 := hide hn1
  clear hn1 hn2 hx1 hx2
  rw [told_eq]
  cases hp2 : Lib.hasPrefix s.data.toList [35, 120]
  · cases hp1 : Lib.hasPrefix s.data.toList [35]
    · go_enter Tryz.func124, Tryz.ntmps124
      go_wp2_with (first | (go_at_call 92; refine (Tryz.strings_HasPrefix _ _ _).mono ?_; rintro e w' ⟨rfl, rfl⟩) | fail)
      all_goals go_ret2
      all_goals (simp [ans, *])
    · have hz := prefix_size hp1
      simp only [List.length_cons, List.length_nil] at hz
      go_enter Tryz.func124, Tryz.ntmps124
      go_wp2_with (first | (go_at_call 92; refine (Tryz.strings_HasPrefix _ _ _).mono ?_; rintro e w' ⟨rfl, rfl⟩) | (go_at_call 126; refine (H1.out _).mono ?_; rintro e w' ⟨rfl, rfl⟩; unfold ans))
      all_goals go_ret2
      all_goals (simp [ans, *])
  · have hz := prefix_size hp2
    simp only [List.length_cons, List.length_nil] at hz
    go_enter Tryz.func124, Tryz.ntmps124
    go_wp2_with (first | (go_at_call 92; refine (Tryz.strings_HasPrefix _ _ _).mono ?_; rintro e w' ⟨rfl, rfl⟩) | (go_at_call 126; refine (H2.out _).mono ?_; rintro e w' ⟨rfl, rfl⟩; unfold ans))
    all_goals go_ret2
    all_goals (simp [ans, *])

theorem enters_of {f : FuncId} {fn : Func} (hf : Tryz.prog.funcs[f]? = some fn) (hname : (fn.name == "runtime.NumGoroutine") = false) (hb : fn.body.isSome = true) : Enters f := by
  intro args w
  obtain ⟨c, hc⟩ := Option.isSome_iff_exists.1 hb
  have h1 : fn.name ≠ "runtime.NumGoroutine" := by simpa using hname
  simp [callFunc, hf, h1, hc]
theorem enters114 : Enters 114 := enters_of Tryz.func114 (by kernel_rfl) (by kernel_rfl)
theorem enters123 : Enters 123 := enters_of Tryz.func123 (by kernel_rfl) (by kernel_rfl)

/-- Where a name at a place ends. -/
def nameLen (s : ByteArray) (k : Nat) : Nat := passLen inName (s.data.toList.drop k)

theorem pass84 (b : Nat) (s : ByteArray) (k : Nat) (w : World) (hs : s.size ≤ 3000) (hT : IsText w b s k) (hk : k ≤ s.size) :
    Calls Tryz.prog 73 #[.pointer (some ⟨b, 0, none⟩), .func (.func 123) #[] #[]] w fun e w' =>
      e = .returned (.string (s.extract k (k + nameLen s k))) ∧ IsText w' b s (k + nameLen s k) ∧ Keeps [b] w w' :=
  pass_any 123 #[] inName b s k w hs hT hk enters123 fun c w1 _ => (inName_any c w1).mono fun _ _ ⟨he, hw⟩ => ⟨he, 0, hw⟩

theorem nameLen_le (s : ByteArray) (k : Nat) (hk : k ≤ s.size) : k + nameLen s k ≤ s.size := by
  have h1 : (s.data.toList.drop k).length = s.size - k := by rw [List.length_drop]; rfl
  have h2 : nameLen s k ≤ (s.data.toList.drop k).length := (List.takeWhile_sublist _).length_le
  omega

theorem extract_name (s : ByteArray) (k : Nat) : (s.extract k (k + nameLen s k)).data.toList = (s.data.toList.drop k).takeWhile inName := by
  rw [Lib.extract_data, Nat.add_sub_cancel_left]
  exact (List.prefix_iff_eq_take.1 (List.takeWhile_prefix _)).symm

theorem getElem_byteAt (s : ByteArray) (k : Nat) (hk : k < s.size) : s.data.toList[k]? = some (byteAt s k) := by
  have hl : k < s.data.toList.length := by simpa using hk
  rw [byteAt, List.getD_eq_getElem?_getD, List.getElem?_eq_getElem hl]
  rfl

theorem signL_end (s : ByteArray) (k : Nat) (h : s.size ≤ k + nameLen s k) : signL (s.data.toList.drop k) = none := by
  unfold signL
  rw [if_neg]
  rw [List.getElem?_drop, List.getElem?_eq_none (by exact h)]
  simp

theorem signL_other (s : ByteArray) (k : Nat) (h : k + nameLen s k < s.size) (hc : byteAt s (k + nameLen s k) ≠ 59) : signL (s.data.toList.drop k) = none := by
  unfold signL
  rw [if_neg]
  rw [List.getElem?_drop]
  intro he
  have := (getElem_byteAt s _ h).symm.trans he
  exact hc (by simpa using this)

theorem signL_told (s : ByteArray) (k : Nat) (h : k + nameLen s k < s.size) (hc : byteAt s (k + nameLen s k) = 59) :
    signL (s.data.toList.drop k) = (toldL (s.extract k (k + nameLen s k)).data.toList).map fun n => (n, nameLen s k + 1) := by
  unfold signL
  rw [if_pos, extract_name]
  · rfl
  · rw [List.getElem?_drop]
    have := getElem_byteAt s _ h
    rw [hc] at this
    exact this

set_option maxHeartbeats 1000000 in
theorem sign_any (b : Nat) (s : ByteArray) (k : Nat) (w : World) (hs : s.size ≤ 3000) (hT : IsText w b s k) (hk : k < s.size) :
    Calls Tryz.prog 120 #[.pointer (some ⟨b, 0, none⟩)] w fun e w' =>
      ((∃ n m, signL (s.data.toList.drop (k + 1)) = some (n, m) ∧ e = .returned (.int .i64 (n : Nat)) ∧ IsText w' b s (k + 1 + m)) ∨ (signL (s.data.toList.drop (k + 1)) = none ∧ e = .panicked gave ∧ ∃ j, IsText w' b s j)) ∧ Keeps [b] w w' := by
  have hle := nameLen_le s (k + 1) (by omega)
  by_cases hin : k + 1 + nameLen s (k + 1) < s.size
  · by_cases hc : byteAt s (k + 1 + nameLen s (k + 1)) = 59
    · have he := signL_told s (k + 1) hin hc
      have hsz : (s.extract (k + 1) (k + 1 + nameLen s (k + 1))).size ≤ 3000 := by simp; omega
      have htold := hide fun w => told_any _ hsz w
      cases ht : toldL (s.extract (k + 1) (k + 1 + nameLen s (k + 1))).data.toList with
      | none =>
        rw [ht] at he htold
        have HE := hide he
        clear he ht
        go_enter Tryz.func120, Tryz.ntmps120
        go_wp2_with fail
        refine (one_yes b s k _ hs hT hk).mono ?_
        rintro e w1 ⟨rfl, hT1, hk1⟩
        go_wp2_with fail
        refine (pass84 b s (k + 1) _ hs hT1 (by omega)).mono ?_
        rintro e w2 ⟨rfl, hT2, hk2⟩
        go_wp2_with fail
        refine (one_yes b s _ _ hs hT2 hin).mono ?_
        rintro e w3 ⟨rfl, hT3, hk3⟩
        rw [hc]
        go_wp2_with fail
        refine (htold.out _).mono ?_
        rintro e w4 ⟨rfl, rfl⟩
        unfold ans
        go_wp2_with fail
        refine (giveUp_any _).mono ?_
        rintro e w5 ⟨rfl, rfl⟩
        go_wp2_with fail
        exact ⟨rfl, .inr ⟨HE.out, rfl, _, hT3⟩, (hk1.trans hk2).trans hk3⟩
      | some n =>
        rw [ht] at he htold
        have HE := hide he
        clear he ht
        go_enter Tryz.func120, Tryz.ntmps120
        go_wp2_with fail
        refine (one_yes b s k _ hs hT hk).mono ?_
        rintro e w1 ⟨rfl, hT1, hk1⟩
        go_wp2_with fail
        refine (pass84 b s (k + 1) _ hs hT1 (by omega)).mono ?_
        rintro e w2 ⟨rfl, hT2, hk2⟩
        go_wp2_with fail
        refine (one_yes b s _ _ hs hT2 hin).mono ?_
        rintro e w3 ⟨rfl, hT3, hk3⟩
        rw [hc]
        go_wp2_with fail
        refine (htold.out _).mono ?_
        rintro e w4 ⟨rfl, rfl⟩
        unfold ans
        go_wp2_with fail
        go_ret
        exact ⟨.inl ⟨n, nameLen s (k + 1) + 1, HE.out, rfl, hT3⟩, (hk1.trans hk2).trans hk3⟩
    · have HE := hide (signL_other s (k + 1) hin hc)
      have hne : ((byteAt s (k + 1 + nameLen s (k + 1))).toNat : Int) != 59 := by
        have := byte_bne (byteAt s (k + 1 + nameLen s (k + 1))) 59
        rw [show ((59 : UInt8).toNat : Int) = 59 from rfl] at this
        rw [this]; simpa using hc
      go_enter Tryz.func120, Tryz.ntmps120
      go_wp2_with fail
      refine (one_yes b s k _ hs hT hk).mono ?_
      rintro e w1 ⟨rfl, hT1, hk1⟩
      go_wp2_with fail
      refine (pass84 b s (k + 1) _ hs hT1 (by omega)).mono ?_
      rintro e w2 ⟨rfl, hT2, hk2⟩
      go_wp2_with fail
      refine (one_yes b s _ _ hs hT2 hin).mono ?_
      rintro e w3 ⟨rfl, hT3, hk3⟩
      go_wp2_with fail
      refine (giveUp_any _).mono ?_
      rintro e w5 ⟨rfl, rfl⟩
      go_wp2_with fail
      exact ⟨rfl, .inr ⟨HE.out, rfl, _, hT3⟩, (hk1.trans hk2).trans hk3⟩
  · have HE := hide (signL_end s (k + 1) (by omega))
    go_enter Tryz.func120, Tryz.ntmps120
    go_wp2_with fail
    refine (one_yes b s k _ hs hT hk).mono ?_
    rintro e w1 ⟨rfl, hT1, hk1⟩
    go_wp2_with fail
    refine (pass84 b s (k + 1) _ hs hT1 (by omega)).mono ?_
    rintro e w2 ⟨rfl, hT2, hk2⟩
    go_wp2_with fail
    refine (one_no b s _ _ hT2 (by omega)).mono ?_
    rintro e w3 ⟨rfl, n, rfl⟩
    go_wp2_with fail
    exact ⟨rfl, .inr ⟨HE.out, rfl, _, hT2⟩, (hk1.trans hk2).drewN _⟩
end Go.Proofs.YtngojdajamgababGreat
