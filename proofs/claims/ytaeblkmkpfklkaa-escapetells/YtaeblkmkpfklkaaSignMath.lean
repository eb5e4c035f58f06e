/- A sign at a place: what the document's loop over digits comes to. -/
import Derived.Test.YtaeblkmkpfklkaaRef
import Derived.Test.YtaeblkmkpfklkaaTaken
namespace Go.Proofs.Ytaeblkmkpfklkaa

/-- What signAt answers, of what stands behind the &. -/
def refT (l : List UInt8) : List UInt8 × Nat × Bool :=
  match signL l with
  | some (n, m) => if standsL n then (Lib.encodeRune n, 1 + m, true) else ([239, 191, 189], 1 + m, false)
  | none => ([], 0, false)

theorem stAt_and (s : ByteArray) (k : Nat) (hk : k < s.size) (hc : byteAt s k = 38) (p : List UInt8) : stAt s k (38 :: p) = p.isPrefixOf (s.data.toList.drop (k + 1)) := by
  rw [stAt, drop_byteAt s k hk, hc]
  simp

theorem refT_named {l p : List UInt8} {n : Nat} (h : (p ++ [59]).isPrefixOf l = true) (hp : ∀ c ∈ p, inName c = true) (ht : toldL p = some n) (hs : standsL n = true) : refT l = (Lib.encodeRune n, p.length + 2, true) := by
  obtain ⟨r, rfl⟩ := List.isPrefixOf_iff_prefix.1 h
  unfold refT
  rw [List.append_assoc, List.singleton_append, signL_named hp ht]
  simp [hs]
  omega

theorem refT_none {l : List UInt8} (h : signL l = none) : refT l = ([], 0, false) := by
  unfold refT; rw [h]

/-- A number by a base begins at a place. -/
def NumAt (s : ByteArray) (k fr base most : Nat) : Prop :=
  ∃ pre, s.data.toList.drop (k + 1) = pre ++ s.data.toList.drop fr ∧ (∀ c ∈ pre, inName c = true) ∧ fr = k + 1 + pre.length ∧ base ≤ 16 ∧
    toldL (pre ++ nm (s.data.toList.drop fr)) = numL base most (nm (s.data.toList.drop fr)) ∧ ∀ j, toldL (pre ++ (s.data.toList.drop fr).take j) = numL base most ((s.data.toList.drop fr).take j)

theorem num16 (s : ByteArray) (k : Nat) (h : List.isPrefixOf [35, 120] (s.data.toList.drop (k + 1)) = true) : NumAt s k (k + 3) 16 6 := by
  obtain ⟨r, hr⟩ := List.isPrefixOf_iff_prefix.1 h
  have e : s.data.toList.drop (k + 3) = r := by
    have : s.data.toList.drop (k + 3) = (s.data.toList.drop (k + 1)).drop 2 := by rw [List.drop_drop]
    rw [this, ← hr]; simp
  refine ⟨[35, 120], by rw [e, hr], by decide, rfl, by omega, told16 _, fun j => told16 _⟩

theorem head_take (l : List UInt8) (h : l.head? ≠ some 120) (j : Nat) : (l.take j).head? ≠ some 120 := by
  cases l with
  | nil => simp
  | cons c l => cases j <;> simp_all

theorem head_nm (l : List UInt8) (h : l.head? ≠ some 120) : (nm l).head? ≠ some 120 := by
  cases l with
  | nil => simp [nm]
  | cons c l =>
    unfold nm
    rw [List.takeWhile_cons]
    split
    · simpa using h
    · simp

theorem num10 (s : ByteArray) (k : Nat) (h : List.isPrefixOf [35] (s.data.toList.drop (k + 1)) = true) (h2 : List.isPrefixOf [35, 120] (s.data.toList.drop (k + 1)) = false) : NumAt s k (k + 2) 10 7 := by
  obtain ⟨r, hr⟩ := List.isPrefixOf_iff_prefix.1 h
  have e : s.data.toList.drop (k + 2) = r := by
    have : s.data.toList.drop (k + 2) = (s.data.toList.drop (k + 1)).drop 1 := by rw [List.drop_drop]
    rw [this, ← hr]; simp
  have hh : r.head? ≠ some 120 := by
    cases r with
    | nil => simp
    | cons c r =>
      rw [← hr] at h2
      intro hc
      simp at hc
      subst hc
      simp at h2
  refine ⟨[35], by rw [e, hr], by decide, rfl, by omega, ?_, fun j => ?_⟩
  · rw [e]; exact told10 _ (head_nm r hh)
  · rw [e]; exact told10 _ (head_take r hh j)

/-- What has been read of a number, behind j digits. -/
def digits (s : ByteArray) (fr base j : Nat) : Option Nat := numF base 0 ((s.data.toList.drop fr).take j)

theorem digits_succ (s : ByteArray) (fr base j m : Nat) (hk : fr + j < s.size) (h : digits s fr base j = some m) (hd : ¬ base ≤ digV s[fr + j]) : digits s fr base (j + 1) = some (m * base + digV s[fr + j]) := by
  have hl : j < (s.data.toList.drop fr).length := by rw [List.length_drop]; have := len_size s; omega
  unfold digits at h ⊢
  rw [List.take_succ_eq_append_getElem hl, numF_snoc, h, Option.bind_some]
  have e : (s.data.toList.drop fr)[j] = s[fr + j] := by simp; rfl
  rw [e, if_neg hd]

theorem digits_lt {s : ByteArray} {fr base j m most : Nat} (hb : 1 ≤ base) (hj : j ≤ most) (h : digits s fr base j = some m) : m < base ^ most := by
  have := numF_lt base _ _ _ h
  have h2 : base ^ ((s.data.toList.drop fr).take j).length ≤ base ^ most := Nat.pow_le_pow_right hb (by rw [List.length_take]; omega)
  simp at this
  simp at h2
  omega

theorem num_bad {s : ByteArray} {k fr base most j m : Nat} (hN : NumAt s k fr base most) (hm : digits s fr base j = some m) (hj : fr + j ≤ s.size)
    (hexit : s.size ≤ fr + j ∨ base ≤ digV (byteAt s (fr + j)) ∨ most < j) (hbad : j = 0 ∨ most < j ∨ s.size ≤ fr + j ∨ byteAt s (fr + j) ≠ 59) : refT (s.data.toList.drop (k + 1)) = ([], 0, false) := by
  obtain ⟨pre, h1, h2, h3, h4, h5, h6⟩ := hN
  have hl := len_size s
  refine refT_none ?_
  rw [h1]
  have e : s.data.toList.drop fr = (s.data.toList.drop fr).take j ++ (s.data.toList.drop fr).drop j := (List.take_append_drop j _).symm
  have ed : (s.data.toList.drop fr).drop j = s.data.toList.drop (fr + j) := List.drop_drop
  have el : ((s.data.toList.drop fr).take j).length = j := by rw [List.length_take, List.length_drop]; omega
  rw [e]
  refine signL_nonum (base := base) (most := most) (n := m) h2 h4 hm (by rw [← e]; exact h5) ?_ ?_
  · rw [ed, el]
    by_cases hz : s.size ≤ fr + j
    · exact .inl (List.drop_eq_nil_of_le (by omega))
    · rcases hexit with h | h | h
      · omega
      · exact .inr (.inl ⟨_, _, drop_byteAt s (fr + j) (by omega), h⟩)
      · exact .inr (.inr h)
  · rw [ed, el]
    rcases hbad with h | h | h | h
    · subst h; exact .inl (by simp)
    · exact .inr (.inl h)
    · exact .inr (.inr (.inl (List.drop_eq_nil_of_le (by omega))))
    · by_cases hz : s.size ≤ fr + j
      · exact .inr (.inr (.inl (List.drop_eq_nil_of_le (by omega))))
      · exact .inr (.inr (.inr ⟨_, _, drop_byteAt s (fr + j) (by omega), h⟩))

theorem num_good {s : ByteArray} {k fr base most j m : Nat} (hN : NumAt s k fr base most) (hm : digits s fr base j = some m) (hj : fr + j < s.size) (h0 : 1 ≤ j) (hmost : j ≤ most) (hc : byteAt s (fr + j) = 59) :
    signL (s.data.toList.drop (k + 1)) = some (m, fr + j - k) := by
  obtain ⟨pre, h1, h2, h3, h4, h5, h6⟩ := hN
  have hl := len_size s
  have el : ((s.data.toList.drop fr).take j).length = j := by rw [List.length_take, List.length_drop]; omega
  have e : s.data.toList.drop fr = (s.data.toList.drop fr).take j ++ 59 :: s.data.toList.drop (fr + j + 1) := by
    conv => lhs; rw [← List.take_append_drop j (s.data.toList.drop fr), List.drop_drop, drop_byteAt s (fr + j) hj, hc]
  rw [h1, e, signL_num (base := base) (most := most) (n := m) h2 h4 hm (by omega) (by omega) (h6 j), el]
  simp
  omega

theorem refT_good {s : ByteArray} {k m c : Nat} (h : signL (s.data.toList.drop (k + 1)) = some (m, c)) : refT (s.data.toList.drop (k + 1)) = if standsL m then (Lib.encodeRune m, 1 + c, true) else ([239, 191, 189], 1 + c, false) := by
  unfold refT; rw [h]
end Go.Proofs.Ytaeblkmkpfklkaa
