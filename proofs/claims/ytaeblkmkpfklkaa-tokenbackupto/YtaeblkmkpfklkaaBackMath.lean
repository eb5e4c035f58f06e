/- What is printed is read as it was: readL (toksP l) = l for tokens that Check passes. -/
import Derived.Test.YtaeblkmkpfklkaaTagMath
namespace Go.Proofs.Ytaeblkmkpfklkaa

/-- In what is put no sign stands that would begin a tag, or end a value. -/
theorem putB_signs (c d : UInt8) (h : d ∈ putB c) : d ≠ 60 ∧ d ≠ 62 ∧ d ≠ 34 := by
  unfold putB at h
  split at h
  · simp at h; rcases h with h | h | h | h | h <;> subst h <;> decide
  · split at h
    · simp at h; rcases h with h | h | h | h <;> subst h <;> decide
    · split at h
      · simp at h; rcases h with h | h | h | h <;> subst h <;> decide
      · split at h
        · simp at h; rcases h with h | h | h | h | h | h <;> subst h <;> decide
        · rename_i h1 h2 h3 h4
          simp at h; subst h; exact ⟨h2, h3, h4⟩

theorem putL_signs (l : List UInt8) (d : UInt8) (h : d ∈ putL l) : d ≠ 60 ∧ d ≠ 62 ∧ d ≠ 34 := by
  simp only [putL, List.mem_flatMap] at h
  obtain ⟨c, _, hc⟩ := h
  exact putB_signs c d hc

theorem nameB_facts {c : UInt8} (h : nameB c = true) : tagN c = true ∧ attrN c = true ∧ lowB c = c ∧ skipB c = false ∧ c ≠ 62 := by
  have h256 : ∀ i : Fin 256, nameB (UInt8.ofNat i.val) = true → tagN (UInt8.ofNat i.val) = true ∧ attrN (UInt8.ofNat i.val) = true ∧ lowB (UInt8.ofNat i.val) = UInt8.ofNat i.val ∧ skipB (UInt8.ofNat i.val) = false ∧ UInt8.ofNat i.val ≠ 62 := by decide +kernel
  have := h256 ⟨c.toNat, UInt8.toNat_lt c⟩
  simp only [UInt8.ofNat_toNat] at this
  exact this h

theorem smallB_letter {c : UInt8} (h : smallB c = true) : letterB c = true := by simp [letterB, h]

theorem name_parts {n : List UInt8} (h : isNameL n = true) : (∀ c ∈ n, nameB c = true) ∧ ∃ c r, n = c :: r ∧ smallB c = true := by
  unfold isNameL at h
  simp only [Bool.and_eq_true, decide_eq_true_eq, List.all_eq_true] at h
  obtain ⟨⟨⟨h1, _⟩, h3⟩, h4⟩ := h
  refine ⟨h4, ?_⟩
  cases n with
  | nil => simp at h1
  | cons c r => exact ⟨c, r, rfl, by simpa using h3⟩

theorem lower_name {n : List UInt8} (h : ∀ c ∈ n, nameB c = true) : lowerL n = n := by
  unfold lowerL
  induction n with
  | nil => rfl
  | cons a n ih =>
    rw [List.map_cons, (nameB_facts (h a (by simp))).2.2.1, ih (fun c hc => h c (by simp [hc]))]

/-- An attribute as it is printed, behind its blank. -/
theorem attrL_printed {n v t : List UInt8} (hn : isNameL n = true) : attrL (n ++ [61, 34] ++ putL v ++ [34] ++ t) = some ((n, v), n.length + 2 + (putL v).length + 1) := by
  obtain ⟨hall, c, r, rfl, hc⟩ := name_parts hn
  have hr : ∀ x ∈ r, attrN x = true := fun x hx => (nameB_facts (hall x (by simp [hx]))).2.1
  have e0 : c :: r ++ [61, 34] ++ putL v ++ [34] ++ t = c :: (r ++ 61 :: (34 :: (putL v ++ 34 :: t))) := by simp
  rw [e0]
  have hL : (r ++ 61 :: (34 :: (putL v ++ 34 :: t))).takeWhile attrN = r := takeWhile_stop hr (by decide)
  have hd : (c :: (r ++ 61 :: (34 :: (putL v ++ 34 :: t)))).drop (1 + r.length) = 61 :: (34 :: (putL v ++ 34 :: t)) := by
    rw [show c :: (r ++ 61 :: (34 :: (putL v ++ 34 :: t))) = (c :: r) ++ 61 :: (34 :: (putL v ++ 34 :: t)) from rfl, show 1 + r.length = (c :: r).length from by simp; omega, List.drop_left]
  have hW : ((c :: (r ++ 61 :: (34 :: (putL v ++ 34 :: t)))).drop (1 + r.length)).takeWhile whiteB = [] := by rw [hd]; rfl
  rw [attrL_cons _ _ r [] hL hW]
  have hv := valL_quote (.inl rfl) (putL v) t (fun x hx => (putL_signs v x hx).2.2)
  have hw : (34 :: (putL v ++ 34 :: t)).takeWhile whiteB = [] := rfl
  simp only [List.length_nil, Nat.add_zero, hd, if_true, hw, List.drop_zero, hv]
  rw [lower_name hall, takeL_putL]
  simp
  omega

/-- Attributes as they are printed, up to the > of their tag. -/
theorem attrs_printed (L : List UInt8) : ∀ (la acc : List Pair) (f k : Nat) (t : List UInt8), L.drop k = pairsP la ++ 62 :: t → la.length < f → chkA la (acc.map (·.1)) = 0 → attrsAt L f k acc = some (acc ++ la, k + (pairsP la).length)
  | [], acc, f, k, t, h, hf, _ => by
    obtain ⟨g, rfl⟩ : ∃ g, f = g + 1 := ⟨f - 1, by simp at hf; omega⟩
    rw [attrs_end (sk := []) (by simpa [pairsP] using h) (by simp)]
    simp [pairsP]
  | p :: la, acc, f, k, t, h, hf, hc => by
    obtain ⟨g, rfl⟩ : ∃ g, f = g + 1 := ⟨f - 1, by simp at hf; omega⟩
    unfold chkA at hc
    have hn : isNameL p.1 = true := by
      cases hq : isNameL p.1
      · simp [hq] at hc
      · rfl
    have hm : p.1 ∉ acc.map (·.1) := by
      intro hm
      simp [hn, hm] at hc
    have hc' : chkA la ((acc ++ [p]).map (·.1)) = 0 := by
      rw [List.map_append]
      simpa [hn, hm] using hc
    have ha := attrL_printed (v := p.2) (t := pairsP la ++ 62 :: t) hn
    obtain ⟨hall, c, r, hcr, _⟩ := name_parts hn
    have e1 : L.drop k = [32] ++ c :: (r ++ [61, 34] ++ putL p.2 ++ [34] ++ (pairsP la ++ 62 :: t)) := by
      rw [h]
      simp [pairsP, pairP, hcr]
    have ha' : attrL (c :: (r ++ [61, 34] ++ putL p.2 ++ [34] ++ (pairsP la ++ 62 :: t))) = some (p, p.1.length + 2 + (putL p.2).length + 1) := by
      rw [← ha, hcr]
      simp
    have hcf := nameB_facts (hall c (by rw [hcr]; simp))
    rw [attrs_one e1 (by decide) hcf.2.2.2.1 hcf.2.2.2.2 ha' hm hn]
    have hlen : (pairP p).length = 1 + (p.1.length + 2 + (putL p.2).length + 1) := by simp [pairP]; omega
    have e2 : L.drop (k + ([32] : List UInt8).length + (p.1.length + 2 + (putL p.2).length + 1)) = pairsP la ++ 62 :: t := by
      rw [show k + ([32] : List UInt8).length + (p.1.length + 2 + (putL p.2).length + 1) = k + (pairP p).length from by rw [hlen]; simp; omega, ← drop_drop', h, show pairsP (p :: la) = pairP p ++ pairsP la from by simp [pairsP], List.append_assoc, List.drop_left]
    rw [attrs_printed L la (acc ++ [p]) g _ t e2 (by simp at hf; omega) hc']
    have e3 : pairsP (p :: la) = pairP p ++ pairsP la := by simp [pairsP]
    rw [e3, List.length_append, hlen]
    simp
    omega
end Go.Proofs.Ytaeblkmkpfklkaa
