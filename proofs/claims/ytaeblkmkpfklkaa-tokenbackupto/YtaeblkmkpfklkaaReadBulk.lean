/- How much is read of a text: bulkL (readL l) ≤ 12 * l.length. -/
import Derived.Test.YtaeblkmkpfklkaaReadGood
import Derived.Test.YtaeblkmkpfklkaaPrintAll
namespace Go.Proofs.Ytaeblkmkpfklkaa

theorem takeF_len : ∀ (f : Nat) (l : List UInt8), (takeF f l).1.length ≤ 4 * l.length
  | 0, l => by simp [takeF]
  | f + 1, [] => by simp [takeF]
  | f + 1, c :: l => by
    unfold takeF
    split
    · have h1 := takeOne_le (c :: l) (by simp)
      have h2 := takeF_len f ((c :: l).drop (takeOne (c :: l)).2.1)
      rw [List.length_drop] at h2
      simp only [List.length_append]
      omega
    · have h2 := takeF_len f l
      simp only [List.length_cons]
      omega
theorem takeL_len (l : List UInt8) : (takeL l).1.length ≤ 4 * l.length := takeF_len _ _

theorem valL_both {l v : List UInt8} {m : Nat} (h : valL l = some (v, m)) : v.length ≤ m := by
  unfold valL at h
  split at h
  · simp at h
  · split at h
    · split at h
      · simp only [Option.some.injEq, Prod.mk.injEq] at h
        rw [← h.1, ← h.2]; omega
      · simp at h
    · simp only [Option.some.injEq, Prod.mk.injEq] at h
      rw [← h.1, ← h.2]
      exact Nat.le_refl _

theorem attrL_bulk {l : List UInt8} {p : Pair} {m : Nat} (h : attrL l = some (p, m)) : p.1.length + p.2.length + 2 ≤ 6 * m := by
  unfold attrL at h
  split at h
  · simp at h
  · split at h
    · simp at h
    · split at h
      · split at h
        · simp at h
        · rename_i v m' hv
          have h1 := valL_both hv
          have h2 := takeL_len v
          simp only [Option.some.injEq, Prod.mk.injEq] at h
          rw [← h.1]
          simp only [lowerL, List.length_map, List.length_cons]
          omega
      · simp only [Option.some.injEq, Prod.mk.injEq] at h
        rw [← h.1]
        simp only [lowerL, List.length_map, List.length_cons, List.length_nil]
        omega

theorem bulkP_app (a : List Pair) (p : Pair) : bulkP (a ++ [p]) = bulkP a + (p.1.length + p.2.length + 2) := by simp [bulkP]

theorem attrsAt_bulk (l : List UInt8) : ∀ (f k : Nat) (acc a : List Pair) (k2 : Nat), attrsAt l f k acc = some (a, k2) → bulkP a + 6 * k ≤ bulkP acc + 6 * k2
  | 0, k, acc, a, k2, h => by simp [attrsAt] at h
  | f + 1, k, acc, a, k2, h => by
    have e := (one_attrsAt h _ rfl).symm
    split at e
    · simp at e
    · split at e
      · simp only [Option.some.injEq, Prod.mk.injEq] at e
        rw [← e.1]; omega
      · split at e
        · simp at e
        · rename_i p m hp
          have h1 := attrsAt_bulk l f _ _ _ _ e
          have h2 := attrL_bulk hp
          split at h1
          · omega
          · rw [bulkP_app] at h1
            omega

theorem bulkL_app (a b : List Tok) : bulkL (a ++ b) = bulkL a + bulkL b := by simp [bulkL]
theorem endT_bulk (raw : List UInt8) : bulkL (endT raw) ≤ 8 * raw.length := by
  unfold endT
  split
  · simp [bulkL]
  · rename_i h
    have h1 := takeL_len raw
    have h2 : 1 ≤ raw.length := List.length_pos_iff.2 h
    simp [bulkL, bulkT, textTok, bulkP]
    omega

theorem piece_bulk {l : List UInt8} {k : Nat} {raw : List UInt8} {out : List Tok} {k' : Nat} {raw' : List UInt8} {out' : List Tok} (h : pieceL l k raw out = some (k', raw', out')) (hk : k < l.length) (hg : bulkL out + 8 * raw.length ≤ 12 * k) : bulkL out' + 8 * raw'.length ≤ 12 * k' := by
  have hb := (pieceL_bound h hk)
  have he := endT_bulk raw
  unfold pieceL at h
  split at h
  · unfold openL at h
    split at h
    · simp at h
    · rename_i a k2 ha
      have h1 := attrsAt_bulk _ _ _ _ _ _ ha
      have h2 := attrsAt_bound _ _ _ _ _ _ ha
      split at h
      · simp only [Option.some.injEq, Prod.mk.injEq] at h
        obtain ⟨rfl, rfl, rfl⟩ := h
        rw [bulkL_app, bulkL_app]
        simp [bulkL, bulkT, lowerL, bulkP] at h1 he hg ⊢
        omega
      · simp only [Option.some.injEq, Prod.mk.injEq] at h
        obtain ⟨rfl, rfl, rfl⟩ := h
        omega
  split at h
  · unfold closeL at h
    split at h
    · simp at h
    · rename_i m hm
      split at h
      · simp only [Option.some.injEq, Prod.mk.injEq] at h
        obtain ⟨rfl, rfl, rfl⟩ := h
        rw [bulkL_app, bulkL_app]
        simp [bulkL, bulkT, lowerL, bulkP] at he hg ⊢
        omega
      · simp only [Option.some.injEq, Prod.mk.injEq] at h
        obtain ⟨rfl, rfl, rfl⟩ := h
        omega
  split at h
  · unfold comL at h
    split at h
    · simp at h
    · simp only [Option.some.injEq, Prod.mk.injEq] at h
      obtain ⟨rfl, rfl, rfl⟩ := h
      omega
  split at h
  · unfold declL at h
    split at h
    · simp at h
    · simp only [Option.some.injEq, Prod.mk.injEq] at h
      obtain ⟨rfl, rfl, rfl⟩ := h
      omega
  · unfold textL at h
    simp only [Option.some.injEq, Prod.mk.injEq] at h
    obtain ⟨rfl, rfl, rfl⟩ := h
    omega

theorem readAt_bulk (l : List UInt8) : ∀ (f k : Nat) (raw : List UInt8) (out : List Tok), k ≤ l.length → bulkL out + 8 * raw.length ≤ 12 * k → bulkL (readAt l f k raw out) ≤ 12 * l.length
  | 0, k, raw, out, hk, hg => by
    have := endT_bulk raw
    simp only [readAt, bulkL_app]
    omega
  | f + 1, k, raw, out, hk, hg => by
    by_cases he : l.length ≤ k
    · rw [readAt_end he, bulkL_app]
      have := endT_bulk raw
      omega
    · have hlt : k < l.length := by omega
      cases hp : pieceL l k raw out with
      | none =>
        rw [readAt_none hlt hp]
        exact readAt_bulk l f _ _ _ (Nat.le_refl _) (by rw [List.length_append, List.length_drop]; omega)
      | some q =>
        obtain ⟨k', raw', out'⟩ := q
        rw [readAt_some hlt hp]
        exact readAt_bulk l f _ _ _ (pieceL_bound hp hlt).2.1 (piece_bulk hp hlt hg)

theorem readL_bulk (l : List UInt8) : bulkL (readL l) ≤ 12 * l.length := readAt_bulk l _ 0 [] [] (Nat.zero_le _) (by simp [bulkL])
end Go.Proofs.Ytaeblkmkpfklkaa
