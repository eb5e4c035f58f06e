/- What is read is right: chkL (readL s) = 0. -/
import Derived.Test.YtaeblkmkpfklkaaBackRead
namespace Go.Proofs.Ytaeblkmkpfklkaa

theorem encode_ne (n : Nat) : Lib.encodeRune n ≠ [] := by
  unfold Lib.encodeRune Lib.encodeRuneZ
  rw [Ne, List.map_eq_nil_iff]
  repeat' split
  all_goals simp

theorem takeOne_ne (l : List UInt8) (h : l ≠ []) : (takeOne l).1 ≠ [] := by
  unfold takeOne
  split
  · split
    · exact encode_ne _
    · exact encode_ne _
  · cases l with
    | nil => exact absurd rfl h
    | cons a l => simp

theorem takeL_ne {l : List UInt8} (h : l ≠ []) : (takeL l).1 ≠ [] := by
  cases l with
  | nil => exact absurd rfl h
  | cons c l =>
    by_cases hc : c = 38
    · rw [takeL_and c l hc]
      intro e
      exact takeOne_ne (c :: l) (by simp) (List.append_eq_nil_iff.1 e).1
    · rw [takeL_other c l hc]
      simp

/-- The kind of the last token, or p. -/
def lastK : Int → List Tok → Int
  | p, [] => p
  | _, t :: r => lastK t.kind r

theorem lastK_app (p : Int) (a b : List Tok) : lastK p (a ++ b) = lastK (lastK p a) b := by
  induction a generalizing p with
  | nil => rfl
  | cons t a ih => exact ih t.kind

theorem chkFrom_app {p : Int} {a b : List Tok} (ha : chkFrom p a = 0) (hb : chkFrom (lastK p a) b = 0) : chkFrom p (a ++ b) = 0 := by
  induction a generalizing p with
  | nil => exact hb
  | cons t a ih =>
    obtain ⟨h1, h2, h3⟩ := chkFrom_cons ha
    rw [List.cons_append]
    unfold chkFrom
    rw [if_neg (by simpa using h1), if_neg h2]
    exact ih h3 hb

theorem chkFrom_one {p : Int} {t : Tok} (h1 : chkT t = 0) (h2 : ¬ (t.kind = 1 ∧ p = 1)) : chkFrom p [t] = 0 := by
  unfold chkFrom
  rw [if_neg (by simpa using h1), if_neg h2]
  rfl

theorem endT_good {p : Int} (hp : p ≠ 1) (raw : List UInt8) : chkFrom p (endT raw) = 0 := by
  unfold endT
  split
  · rfl
  · rename_i h
    exact chkFrom_one (by simp [chkT, textTok, takeL_ne h]) (fun hq => hp hq.2)

theorem chkA_app (a : List Pair) (met : List (List UInt8)) (p : Pair) (h : chkA a met = 0) (hn : isNameL p.1 = true) (hm : p.1 ∉ met) (ha : p.1 ∉ a.map (·.1)) : chkA (a ++ [p]) met = 0 := by
  induction a generalizing met with
  | nil => simp [chkA, hn, hm]
  | cons q a ih =>
    unfold chkA at h
    rw [List.cons_append]
    unfold chkA
    split at h
    · simp at h
    · rename_i h1
      split at h
      · simp at h
      · rename_i h2
        rw [if_neg h1, if_neg h2]
        simp only [List.map_cons, List.mem_cons, not_or] at ha
        exact ih _ h (by simp [hm, ha.1]) ha.2

theorem attrsAt_good (l : List UInt8) : ∀ (f k : Nat) (acc a : List Pair) (k2 : Nat), chkA acc [] = 0 → attrsAt l f k acc = some (a, k2) → chkA a [] = 0
  | 0, k, acc, a, k2, _, h => by simp [attrsAt] at h
  | f + 1, k, acc, a, k2, hacc, h => by
    have e := (one_attrsAt h _ rfl).symm
    split at e
    · simp at e
    · split at e
      · simp only [Option.some.injEq, Prod.mk.injEq] at e
        rw [← e.1]; exact hacc
      · split at e
        · simp at e
        · rename_i p m _
          refine attrsAt_good l f _ _ _ _ ?_ e
          split
          · exact hacc
          · rename_i hc
            simp only [not_or] at hc
            exact chkA_app acc [] p hacc (by simpa using hc.2) (by simp) hc.1

/-- How many tokens are there, with the text that isn't taken yet? -/
def count (raw : List UInt8) (out : List Tok) : Nat := out.length + (endT raw).length

theorem count_tag (raw : List UInt8) (out : List Tok) (t : Tok) : count [] (out ++ endT raw ++ [t]) = count raw out + 1 := by
  simp [count, endT]
  omega

structure Good (k : Nat) (raw : List UInt8) (out : List Tok) : Prop where
  right : chkFrom 0 out = 0
  last : lastK 0 out ≠ 1
  few : count raw out ≤ k

theorem Good.tag {k k' : Nat} {raw : List UInt8} {out : List Tok} (h : Good k raw out) (t : Tok) (ht : chkT t = 0) (hk : t.kind ≠ 1) (hkk : k < k') : Good k' [] (out ++ endT raw ++ [t]) := by
  refine ⟨?_, ?_, by rw [count_tag]; have := h.few; omega⟩
  · exact chkFrom_app (chkFrom_app h.right (endT_good h.last raw)) (chkFrom_one ht (fun hq => hk hq.1))
  · rw [lastK_app]; exact hk

theorem Good.on {k k' : Nat} {raw raw' : List UInt8} {out : List Tok} (h : Good k raw out) (hk : k < k') : Good k' raw' out := by
  refine ⟨h.right, h.last, ?_⟩
  have h1 := h.few
  have h2 := endT_len raw'
  unfold count at h1 ⊢
  omega

theorem piece_good {l : List UInt8} {k : Nat} {raw : List UInt8} {out : List Tok} {k' : Nat} {raw' : List UInt8} {out' : List Tok} (h : pieceL l k raw out = some (k', raw', out')) (hk : k < l.length) (hg : Good k raw out) : Good k' raw' out' := by
  have hb := (pieceL_bound h hk).1
  unfold pieceL at h
  split at h
  · unfold openL at h
    split at h
    · simp at h
    · rename_i a k2 ha
      split at h
      · rename_i hn
        simp only [Option.some.injEq, Prod.mk.injEq] at h
        obtain ⟨rfl, rfl, rfl⟩ := h
        exact hg.tag _ (by simp [chkT, hn, attrsAt_good _ _ _ _ _ _ rfl ha]) (show (2 : Int) ≠ 1 by decide) hb
      · simp only [Option.some.injEq, Prod.mk.injEq] at h
        obtain ⟨rfl, rfl, rfl⟩ := h
        exact hg.on hb
  split at h
  · unfold closeL at h
    split at h
    · simp at h
    · split at h
      · rename_i hn
        simp only [Option.some.injEq, Prod.mk.injEq] at h
        obtain ⟨rfl, rfl, rfl⟩ := h
        exact hg.tag _ (by simp [chkT, hn]) (show (3 : Int) ≠ 1 by decide) hb
      · simp only [Option.some.injEq, Prod.mk.injEq] at h
        obtain ⟨rfl, rfl, rfl⟩ := h
        exact hg.on hb
  split at h
  · unfold comL at h
    split at h
    · simp at h
    · simp only [Option.some.injEq, Prod.mk.injEq] at h
      obtain ⟨rfl, rfl, rfl⟩ := h
      exact hg.on hb
  split at h
  · unfold declL at h
    split at h
    · simp at h
    · simp only [Option.some.injEq, Prod.mk.injEq] at h
      obtain ⟨rfl, rfl, rfl⟩ := h
      exact hg.on hb
  · unfold textL at h
    simp only [Option.some.injEq, Prod.mk.injEq] at h
    obtain ⟨rfl, rfl, rfl⟩ := h
    exact hg.on hb

theorem readAt_good (l : List UInt8) : ∀ (f k : Nat) (raw : List UInt8) (out : List Tok), k ≤ l.length → Good k raw out → chkFrom 0 (readAt l f k raw out) = 0 ∧ (readAt l f k raw out).length ≤ l.length
  | 0, k, raw, out, hk, hg => by
    refine ⟨chkFrom_app hg.right (endT_good hg.last raw), ?_⟩
    have := hg.few
    unfold count at this
    simp only [readAt, List.length_append]
    omega
  | f + 1, k, raw, out, hk, hg => by
    by_cases he : l.length ≤ k
    · rw [readAt_end he]
      refine ⟨chkFrom_app hg.right (endT_good hg.last raw), ?_⟩
      have := hg.few
      unfold count at this
      rw [List.length_append]
      omega
    · have hlt : k < l.length := by omega
      cases hp : pieceL l k raw out with
      | none =>
        rw [readAt_none hlt hp]
        exact readAt_good l f _ _ _ (Nat.le_refl _) (hg.on hlt)
      | some q =>
        obtain ⟨k', raw', out'⟩ := q
        rw [readAt_some hlt hp]
        exact readAt_good l f _ _ _ (pieceL_bound hp hlt).2.1 (piece_good hp hlt hg)

theorem readL_good (l : List UInt8) (h : l.length ≤ 3000) : chkL (readL l) = 0 := by
  have hg : Good 0 [] [] := ⟨rfl, by decide, by simp [count, endT]⟩
  have := readAt_good l (l.length + 1) 0 [] [] (Nat.zero_le _) hg
  unfold chkL readL
  rw [if_neg (by omega)]
  exact this.1
end Go.Proofs.Ytaeblkmkpfklkaa
