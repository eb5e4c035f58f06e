/- What Read answers of a text without < and &, and of one with a comment. -/
import Derived.Test.YtaeblkmkpfklkabBegunT
namespace Go.Proofs.Ytaeblkmkpfklkab

/-- A text by itself. -/
def wantL (s : List UInt8) : List Tok := if s = [] then [] else [textTok s]

theorem drop_parts {l : List UInt8} {k : Nat} {a : UInt8} {r : List UInt8} (h : l.drop k = a :: r) : k < l.length ∧ l.getD k 0 = a ∧ l.drop (k + 1) = r ∧ l.length = k + 1 + r.length := by
  have hk : k < l.length := by
    rcases Nat.lt_or_ge k l.length with h' | h'
    · exact h'
    · rw [List.drop_eq_nil_of_le h'] at h; simp at h
  have e := List.drop_eq_getElem_cons hk
  rw [h] at e
  simp only [List.cons.injEq] at e
  refine ⟨hk, ?_, e.2.symm, ?_⟩
  · rw [List.getD_eq_getElem?_getD, List.getElem?_eq_getElem hk]; exact e.1.symm
  · have := congrArg List.length h
    rw [List.length_drop] at this
    simp at this
    omega

theorem st_head {l : List UInt8} {k : Nat} {a : UInt8} {r : List UInt8} (h : l.drop k = a :: r) (ha : a ≠ 60) (p : List UInt8) : stL l k (60 :: p) = false := by
  unfold stL
  rw [h]
  have : ((60 : UInt8) == a) = false := by simpa using Ne.symm ha
  simp [List.isPrefixOf, this]

theorem text_piece {l : List UInt8} {k : Nat} {a : UInt8} {r : List UInt8} (h : l.drop k = a :: r) (ha : a ≠ 60) (raw : List UInt8) (out : List Tok) :
    pieceL l k raw out = some (k + 1 + (r.takeWhile noLt).length, raw ++ [a] ++ r.takeWhile noLt, out) := by
  obtain ⟨h1, h2, h3, _⟩ := drop_parts h
  have e1 := st_head h ha []
  have e2 := st_head h ha [47]
  have e3 := st_head h ha [33, 45, 45]
  have e4 := st_head h ha [33]
  have e5 := st_head h ha [63]
  unfold pieceL tagL
  rw [e1, e2, e3, e4, e5]
  simp only [Bool.false_and, Bool.false_or, Bool.false_eq_true, if_false]
  unfold textL
  rw [h2, h3]

theorem noLt_all {s : List UInt8} (h : ∀ c ∈ s, c ≠ 60) : s.takeWhile noLt = s := by
  induction s with
  | nil => rfl
  | cons a s ih =>
    have : noLt a = true := by simp [noLt, h a (by simp)]
    rw [List.takeWhile_cons, this]
    simp [ih (fun c hc => h c (by simp [hc]))]
theorem noLt_upto {s t : List UInt8} (h : ∀ c ∈ s, c ≠ 60) : (s ++ 60 :: t).takeWhile noLt = s := by
  induction s with
  | nil => rfl
  | cons a s ih =>
    have : noLt a = true := by simp [noLt, h a (by simp)]
    rw [List.cons_append, List.takeWhile_cons, this]
    simp [ih (fun c hc => h c (by simp [hc]))]

theorem endT_plain {s : List UInt8} (h : (takeL s).1 = s) : endT s = wantL s := by
  unfold endT wantL
  rw [h]

theorem index_dash : ∀ (v : List UInt8), (∀ c ∈ v, c ≠ 62) → Lib.index (v ++ [45, 45, 62]) [45, 45, 62] = v.length
  | [], _ => by decide
  | [x], h => by
    have ih := index_dash [] (by simp)
    unfold Lib.index
    have hp : ([45, 45, 62] : List UInt8).isPrefixOf ([x] ++ [45, 45, 62]) = false := by simp [List.isPrefixOf]
    simp only [List.cons_append, List.nil_append] at hp ih ⊢
    rw [hp, ih]
    simp
  | [x, y], h => by
    have ih := index_dash [y] (fun c hc => h c (by simp at hc; simp [hc]))
    unfold Lib.index
    have hp : ([45, 45, 62] : List UInt8).isPrefixOf ([x, y] ++ [45, 45, 62]) = false := by simp [List.isPrefixOf]
    simp only [List.cons_append, List.nil_append] at hp ih ⊢
    rw [hp, ih]
    simp
  | x :: y :: z :: v, h => by
    have ih := index_dash (y :: z :: v) (fun c hc => h c (List.mem_cons_of_mem _ hc))
    unfold Lib.index
    have hz : z ≠ 62 := h z (by simp)
    have hp : ([45, 45, 62] : List UInt8).isPrefixOf (x :: y :: z :: v ++ [45, 45, 62]) = false := by
      have : ((62 : UInt8) == z) = false := by simpa using Ne.symm hz
      simp [List.isPrefixOf, this]
    simp only [List.cons_append] at hp ih ⊢
    rw [hp, ih]
    simp
    omega

theorem index_gt : ∀ (v t : List UInt8), (∀ c ∈ v, c ≠ 62) → Lib.index (v ++ 62 :: t) [62] = v.length
  | [], t, _ => by unfold Lib.index; simp
  | x :: v, t, h => by
    have ih := index_gt v t (fun c hc => h c (List.mem_cons_of_mem _ hc))
    unfold Lib.index
    have hx : x ≠ 62 := h x (by simp)
    have hp : ([62] : List UInt8).isPrefixOf (x :: v ++ 62 :: t) = false := by
      have : ((62 : UInt8) == x) = false := by simpa using Ne.symm hx
      simp [List.isPrefixOf, this]
    simp only [List.cons_append] at hp ih ⊢
    rw [hp, ih]
    simp

/-- Behind text: the place where it ends. -/
theorem read_text {l : List UInt8} {f k : Nat} {a : UInt8} {r : List UInt8} (h : l.drop k = a :: r) (hr : ∀ c ∈ a :: r, c ≠ 60) (raw : List UInt8) (out : List Tok) :
    readAt l (f + 1 + 1) k raw out = out ++ endT (raw ++ a :: r) := by
  obtain ⟨h1, _, _, h4⟩ := drop_parts h
  rw [readAt_some h1 (text_piece h (hr a (by simp)) raw out), noLt_all (fun c hc => hr c (List.mem_cons_of_mem _ hc)), readAt_end (by omega)]
  simp

theorem read_plain (s : List UInt8) (h : ∀ c ∈ s, c ≠ 60) (ht : (takeL s).1 = s) : readL s = wantL s := by
  unfold readL
  cases s with
  | nil => rfl
  | cons a r =>
    rw [List.length_cons, read_text (by simp) h]
    simpa using endT_plain ht

/-- A comment at a place. -/
theorem com_piece {l : List UInt8} {k : Nat} {c : List UInt8} (h : l.drop k = [60, 33, 45, 45] ++ c ++ [45, 45, 62]) (hc : ∀ x ∈ c, x ≠ 62) (raw : List UInt8) (out : List Tok) :
    pieceL l k raw out = some (l.length, raw, out) := by
  obtain ⟨h1, _, h3, h4⟩ := drop_parts (show l.drop k = 60 :: (33 :: 45 :: 45 :: (c ++ [45, 45, 62])) from h)
  obtain ⟨_, g2, g3, _⟩ := drop_parts h3
  have e1 : tagL l k [60] = false := by
    unfold tagL
    have : letterB (l.getD (k + ([60] : List UInt8).length) 0) = false := by
      show letterB (l.getD (k + 1) 0) = false
      rw [g2]; decide
    rw [this]
    simp
  have e2 : stL l k [60, 47] = false := by unfold stL; rw [h]; simp [List.isPrefixOf]
  have e3 : stL l k [60, 33, 45, 45] = true := by unfold stL; rw [h]; simp [List.isPrefixOf]
  unfold pieceL
  rw [if_neg (by rw [e1]; simp), if_neg (by unfold tagL; rw [e2]; simp), if_pos e3]
  unfold comL
  have hd : l.drop (k + 2) = ([45, 45] ++ c) ++ [45, 45, 62] := g3
  have hx := index_dash ([45, 45] ++ c) (fun x hx => by
    rcases List.mem_append.1 hx with hx | hx
    · simp at hx; subst hx; decide
    · exact hc x hx)
  have he : endOf [45, 45, 62] (l.drop (k + 2)) = some (5 + c.length) := by
    unfold endOf
    rw [hd, hx, if_neg (by omega)]
    simp
    omega
  rw [he]
  simp only [List.length_cons, List.length_append, List.length_nil] at h4
  simp
  omega

theorem read_comment (s c : List UInt8) (h : ∀ x ∈ s, x ≠ 60) (ht : (takeL s).1 = s) (hc : ∀ x ∈ c, x ≠ 62) : readL (s ++ [60, 33, 45, 45] ++ c ++ [45, 45, 62]) = wantL s := by
  have hl : (s ++ [60, 33, 45, 45] ++ c ++ [45, 45, 62]).length = s.length + 7 + c.length := by simp; omega
  unfold readL
  have hd : (s ++ [60, 33, 45, 45] ++ c ++ [45, 45, 62]).drop s.length = [60, 33, 45, 45] ++ c ++ [45, 45, 62] := by
    rw [List.append_assoc, List.append_assoc, List.drop_left]
    simp
  rw [hl]
  generalize hL : s ++ [60, 33, 45, 45] ++ c ++ [45, 45, 62] = L at *
  cases s with
  | nil =>
    have hd0 : L.drop 0 = [60, 33, 45, 45] ++ c ++ [45, 45, 62] := hd
    rw [show ([] : List UInt8).length + 7 + c.length + 1 = (c.length + 6) + 1 + 1 from by simp; omega, readAt_some (by omega) (com_piece hd0 hc [] []), readAt_end (Nat.le_refl _)]
    rfl
  | cons a r =>
    have h0 : L.drop 0 = a :: (r ++ 60 :: ([33, 45, 45] ++ c ++ [45, 45, 62])) := by rw [← hL]; simp
    have hr : ∀ x ∈ r, x ≠ 60 := fun x hx => h x (List.mem_cons_of_mem _ hx)
    have hp := text_piece h0 (h a (by simp)) [] []
    rw [noLt_upto hr] at hp
    have hk : 0 + 1 + r.length = (a :: r).length := by simp; omega
    rw [hk] at hp
    rw [show (a :: r).length + 7 + c.length + 1 = ((a :: r).length + 5 + c.length) + 1 + 1 + 1 from by omega, readAt_some (by omega) hp, readAt_some (by simp at hl ⊢; omega) (com_piece hd hc _ []), readAt_end (Nat.le_refl _)]
    simpa using endT_plain ht

theorem decl_piece {l : List UInt8} {c s : List UInt8} (h : l = [60, 63] ++ c ++ [62] ++ s) (hc : ∀ x ∈ c, x ≠ 62) :
    pieceL l 0 [] [] = some (3 + c.length, [], []) := by
  have hd : l.drop 0 = 60 :: 63 :: (c ++ 62 :: s) := by rw [h]; simp
  have e1 : tagL l 0 [60] = false := by
    unfold tagL
    have : letterB (l.getD (0 + ([60] : List UInt8).length) 0) = false := by
      rw [h]; rfl
    rw [this]
    simp
  have e2 : stL l 0 [60, 47] = false := by unfold stL; rw [hd]; simp [List.isPrefixOf]
  have e3 : stL l 0 [60, 33, 45, 45] = false := by unfold stL; rw [hd]; simp [List.isPrefixOf]
  have e5 : stL l 0 [60, 63] = true := by unfold stL; rw [hd]; simp [List.isPrefixOf]
  unfold pieceL
  rw [if_neg (by rw [e1]; simp), if_neg (by unfold tagL; rw [e2]; simp), if_neg (by rw [e3]; simp), if_pos (by rw [e5]; simp)]
  unfold declL
  have hx := index_gt ([60, 63] ++ c) s (fun x hx => by
    rcases List.mem_append.1 hx with hx | hx
    · simp at hx; rcases hx with rfl | rfl <;> decide
    · exact hc x hx)
  have he : endOf [62] (l.drop 0) = some (3 + c.length) := by
    unfold endOf
    rw [hd, show 60 :: 63 :: (c ++ 62 :: s) = ([60, 63] ++ c) ++ 62 :: s from by simp, hx, if_neg (by omega)]
    simp
    omega
  rw [he]
  simp

theorem read_decl (s c : List UInt8) (h : ∀ x ∈ s, x ≠ 60) (ht : (takeL s).1 = s) (hc : ∀ x ∈ c, x ≠ 62) : readL ([60, 63] ++ c ++ [62] ++ s) = wantL s := by
  have hl : ([60, 63] ++ c ++ [62] ++ s).length = 3 + c.length + s.length := by simp; omega
  unfold readL
  rw [hl]
  have hp := decl_piece (l := [60, 63] ++ c ++ [62] ++ s) rfl hc
  have hd : ([60, 63] ++ c ++ [62] ++ s).drop (3 + c.length) = s := by
    rw [show 3 + c.length = ([60, 63] ++ c ++ [62]).length from by simp; omega, List.drop_left]
  generalize [60, 63] ++ c ++ [62] ++ s = L at *
  rw [show 3 + c.length + s.length + 1 = (1 + c.length + s.length) + 1 + 1 + 1 from by omega, readAt_some (by omega) hp]
  cases s with
  | nil =>
    simp at hl
    rw [readAt_end (by omega)]
    rfl
  | cons a r =>
    rw [read_text hd h]
    simpa using endT_plain ht
end Go.Proofs.Ytaeblkmkpfklkab
