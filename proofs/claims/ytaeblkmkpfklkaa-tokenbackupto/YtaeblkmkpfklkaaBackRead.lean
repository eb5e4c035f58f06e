/- What is printed is read as it was: readL (toksP l) = l for tokens that Check passes. -/
import Derived.Test.YtaeblkmkpfklkaaBackMath
namespace Go.Proofs.Ytaeblkmkpfklkaa

theorem chkT_cases {t : Tok} (h : chkT t = 0) :
    (∃ x, x ≠ [] ∧ t = ⟨1, [], [], x⟩) ∨ (∃ n a, isNameL n = true ∧ chkA a [] = 0 ∧ t = ⟨2, n, a, []⟩) ∨ (∃ n, isNameL n = true ∧ t = ⟨3, n, [], []⟩) := by
  obtain ⟨kd, nm, la, tx⟩ := t
  unfold chkT at h
  simp only at h
  by_cases k1 : kd = 1
  · subst k1
    rw [if_pos rfl] at h
    split at h
    · simp at h
    · rename_i hc
      simp only [not_or, Classical.not_not, ne_eq] at hc
      obtain ⟨rfl, rfl, h3⟩ := hc
      exact .inl ⟨tx, h3, rfl⟩
  · rw [if_neg k1] at h
    by_cases k2 : kd = 2
    · subst k2
      rw [if_pos rfl] at h
      split at h
      · simp at h
      · rename_i hc
        simp only [not_or, Classical.not_not, ne_eq] at hc
        obtain ⟨rfl, h3⟩ := hc
        exact .inr (.inl ⟨nm, la, by simpa using h3, h, rfl⟩)
    · rw [if_neg k2] at h
      by_cases k3 : kd = 3
      · subst k3
        rw [if_pos rfl] at h
        split at h
        · simp at h
        · rename_i hc
          simp only [not_or, Classical.not_not, ne_eq] at hc
          obtain ⟨rfl, rfl, h3⟩ := hc
          exact .inr (.inr ⟨nm, by simpa using h3, rfl⟩)
      · rw [if_neg k3] at h
        simp at h

theorem chkFrom_cons {p : Int} {t : Tok} {r : List Tok} (h : chkFrom p (t :: r) = 0) : chkT t = 0 ∧ ¬ (t.kind = 1 ∧ p = 1) ∧ chkFrom t.kind r = 0 := by
  unfold chkFrom at h
  split at h
  · rename_i hc; exact absurd h hc
  · rename_i hc
    split at h
    · simp at h
    · rename_i h2
      exact ⟨by simpa using hc, h2, h⟩

theorem putB_ne (c : UInt8) : putB c ≠ [] := by
  unfold putB
  repeat (first | (split) | simp)

theorem putL_cons {x : List UInt8} (h : x ≠ []) : ∃ a r, putL x = a :: r := by
  cases x with
  | nil => exact absurd rfl h
  | cons c x =>
    cases hp : putL (c :: x) with
    | nil =>
      have e : putL (c :: x) = putB c ++ putL x := by simp [putL]
      rw [e] at hp
      exact absurd (List.append_eq_nil_iff.1 hp).1 (putB_ne c)
    | cons a r => exact ⟨a, r, rfl⟩

theorem toksP_head {r : List Tok} (h : chkFrom 1 r = 0) : toksP r = [] ∨ ∃ z, toksP r = 60 :: z := by
  cases r with
  | nil => exact .inl rfl
  | cons t r =>
    obtain ⟨h1, h2, _⟩ := chkFrom_cons h
    have e : toksP (t :: r) = tokP t ++ toksP r := by simp [toksP]
    rcases chkT_cases h1 with ⟨x, _, rfl⟩ | ⟨n, a, _, _, rfl⟩ | ⟨n, _, rfl⟩
    · exact absurd ⟨rfl, rfl⟩ h2
    · exact .inr ⟨_, by rw [e]; simp [tokP, openP]; rfl⟩
    · exact .inr ⟨_, by rw [e]; simp [tokP]; rfl⟩

theorem pairs_head (la : List Pair) (t : List UInt8) : ∃ d q, pairsP la ++ 62 :: t = d :: q ∧ tagN d = false := by
  cases la with
  | nil => exact ⟨62, t, rfl, by decide⟩
  | cons p la => exact ⟨32, _, by simp [pairsP, pairP]; rfl, by decide⟩

theorem pairs_len (la : List Pair) : la.length ≤ (pairsP la).length := by
  induction la with
  | nil => simp
  | cons p la ih =>
    have e : pairsP (p :: la) = pairP p ++ pairsP la := by simp [pairsP]
    rw [e, List.length_append]
    have : 1 ≤ (pairP p).length := by simp [pairP]
    simp only [List.length_cons]; omega

theorem open_piece {L : List UInt8} {k : Nat} {n t : List UInt8} {la : List Pair} (h : L.drop k = 60 :: (n ++ (pairsP la ++ 62 :: t))) (hn : isNameL n = true) (ha : chkA la [] = 0) (raw : List UInt8) (out : List Tok) :
    pieceL L k raw out = some (k + (tokP ⟨2, n, la, []⟩).length, [], out ++ endT raw ++ [⟨2, n, la, []⟩]) := by
  obtain ⟨hall, c, r, rfl, hc⟩ := name_parts hn
  obtain ⟨h1, _, h3, h4⟩ := drop_parts h
  obtain ⟨g1, g2, _, _⟩ := drop_parts (show L.drop (k + 1) = c :: (r ++ (pairsP la ++ 62 :: t)) from h3)
  have e1 : tagL L k [60] = true := by
    unfold tagL stL
    rw [h]
    have e : L.getD (k + ([60] : List UInt8).length) 0 = c := g2
    rw [e, smallB_letter hc]
    simp [List.isPrefixOf]
    exact g1
  obtain ⟨d, q, hd, hdt⟩ := pairs_head la t
  have hN : (L.drop (k + 1)).takeWhile tagN = c :: r := by
    rw [h3, hd]
    exact takeWhile_stop (fun x hx => (nameB_facts (hall x hx)).1) hdt
  have hd2 : L.drop (k + 1 + (c :: r).length) = pairsP la ++ 62 :: t := by rw [← drop_drop', h3, List.drop_left]
  have hlen := pairs_len la
  have hat := attrs_printed L la [] (L.length + 1) _ t hd2 (by simp only [List.length_cons, List.length_append] at h4; omega) ha
  unfold pieceL
  rw [if_pos e1]
  unfold openL
  rw [hN, hat]
  simp only [lower_name hall, hn, if_true, List.nil_append]
  simp [tokP, openP]
  omega

theorem close_piece {L : List UInt8} {k : Nat} {n t : List UInt8} (h : L.drop k = 60 :: 47 :: (n ++ 62 :: t)) (hn : isNameL n = true) (raw : List UInt8) (out : List Tok) :
    pieceL L k raw out = some (k + (tokP ⟨3, n, [], []⟩).length, [], out ++ endT raw ++ [⟨3, n, [], []⟩]) := by
  obtain ⟨hall, c, r, rfl, hc⟩ := name_parts hn
  obtain ⟨h1, _, h3, h4⟩ := drop_parts h
  obtain ⟨g1, g2, g3, _⟩ := drop_parts h3
  obtain ⟨i1, i2, _, _⟩ := drop_parts (show L.drop (k + 1 + 1) = c :: (r ++ 62 :: t) from g3)
  have e1 : tagL L k [60] = false := by
    unfold tagL
    have e : L.getD (k + ([60] : List UInt8).length) 0 = 47 := g2
    rw [e]
    simp
    intro _ _
    decide
  have e2 : tagL L k [60, 47] = true := by
    unfold tagL stL
    rw [h]
    have e : L.getD (k + ([60, 47] : List UInt8).length) 0 = c := i2
    rw [e, smallB_letter hc]
    simp [List.isPrefixOf]
    exact i1
  have hN : (L.drop (k + 2)).takeWhile tagN = c :: r := by
    rw [show k + 2 = k + 1 + 1 from rfl, g3]
    exact takeWhile_stop (fun x hx => (nameB_facts (hall x hx)).1) (by decide)
  have hd2 : L.drop (k + 2 + (c :: r).length) = 62 :: t := by rw [← drop_drop', show k + 2 = k + 1 + 1 from rfl, g3, List.drop_left]
  have he : endOf [62] (62 :: t) = some 1 := endOf_here (by unfold Lib.hasPrefix; simp [List.isPrefixOf])
  unfold pieceL
  rw [if_neg (by rw [e1]; simp), if_pos e2]
  unfold closeL
  rw [hN, hd2, he]
  simp only [lower_name hall, hn, if_true]
  simp [tokP]
  omega

theorem read_printed_at (L : List UInt8) : ∀ (rest : List Tok) (f k : Nat) (raw : List UInt8) (out : List Tok) (pk : Int), L.drop k = toksP rest → chkFrom pk rest = 0 → (pk ≠ 1 → raw = []) → (toksP rest).length < f → readAt L f k raw out = out ++ endT raw ++ rest
  | [], f, k, raw, out, pk, h, _, _, hf => by
    obtain ⟨g, rfl⟩ : ∃ g, f = g + 1 := ⟨f - 1, by omega⟩
    rw [readAt_end (List.drop_eq_nil_iff.1 h)]
    simp
  | t :: r, f, k, raw, out, pk, h, hc, hraw, hf => by
    obtain ⟨g, rfl⟩ : ∃ g, f = g + 1 := ⟨f - 1, by omega⟩
    obtain ⟨h1, h2, h3⟩ := chkFrom_cons hc
    have e : toksP (t :: r) = tokP t ++ toksP r := by simp [toksP]
    rw [e] at h hf
    rw [List.length_append] at hf
    rcases chkT_cases h1 with ⟨x, hx, rfl⟩ | ⟨n, a, hn, ha, rfl⟩ | ⟨n, hn, rfl⟩
    · have hr0 : raw = [] := hraw (fun e => h2 ⟨rfl, e⟩)
      subst hr0
      obtain ⟨b, y, hby⟩ := putL_cons hx
      have et : tokP ⟨1, [], [], x⟩ = putL x := rfl
      rw [et] at h hf
      have hb : b ≠ 60 := (putL_signs x b (by rw [hby]; simp)).1
      have hy : ∀ z ∈ y, z ≠ 60 := fun z hz => (putL_signs x z (by rw [hby]; simp [hz])).1
      have h' : L.drop k = b :: (y ++ toksP r) := by rw [h, hby]; rfl
      obtain ⟨p1, _, _, _⟩ := drop_parts h'
      have htw : (y ++ toksP r).takeWhile noLt = y := by
        rcases toksP_head h3 with e0 | ⟨z, e0⟩
        · rw [e0, List.append_nil]; exact noLt_all hy
        · rw [e0]; exact noLt_upto hy
      have hp := text_piece h' hb [] out
      rw [htw] at hp
      have hlen : (putL x).length = 1 + y.length := by rw [hby]; simp; omega
      have hd : L.drop (k + 1 + y.length) = toksP r := by
        rw [show k + 1 + y.length = k + (putL x).length from by omega, ← drop_drop', h, List.drop_left]
      rw [readAt_some p1 hp, read_printed_at L r g _ _ out 1 hd h3 (fun hq => absurd rfl hq) (by omega)]
      have e1 : ([] : List UInt8) ++ [b] ++ y = putL x := by rw [hby]; rfl
      have e2 : endT (putL x) = [textTok x] := by
        unfold endT
        rw [if_neg (by rw [hby]; simp), takeL_putL]
      rw [e1, e2]
      simp [endT, textTok]
    · have h' : L.drop k = 60 :: (n ++ (pairsP a ++ 62 :: toksP r)) := by rw [h]; simp [tokP, openP]
      obtain ⟨p1, _, _, _⟩ := drop_parts h'
      have hd : L.drop (k + (tokP ⟨2, n, a, []⟩).length) = toksP r := by rw [← drop_drop', h, List.drop_left]
      have hpos : 1 ≤ (tokP ⟨2, n, a, []⟩).length := by simp [tokP, openP]
      rw [readAt_some p1 (open_piece h' hn ha raw out), read_printed_at L r g _ _ _ 2 hd h3 (fun _ => rfl) (by omega)]
      simp [endT]
    · have h' : L.drop k = 60 :: 47 :: (n ++ 62 :: toksP r) := by rw [h]; simp [tokP]
      obtain ⟨p1, _, _, _⟩ := drop_parts h'
      have hd : L.drop (k + (tokP ⟨3, n, [], []⟩).length) = toksP r := by rw [← drop_drop', h, List.drop_left]
      have hpos : 1 ≤ (tokP ⟨3, n, [], []⟩).length := by simp [tokP]
      rw [readAt_some p1 (close_piece h' hn raw out), read_printed_at L r g _ _ _ 3 hd h3 (fun _ => rfl) (by omega)]
      simp [endT]

theorem read_printed (l : List Tok) (h : chkL l = 0) : readL (toksP l) = l := by
  unfold chkL at h
  split at h
  · simp at h
  · unfold readL
    rw [read_printed_at (toksP l) l _ 0 [] [] 0 rfl h (fun _ => rfl) (by omega)]
    simp [endT]
end Go.Proofs.Ytaeblkmkpfklkaa
