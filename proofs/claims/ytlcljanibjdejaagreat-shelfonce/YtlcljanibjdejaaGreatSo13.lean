/- What Read answers of a text without < and &, and of one with a comment. What Read answers of a tag whose attributes are written plainly. What is printed is read as it was: readL (toksP l) = l for tokens that Check passes. What is printed is read as it was: readL (toksP l) = l for tokens that Check passes. What is read is right: chkL (readL s) = 0. A slice of tokens that came in: what is read of it lies there ('Toks'), and how much it is. TreeKeeps' walk: no text is lost. How much is read of a text: bulkL (readL l) ≤ 12 * l.length. How much nodes are, and how much is built. -/
import Derived.Test.YtlcljanibjdejaaGreatSo12
import Derived.Deep.SlicePairs
namespace Go.Proofs.YtlcljanibjdejaaGreat
theorem drop_parts {l : List UInt8} {k : Nat} {a : UInt8} {r : List UInt8} (h : l.drop k = a :: r) : k < l.length ∧ l.getD k 0 = a ∧ l.drop (k + 1) = r ∧ l.length = k + 1 + r.length := by
  have hk : k < l.length := by
    rcases Nat.lt_or_ge k l.length with h' | h'
    · exact h'
    · rw [List.drop_eq_nil_of_le h'] at h; simp at h
  have e := List.drop_eq_getElem_cons hk
  rw [h] at e
  simp only [List.cons.injEq] at e
  refine ⟨hk, ?_, e.2.symm, ?_⟩
  · rw [List.getD_eq_getElem?_getD, List.getElem?_eq_getElem hk]; exact e.1.symm
  · have := congrArg List.length h
    rw [List.length_drop] at this
    simp at this
    omega
theorem st_head {l : List UInt8} {k : Nat} {a : UInt8} {r : List UInt8} (h : l.drop k = a :: r) (ha : a ≠ 60) (p : List UInt8) : stL l k (60 :: p) = false := by
  unfold stL
  rw [h]
  have : ((60 : UInt8) == a) = false := by simpa using Ne.symm ha
  simp [List.isPrefixOf, this]
theorem text_piece {l : List UInt8} {k : Nat} {a : UInt8} {r : List UInt8} (h : l.drop k = a :: r) (ha : a ≠ 60) (raw : List UInt8) (out : List Tok) :
    pieceL l k raw out = some (k + 1 + (r.takeWhile noLt).length, raw ++ [a] ++ r.takeWhile noLt, out) := by
  obtain ⟨h1, h2, h3, _⟩ := drop_parts h
  have e1 := st_head h ha []
  have e2 := st_head h ha [47]
  have e3 := st_head h ha [33, 45, 45]
  have e4 := st_head h ha [33]
  have e5 := st_head h ha [63]
  unfold pieceL tagL
  rw [e1, e2, e3, e4, e5]
  simp only [Bool.false_and, Bool.false_or, Bool.false_eq_true, if_false]
  unfold textL
  rw [h2, h3]
theorem noLt_all {s : List UInt8} (h : ∀ c ∈ s, c ≠ 60) : s.takeWhile noLt = s := by
  induction s with
  | nil => rfl
  | cons a s ih =>
    have : noLt a = true := by simp [noLt, h a (by simp)]
    rw [List.takeWhile_cons, this]
    simp [ih (fun c hc => h c (by simp [hc]))]
theorem noLt_upto {s t : List UInt8} (h : ∀ c ∈ s, c ≠ 60) : (s ++ 60 :: t).takeWhile noLt = s := by
  induction s with
  | nil => rfl
  | cons a s ih =>
    have : noLt a = true := by simp [noLt, h a (by simp)]
    rw [List.cons_append, List.takeWhile_cons, this]
    simp [ih (fun c hc => h c (by simp [hc]))]
end Go.Proofs.YtlcljanibjdejaaGreat
namespace Go.Proofs.YtlcljanibjdejaaGreat
theorem takeWhile_stop {f : UInt8 → Bool} {sk : List UInt8} {d : UInt8} {q : List UInt8} (h : ∀ x ∈ sk, f x = true) (hd : f d = false) : (sk ++ d :: q).takeWhile f = sk := by
  induction sk with
  | nil => simp [hd]
  | cons a sk ih =>
    rw [List.cons_append, List.takeWhile_cons, h a (by simp)]
    simp [ih (fun x hx => h x (by simp [hx]))]
theorem valL_quote {qu : UInt8} (hq : qu = 34 ∨ qu = 39) (V t : List UInt8) (hV : ∀ x ∈ V, x ≠ qu) : valL (qu :: (V ++ qu :: t)) = some (V, V.length + 2) := by
  have h := takeWhile_stop (f := (· != qu)) (sk := V) (d := qu) (q := t) (fun x hx => by simpa using hV x hx) (by simp)
  unfold valL
  simp only [if_pos hq]
  rw [h, if_pos (by simp)]
theorem attrs_end {l : List UInt8} {f k : Nat} {acc : List Pair} {sk q : List UInt8} (h : l.drop k = sk ++ 62 :: q) (hsk : ∀ x ∈ sk, skipB x = true) : attrsAt l (f + 1) k acc = some (acc, k + sk.length) := by
  have e1 : (l.drop k).takeWhile skipB = sk := by rw [h]; exact takeWhile_stop hsk (by decide)
  have e2 : l.drop (k + sk.length) = 62 :: q := by rw [← drop_drop', h, List.drop_left]
  rw [attrsAt, e1, e2]
  simp
theorem attrs_one {l : List UInt8} {f k : Nat} {acc : List Pair} {sk q : List UInt8} {d : UInt8} {p : Pair} {m : Nat} (h : l.drop k = sk ++ d :: q) (hsk : ∀ x ∈ sk, skipB x = true) (hd : skipB d = false) (h62 : d ≠ 62) (ha : attrL (d :: q) = some (p, m))
    (hnew : p.1 ∉ acc.map (·.1)) (hn : isNameL p.1 = true) : attrsAt l (f + 1) k acc = attrsAt l f (k + sk.length + m) (acc ++ [p]) := by
  have e1 : (l.drop k).takeWhile skipB = sk := by rw [h]; exact takeWhile_stop hsk hd
  have e2 : l.drop (k + sk.length) = d :: q := by rw [← drop_drop', h, List.drop_left]
  rw [attrsAt, e1, e2]
  simp only [if_neg h62, ha]
  rw [if_neg (by simp only [hn]; simpa using hnew)]
end Go.Proofs.YtlcljanibjdejaaGreat
namespace Go.Proofs.YtlcljanibjdejaaGreat
/-- In what is put no sign stands that would begin a tag, or end a value. -/
theorem putB_signs (c d : UInt8) (h : d ∈ putB c) : d ≠ 60 ∧ d ≠ 62 ∧ d ≠ 34 := by
  unfold putB at h
  split at h
  · simp at h; rcases h with h | h | h | h | h <;> subst h <;> decide
  · split at h
    · simp at h; rcases h with h | h | h | h <;> subst h <;> decide
    · split at h
      · simp at h; rcases h with h | h | h | h <;> subst h <;> decide
      · split at h
        · simp at h; rcases h with h | h | h | h | h | h <;> subst h <;> decide
        · rename_i h1 h2 h3 h4
          simp at h; subst h; exact ⟨h2, h3, h4⟩
theorem putL_signs (l : List UInt8) (d : UInt8) (h : d ∈ putL l) : d ≠ 60 ∧ d ≠ 62 ∧ d ≠ 34 := by
  simp only [putL, List.mem_flatMap] at h
  obtain ⟨c, _, hc⟩ := h
  exact putB_signs c d hc
theorem nameB_facts {c : UInt8} (h : nameB c = true) : tagN c = true ∧ attrN c = true ∧ lowB c = c ∧ skipB c = false ∧ c ≠ 62 := by
  have h256 : ∀ i : Fin 256, nameB (UInt8.ofNat i.val) = true → tagN (UInt8.ofNat i.val) = true ∧ attrN (UInt8.ofNat i.val) = true ∧ lowB (UInt8.ofNat i.val) = UInt8.ofNat i.val ∧ skipB (UInt8.ofNat i.val) = false ∧ UInt8.ofNat i.val ≠ 62 := by decide +kernel
  have := h256 ⟨c.toNat, UInt8.toNat_lt c⟩
  simp only [UInt8.ofNat_toNat] at this
  exact this h
theorem smallB_letter {c : UInt8} (h : smallB c = true) : letterB c = true := by simp [letterB, h]
theorem name_parts {n : List UInt8} (h : isNameL n = true) : (∀ c ∈ n, nameB c = true) ∧ ∃ c r, n = c :: r ∧ smallB c = true := by
  unfold isNameL at h
  simp only [Bool.and_eq_true, decide_eq_true_eq, List.all_eq_true] at h
  obtain ⟨⟨⟨h1, _⟩, h3⟩, h4⟩ := h
  refine ⟨h4, ?_⟩
  cases n with
  | nil => simp at h1
  | cons c r => exact ⟨c, r, rfl, by simpa using h3⟩
theorem lower_name {n : List UInt8} (h : ∀ c ∈ n, nameB c = true) : lowerL n = n := by
  unfold lowerL
  induction n with
  | nil => rfl
  | cons a n ih =>
    rw [List.map_cons, (nameB_facts (h a (by simp))).2.2.1, ih (fun c hc => h c (by simp [hc]))]
/-- An attribute as it is printed, behind its blank. -/
theorem attrL_printed {n v t : List UInt8} (hn : isNameL n = true) : attrL (n ++ [61, 34] ++ putL v ++ [34] ++ t) = some ((n, v), n.length + 2 + (putL v).length + 1) := by
  obtain ⟨hall, c, r, rfl, hc⟩ := name_parts hn
  have hr : ∀ x ∈ r, attrN x = true := fun x hx => (nameB_facts (hall x (by simp [hx]))).2.1
  have e0 : c :: r ++ [61, 34] ++ putL v ++ [34] ++ t = c :: (r ++ 61 :: (34 :: (putL v ++ 34 :: t))) := by simp
  rw [e0]
  have hL : (r ++ 61 :: (34 :: (putL v ++ 34 :: t))).takeWhile attrN = r := takeWhile_stop hr (by decide)
  have hd : (c :: (r ++ 61 :: (34 :: (putL v ++ 34 :: t)))).drop (1 + r.length) = 61 :: (34 :: (putL v ++ 34 :: t)) := by
    rw [show c :: (r ++ 61 :: (34 :: (putL v ++ 34 :: t))) = (c :: r) ++ 61 :: (34 :: (putL v ++ 34 :: t)) from rfl, show 1 + r.length = (c :: r).length from by simp; omega, List.drop_left]
  have hW : ((c :: (r ++ 61 :: (34 :: (putL v ++ 34 :: t)))).drop (1 + r.length)).takeWhile whiteB = [] := by rw [hd]; rfl
  rw [attrL_cons _ _ r [] hL hW]
  have hv := valL_quote (.inl rfl) (putL v) t (fun x hx => (putL_signs v x hx).2.2)
  have hw : (34 :: (putL v ++ 34 :: t)).takeWhile whiteB = [] := rfl
  simp only [List.length_nil, Nat.add_zero, hd, if_true, hw, List.drop_zero, hv]
  rw [lower_name hall, takeL_putL]
  simp
  omega
/-- Attributes as they are printed, up to the > of their tag. -/
theorem attrs_printed (L : List UInt8) : ∀ (la acc : List Pair) (f k : Nat) (t : List UInt8), L.drop k = pairsP la ++ 62 :: t → la.length < f → chkA la (acc.map (·.1)) = 0 → attrsAt L f k acc = some (acc ++ la, k + (pairsP la).length)
  | [], acc, f, k, t, h, hf, _ => by
    obtain ⟨g, rfl⟩ : ∃ g, f = g + 1 := ⟨f - 1, by simp at hf; omega⟩
    rw [attrs_end (sk := []) (by simpa [pairsP] using h) (by simp)]
    simp [pairsP]
  | p :: la, acc, f, k, t, h, hf, hc => by
    obtain ⟨g, rfl⟩ : ∃ g, f = g + 1 := ⟨f - 1, by simp at hf; omega⟩
    unfold chkA at hc
    have hn : isNameL p.1 = true := by
      cases hq : isNameL p.1
      · simp [hq] at hc
      · rfl
    have hm : p.1 ∉ acc.map (·.1) := by
      intro hm
      simp [hn, hm] at hc
    have hc' : chkA la ((acc ++ [p]).map (·.1)) = 0 := by
      rw [List.map_append]
      simpa [hn, hm] using hc
    have ha := attrL_printed (v := p.2) (t := pairsP la ++ 62 :: t) hn
    obtain ⟨hall, c, r, hcr, _⟩ := name_parts hn
    have e1 : L.drop k = [32] ++ c :: (r ++ [61, 34] ++ putL p.2 ++ [34] ++ (pairsP la ++ 62 :: t)) := by
      rw [h]
      simp [pairsP, pairP, hcr]
    have ha' : attrL (c :: (r ++ [61, 34] ++ putL p.2 ++ [34] ++ (pairsP la ++ 62 :: t))) = some (p, p.1.length + 2 + (putL p.2).length + 1) := by
      rw [← ha, hcr]
      simp
    have hcf := nameB_facts (hall c (by rw [hcr]; simp))
    rw [attrs_one e1 (by decide) hcf.2.2.2.1 hcf.2.2.2.2 ha' hm hn]
    have hlen : (pairP p).length = 1 + (p.1.length + 2 + (putL p.2).length + 1) := by simp [pairP]; omega
    have e2 : L.drop (k + ([32] : List UInt8).length + (p.1.length + 2 + (putL p.2).length + 1)) = pairsP la ++ 62 :: t := by
      rw [show k + ([32] : List UInt8).length + (p.1.length + 2 + (putL p.2).length + 1) = k + (pairP p).length from by rw [hlen]; simp; omega, ← drop_drop', h, show pairsP (p :: la) = pairP p ++ pairsP la from by simp [pairsP], List.append_assoc, List.drop_left]
    rw [attrs_printed L la (acc ++ [p]) g _ t e2 (by simp at hf; omega) hc']
    have e3 : pairsP (p :: la) = pairP p ++ pairsP la := by simp [pairsP]
    rw [e3, List.length_append, hlen]
    simp
    omega
end Go.Proofs.YtlcljanibjdejaaGreat
namespace Go.Proofs.YtlcljanibjdejaaGreat
theorem chkT_cases {t : Tok} (h : chkT t = 0) :
    (∃ x, x ≠ [] ∧ t = ⟨1, [], [], x⟩) ∨ (∃ n a, isNameL n = true ∧ chkA a [] = 0 ∧ t = ⟨2, n, a, []⟩) ∨ (∃ n, isNameL n = true ∧ t = ⟨3, n, [], []⟩) := by
  obtain ⟨kd, nm, la, tx⟩ := t
  unfold chkT at h
  simp only at h
  by_cases k1 : kd = 1
  · subst k1
    rw [if_pos rfl] at h
    split at h
    · simp at h
    · rename_i hc
      simp only [not_or, Classical.not_not, ne_eq] at hc
      obtain ⟨rfl, rfl, h3⟩ := hc
      exact .inl ⟨tx, h3, rfl⟩
  · rw [if_neg k1] at h
    by_cases k2 : kd = 2
    · subst k2
      rw [if_pos rfl] at h
      split at h
      · simp at h
      · rename_i hc
        simp only [not_or, Classical.not_not, ne_eq] at hc
        obtain ⟨rfl, h3⟩ := hc
        exact .inr (.inl ⟨nm, la, by simpa using h3, h, rfl⟩)
    · rw [if_neg k2] at h
      by_cases k3 : kd = 3
      · subst k3
        rw [if_pos rfl] at h
        split at h
        · simp at h
        · rename_i hc
          simp only [not_or, Classical.not_not, ne_eq] at hc
          obtain ⟨rfl, rfl, h3⟩ := hc
          exact .inr (.inr ⟨nm, by simpa using h3, rfl⟩)
      · rw [if_neg k3] at h
        simp at h
theorem chkFrom_cons {p : Int} {t : Tok} {r : List Tok} (h : chkFrom p (t :: r) = 0) : chkT t = 0 ∧ ¬ (t.kind = 1 ∧ p = 1) ∧ chkFrom t.kind r = 0 := by
  unfold chkFrom at h
  split at h
  · rename_i hc; exact absurd h hc
  · rename_i hc
    split at h
    · simp at h
    · rename_i h2
      exact ⟨by simpa using hc, h2, h⟩
theorem putB_ne (c : UInt8) : putB c ≠ [] := by
  unfold putB
  repeat (first | (split) | simp)
theorem putL_cons {x : List UInt8} (h : x ≠ []) : ∃ a r, putL x = a :: r := by
  cases x with
  | nil => exact absurd rfl h
  | cons c x =>
    cases hp : putL (c :: x) with
    | nil =>
      have e : putL (c :: x) = putB c ++ putL x := by simp [putL]
      rw [e] at hp
      exact absurd (List.append_eq_nil_iff.1 hp).1 (putB_ne c)
    | cons a r => exact ⟨a, r, rfl⟩
theorem toksP_head {r : List Tok} (h : chkFrom 1 r = 0) : toksP r = [] ∨ ∃ z, toksP r = 60 :: z := by
  cases r with
  | nil => exact .inl rfl
  | cons t r =>
    obtain ⟨h1, h2, _⟩ := chkFrom_cons h
    have e : toksP (t :: r) = tokP t ++ toksP r := by simp [toksP]
    rcases chkT_cases h1 with ⟨x, _, rfl⟩ | ⟨n, a, _, _, rfl⟩ | ⟨n, _, rfl⟩
    · exact absurd ⟨rfl, rfl⟩ h2
    · exact .inr ⟨_, by rw [e]; simp [tokP, openP]; rfl⟩
    · exact .inr ⟨_, by rw [e]; simp [tokP]; rfl⟩
theorem pairs_head (la : List Pair) (t : List UInt8) : ∃ d q, pairsP la ++ 62 :: t = d :: q ∧ tagN d = false := by
  cases la with
  | nil => exact ⟨62, t, rfl, by decide⟩
  | cons p la => exact ⟨32, _, by simp [pairsP, pairP]; rfl, by decide⟩
theorem pairs_len (la : List Pair) : la.length ≤ (pairsP la).length := by
  induction la with
  | nil => simp
  | cons p la ih =>
    have e : pairsP (p :: la) = pairP p ++ pairsP la := by simp [pairsP]
    rw [e, List.length_append]
    have : 1 ≤ (pairP p).length := by simp [pairP]
    simp only [List.length_cons]; omega
theorem open_piece {L : List UInt8} {k : Nat} {n t : List UInt8} {la : List Pair} (h : L.drop k = 60 :: (n ++ (pairsP la ++ 62 :: t))) (hn : isNameL n = true) (ha : chkA la [] = 0) (raw : List UInt8) (out : List Tok) :
    pieceL L k raw out = some (k + (tokP ⟨2, n, la, []⟩).length, [], out ++ endT raw ++ [⟨2, n, la, []⟩]) := by
  obtain ⟨hall, c, r, rfl, hc⟩ := name_parts hn
  obtain ⟨h1, _, h3, h4⟩ := drop_parts h
  obtain ⟨g1, g2, _, _⟩ := drop_parts (show L.drop (k + 1) = c :: (r ++ (pairsP la ++ 62 :: t)) from h3)
  have e1 : tagL L k [60] = true := by
    unfold tagL stL
    rw [h]
    have e : L.getD (k + ([60] : List UInt8).length) 0 = c := g2
    rw [e, smallB_letter hc]
    simp [List.isPrefixOf]
    exact g1
  obtain ⟨d, q, hd, hdt⟩ := pairs_head la t
  have hN : (L.drop (k + 1)).takeWhile tagN = c :: r := by
    rw [h3, hd]
    exact takeWhile_stop (fun x hx => (nameB_facts (hall x hx)).1) hdt
  have hd2 : L.drop (k + 1 + (c :: r).length) = pairsP la ++ 62 :: t := by rw [← drop_drop', h3, List.drop_left]
  have hlen := pairs_len la
  have hat := attrs_printed L la [] (L.length + 1) _ t hd2 (by simp only [List.length_cons, List.length_append] at h4; omega) ha
  unfold pieceL
  rw [if_pos e1]
  unfold openL
  rw [hN, hat]
  simp only [lower_name hall, hn, if_true, List.nil_append]
  simp [tokP, openP]
  omega
theorem close_piece {L : List UInt8} {k : Nat} {n t : List UInt8} (h : L.drop k = 60 :: 47 :: (n ++ 62 :: t)) (hn : isNameL n = true) (raw : List UInt8) (out : List Tok) :
    pieceL L k raw out = some (k + (tokP ⟨3, n, [], []⟩).length, [], out ++ endT raw ++ [⟨3, n, [], []⟩]) := by
  obtain ⟨hall, c, r, rfl, hc⟩ := name_parts hn
  obtain ⟨h1, _, h3, h4⟩ := drop_parts h
  obtain ⟨g1, g2, g3, _⟩ := drop_parts h3
  obtain ⟨i1, i2, _, _⟩ := drop_parts (show L.drop (k + 1 + 1) = c :: (r ++ 62 :: t) from g3)
  have e1 : tagL L k [60] = false := by
    unfold tagL
    have e : L.getD (k + ([60] : List UInt8).length) 0 = 47 := g2
    rw [e]
    simp
    intro _ _
    decide
  have e2 : tagL L k [60, 47] = true := by
    unfold tagL stL
    rw [h]
    have e : L.getD (k + ([60, 47] : List UInt8).length) 0 = c := i2
    rw [e, smallB_letter hc]
    simp [List.isPrefixOf]
    exact i1
  have hN : (L.drop (k + 2)).takeWhile tagN = c :: r := by
    rw [show k + 2 = k + 1 + 1 from rfl, g3]
    exact takeWhile_stop (fun x hx => (nameB_facts (hall x hx)).1) (by decide)
  have hd2 : L.drop (k + 2 + (c :: r).length) = 62 :: t := by rw [← drop_drop', show k + 2 = k + 1 + 1 from rfl, g3, List.drop_left]
  have he : endOf [62] (62 :: t) = some 1 := endOf_here (by unfold Lib.hasPrefix; simp [List.isPrefixOf])
  unfold pieceL
  rw [if_neg (by rw [e1]; simp), if_pos e2]
  unfold closeL
  rw [hN, hd2, he]
  simp only [lower_name hall, hn, if_true]
  simp [tokP]
  omega
theorem read_printed_at (L : List UInt8) : ∀ (rest : List Tok) (f k : Nat) (raw : List UInt8) (out : List Tok) (pk : Int), L.drop k = toksP rest → chkFrom pk rest = 0 → (pk ≠ 1 → raw = []) → (toksP rest).length < f → readAt L f k raw out = out ++ endT raw ++ rest
  | [], f, k, raw, out, pk, h, _, _, hf => by
    obtain ⟨g, rfl⟩ : ∃ g, f = g + 1 := ⟨f - 1, by omega⟩
    rw [readAt_end (List.drop_eq_nil_iff.1 h)]
    simp
  | t :: r, f, k, raw, out, pk, h, hc, hraw, hf => by
    obtain ⟨g, rfl⟩ : ∃ g, f = g + 1 := ⟨f - 1, by omega⟩
    obtain ⟨h1, h2, h3⟩ := chkFrom_cons hc
    have e : toksP (t :: r) = tokP t ++ toksP r := by simp [toksP]
    rw [e] at h hf
    rw [List.length_append] at hf
    rcases chkT_cases h1 with ⟨x, hx, rfl⟩ | ⟨n, a, hn, ha, rfl⟩ | ⟨n, hn, rfl⟩
    · have hr0 : raw = [] := hraw (fun e => h2 ⟨rfl, e⟩)
      subst hr0
      obtain ⟨b, y, hby⟩ := putL_cons hx
      have et : tokP ⟨1, [], [], x⟩ = putL x := rfl
      rw [et] at h hf
      have hb : b ≠ 60 := (putL_signs x b (by rw [hby]; simp)).1
      have hy : ∀ z ∈ y, z ≠ 60 := fun z hz => (putL_signs x z (by rw [hby]; simp [hz])).1
      have h' : L.drop k = b :: (y ++ toksP r) := by rw [h, hby]; rfl
      obtain ⟨p1, _, _, _⟩ := drop_parts h'
      have htw : (y ++ toksP r).takeWhile noLt = y := by
        rcases toksP_head h3 with e0 | ⟨z, e0⟩
        · rw [e0, List.append_nil]; exact noLt_all hy
        · rw [e0]; exact noLt_upto hy
      have hp := text_piece h' hb [] out
      rw [htw] at hp
      have hlen : (putL x).length = 1 + y.length := by rw [hby]; simp; omega
      have hd : L.drop (k + 1 + y.length) = toksP r := by
        rw [show k + 1 + y.length = k + (putL x).length from by omega, ← drop_drop', h, List.drop_left]
      rw [readAt_some p1 hp, read_printed_at L r g _ _ out 1 hd h3 (fun hq => absurd rfl hq) (by omega)]
      have e1 : ([] : List UInt8) ++ [b] ++ y = putL x := by rw [hby]; rfl
      have e2 : endT (putL x) = [textTok x] := by
        unfold endT
        rw [if_neg (by rw [hby]; simp), takeL_putL]
      rw [e1, e2]
      simp [endT, textTok]
    · have h' : L.drop k = 60 :: (n ++ (pairsP a ++ 62 :: toksP r)) := by rw [h]; simp [tokP, openP]
      obtain ⟨p1, _, _, _⟩ := drop_parts h'
      have hd : L.drop (k + (tokP ⟨2, n, a, []⟩).length) = toksP r := by rw [← drop_drop', h, List.drop_left]
      have hpos : 1 ≤ (tokP ⟨2, n, a, []⟩).length := by simp [tokP, openP]
      rw [readAt_some p1 (open_piece h' hn ha raw out), read_printed_at L r g _ _ _ 2 hd h3 (fun _ => rfl) (by omega)]
      simp [endT]
    · have h' : L.drop k = 60 :: 47 :: (n ++ 62 :: toksP r) := by rw [h]; simp [tokP]
      obtain ⟨p1, _, _, _⟩ := drop_parts h'
      have hd : L.drop (k + (tokP ⟨3, n, [], []⟩).length) = toksP r := by rw [← drop_drop', h, List.drop_left]
      have hpos : 1 ≤ (tokP ⟨3, n, [], []⟩).length := by simp [tokP]
      rw [readAt_some p1 (close_piece h' hn raw out), read_printed_at L r g _ _ _ 3 hd h3 (fun _ => rfl) (by omega)]
      simp [endT]
theorem read_printed (l : List Tok) (h : chkL l = 0) : readL (toksP l) = l := by
  unfold chkL at h
  split at h
  · simp at h
  · unfold readL
    rw [read_printed_at (toksP l) l _ 0 [] [] 0 rfl h (fun _ => rfl) (by omega)]
    simp [endT]
end Go.Proofs.YtlcljanibjdejaaGreat
namespace Go.Proofs.YtlcljanibjdejaaGreat
theorem encode_ne (n : Nat) : Lib.encodeRune n ≠ [] := by
  unfold Lib.encodeRune Lib.encodeRuneZ
  rw [Ne, List.map_eq_nil_iff]
  repeat' split
  all_goals simp
theorem takeOne_ne (l : List UInt8) (h : l ≠ []) : (takeOne l).1 ≠ [] := by
  unfold takeOne
  split
  · split
    · exact encode_ne _
    · exact encode_ne _
  · cases l with
    | nil => exact absurd rfl h
    | cons a l => simp
theorem takeL_ne {l : List UInt8} (h : l ≠ []) : (takeL l).1 ≠ [] := by
  cases l with
  | nil => exact absurd rfl h
  | cons c l =>
    by_cases hc : c = 38
    · rw [takeL_and c l hc]
      intro e
      exact takeOne_ne (c :: l) (by simp) (List.append_eq_nil_iff.1 e).1
    · rw [takeL_other c l hc]
      simp
/-- The kind of the last token, or p. -/
def lastK : Int → List Tok → Int
  | p, [] => p
  | _, t :: r => lastK t.kind r
theorem lastK_app (p : Int) (a b : List Tok) : lastK p (a ++ b) = lastK (lastK p a) b := by
  induction a generalizing p with
  | nil => rfl
  | cons t a ih => exact ih t.kind
theorem chkFrom_app {p : Int} {a b : List Tok} (ha : chkFrom p a = 0) (hb : chkFrom (lastK p a) b = 0) : chkFrom p (a ++ b) = 0 := by
  induction a generalizing p with
  | nil => exact hb
  | cons t a ih =>
    obtain ⟨h1, h2, h3⟩ := chkFrom_cons ha
    rw [List.cons_append]
    unfold chkFrom
    rw [if_neg (by simpa using h1), if_neg h2]
    exact ih h3 hb
theorem chkFrom_one {p : Int} {t : Tok} (h1 : chkT t = 0) (h2 : ¬ (t.kind = 1 ∧ p = 1)) : chkFrom p [t] = 0 := by
  unfold chkFrom
  rw [if_neg (by simpa using h1), if_neg h2]
  rfl
theorem endT_good {p : Int} (hp : p ≠ 1) (raw : List UInt8) : chkFrom p (endT raw) = 0 := by
  unfold endT
  split
  · rfl
  · rename_i h
    exact chkFrom_one (by simp [chkT, textTok, takeL_ne h]) (fun hq => hp hq.2)
theorem chkA_app (a : List Pair) (met : List (List UInt8)) (p : Pair) (h : chkA a met = 0) (hn : isNameL p.1 = true) (hm : p.1 ∉ met) (ha : p.1 ∉ a.map (·.1)) : chkA (a ++ [p]) met = 0 := by
  induction a generalizing met with
  | nil => simp [chkA, hn, hm]
  | cons q a ih =>
    unfold chkA at h
    rw [List.cons_append]
    unfold chkA
    split at h
    · simp at h
    · rename_i h1
      split at h
      · simp at h
      · rename_i h2
        rw [if_neg h1, if_neg h2]
        simp only [List.map_cons, List.mem_cons, not_or] at ha
        exact ih _ h (by simp [hm, ha.1]) ha.2
theorem attrsAt_good (l : List UInt8) : ∀ (f k : Nat) (acc a : List Pair) (k2 : Nat), chkA acc [] = 0 → attrsAt l f k acc = some (a, k2) → chkA a [] = 0
  | 0, k, acc, a, k2, _, h => by simp [attrsAt] at h
  | f + 1, k, acc, a, k2, hacc, h => by
    have e := (one_attrsAt h _ rfl).symm
    split at e
    · simp at e
    · split at e
      · simp only [Option.some.injEq, Prod.mk.injEq] at e
        rw [← e.1]; exact hacc
      · split at e
        · simp at e
        · rename_i p m _
          refine attrsAt_good l f _ _ _ _ ?_ e
          split
          · exact hacc
          · rename_i hc
            simp only [not_or] at hc
            exact chkA_app acc [] p hacc (by simpa using hc.2) (by simp) hc.1
/-- How many tokens are there, with the text that isn't taken yet? -/
def count (raw : List UInt8) (out : List Tok) : Nat := out.length + (endT raw).length
theorem count_tag (raw : List UInt8) (out : List Tok) (t : Tok) : count [] (out ++ endT raw ++ [t]) = count raw out + 1 := by
  simp [count, endT]
  omega
structure Good (k : Nat) (raw : List UInt8) (out : List Tok) : Prop where
  right : chkFrom 0 out = 0
  last : lastK 0 out ≠ 1
  few : count raw out ≤ k
theorem Good.tag {k k' : Nat} {raw : List UInt8} {out : List Tok} (h : Good k raw out) (t : Tok) (ht : chkT t = 0) (hk : t.kind ≠ 1) (hkk : k < k') : Good k' [] (out ++ endT raw ++ [t]) := by
  refine ⟨?_, ?_, by rw [count_tag]; have := h.few; omega⟩
  · exact chkFrom_app (chkFrom_app h.right (endT_good h.last raw)) (chkFrom_one ht (fun hq => hk hq.1))
  · rw [lastK_app]; exact hk
theorem Good.on {k k' : Nat} {raw raw' : List UInt8} {out : List Tok} (h : Good k raw out) (hk : k < k') : Good k' raw' out := by
  refine ⟨h.right, h.last, ?_⟩
  have h1 := h.few
  have h2 := endT_len raw'
  unfold count at h1 ⊢
  omega
theorem piece_good {l : List UInt8} {k : Nat} {raw : List UInt8} {out : List Tok} {k' : Nat} {raw' : List UInt8} {out' : List Tok} (h : pieceL l k raw out = some (k', raw', out')) (hk : k < l.length) (hg : Good k raw out) : Good k' raw' out' := by
  have hb := (pieceL_bound h hk).1
  unfold pieceL at h
  split at h
  · unfold openL at h
    split at h
    · simp at h
    · rename_i a k2 ha
      split at h
      · rename_i hn
        simp only [Option.some.injEq, Prod.mk.injEq] at h
        obtain ⟨rfl, rfl, rfl⟩ := h
        exact hg.tag _ (by simp [chkT, hn, attrsAt_good _ _ _ _ _ _ rfl ha]) (show (2 : Int) ≠ 1 by decide) hb
      · simp only [Option.some.injEq, Prod.mk.injEq] at h
        obtain ⟨rfl, rfl, rfl⟩ := h
        exact hg.on hb
  split at h
  · unfold closeL at h
    split at h
    · simp at h
    · split at h
      · rename_i hn
        simp only [Option.some.injEq, Prod.mk.injEq] at h
        obtain ⟨rfl, rfl, rfl⟩ := h
        exact hg.tag _ (by simp [chkT, hn]) (show (3 : Int) ≠ 1 by decide) hb
      · simp only [Option.some.injEq, Prod.mk.injEq] at h
        obtain ⟨rfl, rfl, rfl⟩ := h
        exact hg.on hb
  split at h
  · unfold comL at h
    split at h
    · simp at h
    · simp only [Option.some.injEq, Prod.mk.injEq] at h
      obtain ⟨rfl, rfl, rfl⟩ := h
      exact hg.on hb
  split at h
  · unfold declL at h
    split at h
    · simp at h
    · simp only [Option.some.injEq, Prod.mk.injEq] at h
      obtain ⟨rfl, rfl, rfl⟩ := h
      exact hg.on hb
  · unfold textL at h
    simp only [Option.some.injEq, Prod.mk.injEq] at h
    obtain ⟨rfl, rfl, rfl⟩ := h
    exact hg.on hb
theorem readAt_good (l : List UInt8) : ∀ (f k : Nat) (raw : List UInt8) (out : List Tok), k ≤ l.length → Good k raw out → chkFrom 0 (readAt l f k raw out) = 0 ∧ (readAt l f k raw out).length ≤ l.length
  | 0, k, raw, out, hk, hg => by
    refine ⟨chkFrom_app hg.right (endT_good hg.last raw), ?_⟩
    have := hg.few
    unfold count at this
    simp only [readAt, List.length_append]
    omega
  | f + 1, k, raw, out, hk, hg => by
    by_cases he : l.length ≤ k
    · rw [readAt_end he]
      refine ⟨chkFrom_app hg.right (endT_good hg.last raw), ?_⟩
      have := hg.few
      unfold count at this
      rw [List.length_append]
      omega
    · have hlt : k < l.length := by omega
      cases hp : pieceL l k raw out with
      | none =>
        rw [readAt_none hlt hp]
        exact readAt_good l f _ _ _ (Nat.le_refl _) (hg.on hlt)
      | some q =>
        obtain ⟨k', raw', out'⟩ := q
        rw [readAt_some hlt hp]
        exact readAt_good l f _ _ _ (pieceL_bound hp hlt).2.1 (piece_good hp hlt hg)
theorem readL_good (l : List UInt8) (h : l.length ≤ 3000) : chkL (readL l) = 0 := by
  have hg : Good 0 [] [] := ⟨rfl, by decide, by simp [count, endT]⟩
  have := readAt_good l (l.length + 1) 0 [] [] (Nat.zero_le _) hg
  unfold chkL readL
  rw [if_neg (by omega)]
  exact this.1
end Go.Proofs.YtlcljanibjdejaaGreat
namespace Go.Proofs.YtlcljanibjdejaaGreat
open Go.RowKit Go.Maps Go.Deep
def bulkP (l : List Pair) : Nat := (l.map fun p => p.1.length + p.2.length + 2).sum
def bulkT (t : Tok) : Nat := t.name.length + t.text.length + bulkP t.attrs + 4
def bulkL (l : List Tok) : Nat := (l.map bulkT).sum
theorem addr_plain {w : World} {a : Addr} {u : Value} (h : w.cell? a = some u) : ∃ g o, a = ⟨g, o, none⟩ := by
  obtain ⟨g, o, f⟩ := a
  cases f with
  | none => exact ⟨g, o, rfl⟩
  | some x =>
    unfold World.cell? at h
    simp only [Option.isSome_some, if_true] at h
    split at h <;> simp at h
theorem lies_of {w : World} {a : Addr} {len cap z : Nat} (hz : 0 < z) (hl : len ≤ cap) (hc : cap ≤ maxLen) {xs : List Value} (hx : xs.length = len * z) (h : ∀ j u, xs[j]? = some u → w.cell? (a.add j) = some u) : Lies w (.slice (some a) len cap) len z xs := by
  refine ⟨hx, ?_⟩
  by_cases h0 : len = 0
  · subst h0
    exact .inr (.inr ⟨rfl, _, _, rfl, hc⟩)
  · have hpos : 0 < xs.length := by rw [hx]; exact Nat.mul_pos (by omega) hz
    have h1 := h 0 _ (List.getElem?_eq_getElem hpos)
    have e0 : a.add 0 = a := by simp [Addr.add]
    rw [e0] at h1
    obtain ⟨g, o, rfl⟩ := addr_plain h1
    refine .inr (.inl ⟨g, o, cap, rfl, hl, hc, fun j u hj => ?_⟩)
    have h2 := h j u hj
    have e1 : (⟨g, o, none⟩ : Addr).add j = ⟨g, o + j, none⟩ := by by_cases hj0 : j = 0 <;> simp [Addr.add, hj0]
    rw [e1] at h2
    exact h2
section
variable {H : Type} {enc : TypeId × Value → H} {w : World} {base : Nat} {spare : Nat → Bool} {held : Bool}
end
end Go.Proofs.YtlcljanibjdejaaGreat
namespace Go.Proofs.YtlcljanibjdejaaGreat
open Go.RowKit Go.Maps
theorem bulkP_len (l : List Pair) : l.length ≤ bulkP l ∧ ∀ p ∈ l, p.1.length ≤ bulkP l := by
  induction l with
  | nil => simp [bulkP]
  | cons a l ih =>
    simp only [bulkP, List.map_cons, List.sum_cons] at ih ⊢
    refine ⟨by simp; omega, fun p hp => ?_⟩
    rcases List.mem_cons.1 hp with rfl | hp
    · omega
    · have := ih.2 p hp; omega
theorem bulkL_mem {t : Tok} {l : List Tok} (h : t ∈ l) : bulkT t ≤ bulkL l := by
  induction l with
  | nil => simp at h
  | cons a l ih =>
    simp only [bulkL, List.map_cons, List.sum_cons] at ih ⊢
    rcases List.mem_cons.1 h with rfl | h
    · omega
    · have := ih h; omega
theorem bulkL_text (l : List Tok) : (l.flatMap Tok.text).length ≤ bulkL l := by
  induction l with
  | nil => simp
  | cons a l ih =>
    simp only [bulkL, List.map_cons, List.sum_cons, List.flatMap_cons, List.length_append, bulkT] at ih ⊢
    omega
theorem bulk_fits {l : List Tok} (h : bulkL l ≤ 1100000) : ∀ t ∈ l, FitsT t ∧ t.attrs.length ≤ 2000000 := by
  intro t ht
  have h1 := bulkL_mem ht
  have h2 := bulkP_len t.attrs
  unfold bulkT at h1
  refine ⟨⟨by unfold maxLen; omega, fun p hp => by have := h2.2 p hp; unfold maxLen; omega⟩, by omega⟩
end Go.Proofs.YtlcljanibjdejaaGreat
namespace Go.Proofs.YtlcljanibjdejaaGreat
theorem takeF_len : ∀ (f : Nat) (l : List UInt8), (takeF f l).1.length ≤ 4 * l.length
  | 0, l => by simp [takeF]
  | f + 1, [] => by simp [takeF]
  | f + 1, c :: l => by
    unfold takeF
    split
    · have h1 := takeOne_le (c :: l) (by simp)
      have h2 := takeF_len f ((c :: l).drop (takeOne (c :: l)).2.1)
      rw [List.length_drop] at h2
      simp only [List.length_append]
      omega
    · have h2 := takeF_len f l
      simp only [List.length_cons]
      omega
theorem takeL_len (l : List UInt8) : (takeL l).1.length ≤ 4 * l.length := takeF_len _ _
theorem valL_both {l v : List UInt8} {m : Nat} (h : valL l = some (v, m)) : v.length ≤ m := by
  unfold valL at h
  split at h
  · simp at h
  · split at h
    · split at h
      · simp only [Option.some.injEq, Prod.mk.injEq] at h
        rw [← h.1, ← h.2]; omega
      · simp at h
    · simp only [Option.some.injEq, Prod.mk.injEq] at h
      rw [← h.1, ← h.2]
      exact Nat.le_refl _
theorem attrL_bulk {l : List UInt8} {p : Pair} {m : Nat} (h : attrL l = some (p, m)) : p.1.length + p.2.length + 2 ≤ 6 * m := by
  unfold attrL at h
  split at h
  · simp at h
  · split at h
    · simp at h
    · split at h
      · split at h
        · simp at h
        · rename_i v m' hv
          have h1 := valL_both hv
          have h2 := takeL_len v
          simp only [Option.some.injEq, Prod.mk.injEq] at h
          rw [← h.1]
          simp only [lowerL, List.length_map, List.length_cons]
          omega
      · simp only [Option.some.injEq, Prod.mk.injEq] at h
        rw [← h.1]
        simp only [lowerL, List.length_map, List.length_cons, List.length_nil]
        omega
theorem bulkP_app (a : List Pair) (p : Pair) : bulkP (a ++ [p]) = bulkP a + (p.1.length + p.2.length + 2) := by simp [bulkP]
theorem attrsAt_bulk (l : List UInt8) : ∀ (f k : Nat) (acc a : List Pair) (k2 : Nat), attrsAt l f k acc = some (a, k2) → bulkP a + 6 * k ≤ bulkP acc + 6 * k2
  | 0, k, acc, a, k2, h => by simp [attrsAt] at h
  | f + 1, k, acc, a, k2, h => by
    have e := (one_attrsAt h _ rfl).symm
    split at e
    · simp at e
    · split at e
      · simp only [Option.some.injEq, Prod.mk.injEq] at e
        rw [← e.1]; omega
      · split at e
        · simp at e
        · rename_i p m hp
          have h1 := attrsAt_bulk l f _ _ _ _ e
          have h2 := attrL_bulk hp
          split at h1
          · omega
          · rw [bulkP_app] at h1
            omega
theorem bulkL_app (a b : List Tok) : bulkL (a ++ b) = bulkL a + bulkL b := by simp [bulkL]
theorem endT_bulk (raw : List UInt8) : bulkL (endT raw) ≤ 8 * raw.length := by
  unfold endT
  split
  · simp [bulkL]
  · rename_i h
    have h1 := takeL_len raw
    have h2 : 1 ≤ raw.length := List.length_pos_iff.2 h
    simp [bulkL, bulkT, textTok, bulkP]
    omega
theorem piece_bulk {l : List UInt8} {k : Nat} {raw : List UInt8} {out : List Tok} {k' : Nat} {raw' : List UInt8} {out' : List Tok} (h : pieceL l k raw out = some (k', raw', out')) (hk : k < l.length) (hg : bulkL out + 8 * raw.length ≤ 12 * k) : bulkL out' + 8 * raw'.length ≤ 12 * k' := by
  have hb := (pieceL_bound h hk)
  have he := endT_bulk raw
  unfold pieceL at h
  split at h
  · unfold openL at h
    split at h
    · simp at h
    · rename_i a k2 ha
      have h1 := attrsAt_bulk _ _ _ _ _ _ ha
      have h2 := attrsAt_bound _ _ _ _ _ _ ha
      split at h
      · simp only [Option.some.injEq, Prod.mk.injEq] at h
        obtain ⟨rfl, rfl, rfl⟩ := h
        rw [bulkL_app, bulkL_app]
        simp [bulkL, bulkT, lowerL, bulkP] at h1 he hg ⊢
        omega
      · simp only [Option.some.injEq, Prod.mk.injEq] at h
        obtain ⟨rfl, rfl, rfl⟩ := h
        omega
  split at h
  · unfold closeL at h
    split at h
    · simp at h
    · rename_i m hm
      split at h
      · simp only [Option.some.injEq, Prod.mk.injEq] at h
        obtain ⟨rfl, rfl, rfl⟩ := h
        rw [bulkL_app, bulkL_app]
        simp [bulkL, bulkT, lowerL, bulkP] at he hg ⊢
        omega
      · simp only [Option.some.injEq, Prod.mk.injEq] at h
        obtain ⟨rfl, rfl, rfl⟩ := h
        omega
  split at h
  · unfold comL at h
    split at h
    · simp at h
    · simp only [Option.some.injEq, Prod.mk.injEq] at h
      obtain ⟨rfl, rfl, rfl⟩ := h
      omega
  split at h
  · unfold declL at h
    split at h
    · simp at h
    · simp only [Option.some.injEq, Prod.mk.injEq] at h
      obtain ⟨rfl, rfl, rfl⟩ := h
      omega
  · unfold textL at h
    simp only [Option.some.injEq, Prod.mk.injEq] at h
    obtain ⟨rfl, rfl, rfl⟩ := h
    omega
theorem readAt_bulk (l : List UInt8) : ∀ (f k : Nat) (raw : List UInt8) (out : List Tok), k ≤ l.length → bulkL out + 8 * raw.length ≤ 12 * k → bulkL (readAt l f k raw out) ≤ 12 * l.length
  | 0, k, raw, out, hk, hg => by
    have := endT_bulk raw
    simp only [readAt, bulkL_app]
    omega
  | f + 1, k, raw, out, hk, hg => by
    by_cases he : l.length ≤ k
    · rw [readAt_end he, bulkL_app]
      have := endT_bulk raw
      omega
    · have hlt : k < l.length := by omega
      cases hp : pieceL l k raw out with
      | none =>
        rw [readAt_none hlt hp]
        exact readAt_bulk l f _ _ _ (Nat.le_refl _) (by rw [List.length_append, List.length_drop]; omega)
      | some q =>
        obtain ⟨k', raw', out'⟩ := q
        rw [readAt_some hlt hp]
        exact readAt_bulk l f _ _ _ (pieceL_bound hp hlt).2.1 (piece_bulk hp hlt hg)
theorem readL_bulk (l : List UInt8) : bulkL (readL l) ≤ 12 * l.length := readAt_bulk l _ 0 [] [] (Nat.zero_le _) (by simp [bulkL])
end Go.Proofs.YtlcljanibjdejaaGreat
namespace Go.Proofs.YtlcljanibjdejaaGreat
open Go.RowKit Go.Maps
/-- How much nodes are. -/
def bulkNs : List Nd → Nat
  | [] => 0
  | .mk n a t k :: r => n.length + t.length + bulkP a + bulkNs k + 3 + bulkNs r
theorem bulkNs_cons (n : Nd) (r : List Nd) : bulkNs (n :: r) = n.name.length + n.text.length + bulkP n.attrs + bulkNs n.kids + 3 + bulkNs r := by
  obtain ⟨n, a, t, k⟩ := n
  rw [bulkNs]
  rfl
theorem bulkNs_size : (ns : List Nd) → sizeNs ns ≤ bulkNs ns
  | [] => by simp [sizeNs, bulkNs]
  | .mk n a t k :: r => by
    have h1 := bulkNs_size k
    have h2 := bulkNs_size r
    rw [sizeNs, bulkNs]
    omega
theorem bulkNs_fits : (ns : List Nd) → bulkNs ns ≤ 1100000 → FitsNs ns ∧ FewNs ns
  | [], _ => by simp [FitsNs, FewNs]
  | .mk n a t k :: r, h => by
    rw [bulkNs] at h
    have h1 := bulkNs_fits k (by omega)
    have h2 := bulkNs_fits r (by omega)
    have h3 := bulkP_len a
    rw [FitsNs, FewNs]
    exact ⟨⟨⟨by unfold maxLen; omega, fun p hp => by have := h3.2 p hp; unfold maxLen; omega⟩, h1.1, h2.1⟩, by omega, h1.2, h2.2⟩
theorem bulkNs_append (a b : List Nd) : bulkNs (a ++ b) = bulkNs a + bulkNs b := by
  induction a with
  | nil => simp [bulkNs]
  | cons n a ih => rw [List.cons_append, bulkNs_cons, bulkNs_cons, ih]; omega
def opBulk (o : Op) : Nat := o.name.length + bulkP o.attrs + bulkNs o.kids + 3
def St.bulk (s : St) : Nat := (s.all.map opBulk).sum + if s.text = [] then 0 else s.text.length + 3
theorem bulkP_nil : bulkP [] = 0 := rfl
theorem bulk_endText (s : St) : s.endText.bulk = s.bulk := by
  unfold St.endText
  split
  · rfl
  · next h => simp [St.bulk, St.all, opBulk, Op.put, bulkNs_append, textN, bulkNs, bulkP_nil, h]; omega
theorem bulk_pop (s : St) : s.pop.bulk = s.bulk := by
  rw [← bulk_endText s]
  unfold St.pop
  split
  · rfl
  · next o up h =>
    have h1 := endText_up s
    have h2 := endText_text s
    rw [h] at h1
    simp [St.bulk, St.all, opBulk, Op.put, bulkNs_append, h1, h2, Op.nd, bulkNs]
    omega
theorem bulk_close (k : Nat) (s : St) : (s.close k).bulk = s.bulk := by
  induction k generalizing s with
  | zero => rfl
  | succ k ih => rw [St.close, ih, bulk_pop]
theorem bulk_step (s : St) (t : Tok) : (s.step t).bulk ≤ s.bulk + bulkT t := by
  unfold St.step bulkT
  split
  · simp only [St.bulk, St.all]
    split
    · next h => simp at h; simp [h]
    · split
      · next h h2 => simp [h2]; omega
      · simp; omega
  · split
    · unfold St.openTag St.closeFrom
      split
      · rw [bulk_close]; omega
      · rw [← bulk_close (s.up.length + 1 - closedL s.names t.name) s]
        generalize s.close (s.up.length + 1 - closedL s.names t.name) = u
        rw [← bulk_endText u]
        unfold St.openIn
        split
        · simp [St.bulk, St.all, opBulk, St.put, Op.put, bulkNs_append, bulkNs, endText_text]
          omega
        · simp [St.bulk, St.all, opBulk, endText_up, endText_text, bulkNs]
          omega
    · unfold St.closeTag St.closeFrom
      rw [bulk_close]
      omega
theorem bulk_fold (ts : List Tok) (s : St) : (ts.foldl St.step s).bulk ≤ s.bulk + bulkL ts := by
  induction ts generalizing s with
  | nil => simp [bulkL]
  | cons t ts ih =>
    rw [List.foldl_cons, show bulkL (t :: ts) = bulkT t + bulkL ts from by simp [bulkL]]
    have := ih (s.step t)
    have := bulk_step s t
    omega
theorem bulk_build (ts : List Tok) : bulkNs (buildL ts) ≤ bulkL ts := by
  have h1 := bulk_fold ts St.start
  have h0 : St.start.bulk = 3 := by simp [St.bulk, St.all, St.start, opBulk, bulkNs, bulkP_nil]
  rw [h0] at h1
  unfold buildL St.closeFrom
  rw [Nat.add_sub_cancel]
  have hu := close_up (ts.foldl St.step St.start).up.length (ts.foldl St.step St.start)
  rw [List.drop_length] at hu
  rw [← bulk_close (ts.foldl St.step St.start).up.length] at h1
  generalize (ts.foldl St.step St.start).close (ts.foldl St.step St.start).up.length = u at *
  rw [← bulk_endText] at h1
  have h2 := endText_up u
  rw [hu] at h2
  simp [St.bulk, St.all, opBulk, h2, endText_text] at h1
  omega
end Go.Proofs.YtlcljanibjdejaaGreat
