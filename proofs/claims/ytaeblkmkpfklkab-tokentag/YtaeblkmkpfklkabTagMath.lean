/- What Read answers of a tag whose attributes are written plainly. -/
import Derived.Test.YtaeblkmkpfklkabPlainMath
namespace Go.Proofs.Ytaeblkmkpfklkab

theorem takeWhile_stop {f : UInt8 → Bool} {sk : List UInt8} {d : UInt8} {q : List UInt8} (h : ∀ x ∈ sk, f x = true) (hd : f d = false) : (sk ++ d :: q).takeWhile f = sk := by
  induction sk with
  | nil => simp [hd]
  | cons a sk ih =>
    rw [List.cons_append, List.takeWhile_cons, h a (by simp)]
    simp [ih (fun x hx => h x (by simp [hx]))]

theorem valL_quote {qu : UInt8} (hq : qu = 34 ∨ qu = 39) (V t : List UInt8) (hV : ∀ x ∈ V, x ≠ qu) : valL (qu :: (V ++ qu :: t)) = some (V, V.length + 2) := by
  have h := takeWhile_stop (f := (· != qu)) (sk := V) (d := qu) (q := t) (fun x hx => by simpa using hV x hx) (by simp)
  unfold valL
  simp only [if_pos hq]
  rw [h, if_pos (by simp)]

theorem attrs_end {l : List UInt8} {f k : Nat} {acc : List Pair} {sk q : List UInt8} (h : l.drop k = sk ++ 62 :: q) (hsk : ∀ x ∈ sk, skipB x = true) : attrsAt l (f + 1) k acc = some (acc, k + sk.length) := by
  have e1 : (l.drop k).takeWhile skipB = sk := by rw [h]; exact takeWhile_stop hsk (by decide)
  have e2 : l.drop (k + sk.length) = 62 :: q := by rw [← drop_drop', h, List.drop_left]
  rw [attrsAt, e1, e2]
  simp

theorem attrs_one {l : List UInt8} {f k : Nat} {acc : List Pair} {sk q : List UInt8} {d : UInt8} {p : Pair} {m : Nat} (h : l.drop k = sk ++ d :: q) (hsk : ∀ x ∈ sk, skipB x = true) (hd : skipB d = false) (h62 : d ≠ 62) (ha : attrL (d :: q) = some (p, m))
    (hnew : p.1 ∉ acc.map (·.1)) (hn : isNameL p.1 = true) : attrsAt l (f + 1) k acc = attrsAt l f (k + sk.length + m) (acc ++ [p]) := by
  have e1 : (l.drop k).takeWhile skipB = sk := by rw [h]; exact takeWhile_stop hsk hd
  have e2 : l.drop (k + sk.length) = d :: q := by rw [← drop_drop', h, List.drop_left]
  rw [attrsAt, e1, e2]
  simp only [if_neg h62, ha]
  rw [if_neg (by simp only [hn]; simpa using hnew)]

theorem read_tag {l T N : List UInt8} {c : UInt8} {T' : List UInt8} {a : List Pair} {k2 : Nat} (h0 : l = 60 :: T) (hT : T = c :: T') (hc : letterB c = true) (hN : T.takeWhile tagN = N) (hat : attrsAt l (l.length + 1) (1 + N.length) [] = some (a, k2)) (hend : l.length = k2 + 1) (hname : isNameL (lowerL N) = true) :
    readL l = [⟨2, lowerL N, a, []⟩] := by
  have hd1 : l.drop 1 = T := by rw [h0]; rfl
  have e1 : tagL l 0 [60] = true := by
    unfold tagL stL
    rw [h0, hT]
    simp [List.isPrefixOf, hc]
  have hp : pieceL l 0 [] [] = some (l.length, [], [⟨2, lowerL N, a, []⟩]) := by
    unfold pieceL
    rw [if_pos e1]
    unfold openL
    rw [Nat.zero_add, hd1, hN, hat]
    simp only [hname, if_true]
    rw [← hend]
    rfl
  unfold readL
  have hl : 1 ≤ l.length := by rw [h0]; simp
  obtain ⟨n, hn⟩ : ∃ n, l.length = n + 1 := ⟨l.length - 1, by omega⟩
  rw [hn, readAt_some (by omega) hp, readAt_end (Nat.le_refl _)]
  rfl

def tagA (V : List UInt8) : List UInt8 := [60, 120, 32, 107, 61, 34] ++ V ++ [34, 32, 98, 62]
def tagB (V : List UInt8) : List UInt8 := [60, 88, 32, 32, 75, 32, 61, 32, 34] ++ V ++ [34, 32, 66, 47, 62]
def tagC (V : List UInt8) : List UInt8 := [60, 120, 32, 107, 61, 39] ++ V ++ [39, 32, 98, 61, 39, 39, 62]
def tagW (x : List UInt8) : List Tok := [⟨2, [120], [([107], x), ([98], [])], []⟩]

theorem read_tagA (V x : List UInt8) (h34 : ∀ c ∈ V, c ≠ 34) (ht : (takeL V).1 = x) : readL (tagA V) = tagW x := by
  have hl : (tagA V).length = V.length + 10 := by simp [tagA]
  have ha : attrL (107 :: 61 :: 34 :: (V ++ 34 :: [32, 98, 62])) = some (([107], x), V.length + 4) := by
    have e : attrL (107 :: 61 :: 34 :: (V ++ 34 :: [32, 98, 62])) = match valL (34 :: (V ++ 34 :: [32, 98, 62])) with
      | none => none
      | some (v, m) => some (([107], (takeL v).1), 1 + 0 + 0 + 1 + 0 + m) := rfl
    rw [e, valL_quote (.inl rfl) V _ h34]
    simp only [ht]
    rw [show 1 + 0 + 0 + 1 + 0 + (V.length + 2) = V.length + 4 from by omega]
  have d1 : (tagA V).drop 2 = [32] ++ 107 :: (61 :: 34 :: (V ++ 34 :: [32, 98, 62])) := by simp [tagA]
  have d2 : (tagA V).drop (2 + 1 + (V.length + 4)) = [32] ++ 98 :: [62] := by
    rw [show tagA V = ([60, 120, 32, 107, 61, 34] ++ V ++ [34]) ++ [32, 98, 62] from by simp [tagA], show 2 + 1 + (V.length + 4) = ([60, 120, 32, 107, 61, 34] ++ V ++ [34]).length from by simp; omega, List.drop_left]
    rfl
  have d3 : (tagA V).drop (2 + 1 + (V.length + 4) + 1 + 1) = [] ++ 62 :: [] := by
    rw [show 2 + 1 + (V.length + 4) + 1 + 1 = (2 + 1 + (V.length + 4)) + 2 from by omega, ← drop_drop', d2]
    rfl
  have s1 : attrsAt (tagA V) (V.length + 10 + 1) 2 [] = attrsAt (tagA V) (V.length + 10) (2 + 1 + (V.length + 4)) [([107], x)] := attrs_one (sk := [32]) d1 (by decide) (by decide) (by decide) ha (by simp) (show isNameL [107] = true by decide)
  have s2 : attrsAt (tagA V) (V.length + 9 + 1) (2 + 1 + (V.length + 4)) [([107], x)] = attrsAt (tagA V) (V.length + 9) (2 + 1 + (V.length + 4) + 1 + 1) [([107], x), ([98], [])] := attrs_one (sk := [32]) (p := ([98], [])) (m := 1) d2 (by decide) (by decide) (by decide) rfl (show [98] ∉ [[107]] by decide) (by decide)
  have s3 : attrsAt (tagA V) (V.length + 8 + 1) (2 + 1 + (V.length + 4) + 1 + 1) [([107], x), ([98], [])] = some ([([107], x), ([98], [])], 2 + 1 + (V.length + 4) + 1 + 1 + 0) := attrs_end (sk := []) d3 (by decide)
  have hat : attrsAt (tagA V) ((tagA V).length + 1) (1 + 1) [] = some ([([107], x), ([98], [])], 2 + 1 + (V.length + 4) + 1 + 1 + 0) := by
    rw [hl]
    exact s1.trans (s2.trans s3)
  exact read_tag (l := tagA V) (N := [120]) rfl rfl (by decide) rfl hat (by omega) (by decide)

theorem read_tagB (V x : List UInt8) (h34 : ∀ c ∈ V, c ≠ 34) (ht : (takeL V).1 = x) : readL (tagB V) = tagW x := by
  have hl : (tagB V).length = V.length + 14 := by simp [tagB]
  have ha : attrL (75 :: 32 :: 61 :: 32 :: 34 :: (V ++ 34 :: [32, 66, 47, 62])) = some (([107], x), V.length + 6) := by
    have e : attrL (75 :: 32 :: 61 :: 32 :: 34 :: (V ++ 34 :: [32, 66, 47, 62])) = match valL (34 :: (V ++ 34 :: [32, 66, 47, 62])) with
      | none => none
      | some (v, m) => some (([107], (takeL v).1), 1 + 0 + 1 + 1 + 1 + m) := rfl
    rw [e, valL_quote (.inl rfl) V _ h34]
    simp only [ht]
    rw [show 1 + 0 + 1 + 1 + 1 + (V.length + 2) = V.length + 6 from by omega]
  have d1 : (tagB V).drop 2 = [32, 32] ++ 75 :: (32 :: 61 :: 32 :: 34 :: (V ++ 34 :: [32, 66, 47, 62])) := by simp [tagB]
  have d2 : (tagB V).drop (2 + 2 + (V.length + 6)) = [32] ++ 66 :: [47, 62] := by
    rw [show tagB V = ([60, 88, 32, 32, 75, 32, 61, 32, 34] ++ V ++ [34]) ++ [32, 66, 47, 62] from by simp [tagB], show 2 + 2 + (V.length + 6) = ([60, 88, 32, 32, 75, 32, 61, 32, 34] ++ V ++ [34]).length from by simp; omega, List.drop_left]
    rfl
  have d3 : (tagB V).drop (2 + 2 + (V.length + 6) + 1 + 1) = [47] ++ 62 :: [] := by
    rw [show 2 + 2 + (V.length + 6) + 1 + 1 = (2 + 2 + (V.length + 6)) + 2 from by omega, ← drop_drop', d2]
    rfl
  have s1 : attrsAt (tagB V) (V.length + 14 + 1) 2 [] = attrsAt (tagB V) (V.length + 14) (2 + 2 + (V.length + 6)) [([107], x)] := attrs_one (sk := [32, 32]) d1 (by decide) (by decide) (by decide) ha (by simp) (show isNameL [107] = true by decide)
  have s2 : attrsAt (tagB V) (V.length + 13 + 1) (2 + 2 + (V.length + 6)) [([107], x)] = attrsAt (tagB V) (V.length + 13) (2 + 2 + (V.length + 6) + 1 + 1) [([107], x), ([98], [])] := attrs_one (sk := [32]) (p := ([98], [])) (m := 1) d2 (by decide) (by decide) (by decide) rfl (show [98] ∉ [[107]] by decide) (by decide)
  have s3 : attrsAt (tagB V) (V.length + 12 + 1) (2 + 2 + (V.length + 6) + 1 + 1) [([107], x), ([98], [])] = some ([([107], x), ([98], [])], 2 + 2 + (V.length + 6) + 1 + 1 + 1) := attrs_end (sk := [47]) d3 (by decide)
  have hat : attrsAt (tagB V) ((tagB V).length + 1) (1 + 1) [] = some ([([107], x), ([98], [])], 2 + 2 + (V.length + 6) + 1 + 1 + 1) := by
    rw [hl]
    exact s1.trans (s2.trans s3)
  exact read_tag (l := tagB V) (N := [88]) rfl rfl (by decide) rfl hat (by omega) (by decide)

theorem read_tagC (V x : List UInt8) (h39 : ∀ c ∈ V, c ≠ 39) (ht : (takeL V).1 = x) : readL (tagC V) = tagW x := by
  have hl : (tagC V).length = V.length + 13 := by simp [tagC]
  have ha : attrL (107 :: 61 :: 39 :: (V ++ 39 :: [32, 98, 61, 39, 39, 62])) = some (([107], x), V.length + 4) := by
    have e : attrL (107 :: 61 :: 39 :: (V ++ 39 :: [32, 98, 61, 39, 39, 62])) = match valL (39 :: (V ++ 39 :: [32, 98, 61, 39, 39, 62])) with
      | none => none
      | some (v, m) => some (([107], (takeL v).1), 1 + 0 + 0 + 1 + 0 + m) := rfl
    rw [e, valL_quote (.inr rfl) V _ h39]
    simp only [ht]
    rw [show 1 + 0 + 0 + 1 + 0 + (V.length + 2) = V.length + 4 from by omega]
  have d1 : (tagC V).drop 2 = [32] ++ 107 :: (61 :: 39 :: (V ++ 39 :: [32, 98, 61, 39, 39, 62])) := by simp [tagC]
  have d2 : (tagC V).drop (2 + 1 + (V.length + 4)) = [32] ++ 98 :: [61, 39, 39, 62] := by
    rw [show tagC V = ([60, 120, 32, 107, 61, 39] ++ V ++ [39]) ++ [32, 98, 61, 39, 39, 62] from by simp [tagC], show 2 + 1 + (V.length + 4) = ([60, 120, 32, 107, 61, 39] ++ V ++ [39]).length from by simp; omega, List.drop_left]
    rfl
  have d3 : (tagC V).drop (2 + 1 + (V.length + 4) + 1 + 4) = [] ++ 62 :: [] := by
    rw [show 2 + 1 + (V.length + 4) + 1 + 4 = (2 + 1 + (V.length + 4)) + 5 from by omega, ← drop_drop', d2]
    rfl
  have s1 : attrsAt (tagC V) (V.length + 13 + 1) 2 [] = attrsAt (tagC V) (V.length + 13) (2 + 1 + (V.length + 4)) [([107], x)] := attrs_one (sk := [32]) d1 (by decide) (by decide) (by decide) ha (by simp) (show isNameL [107] = true by decide)
  have s2 : attrsAt (tagC V) (V.length + 12 + 1) (2 + 1 + (V.length + 4)) [([107], x)] = attrsAt (tagC V) (V.length + 12) (2 + 1 + (V.length + 4) + 1 + 4) [([107], x), ([98], [])] := attrs_one (sk := [32]) (p := ([98], [])) (m := 4) d2 (by decide) (by decide) (by decide) rfl (show [98] ∉ [[107]] by decide) (by decide)
  have s3 : attrsAt (tagC V) (V.length + 11 + 1) (2 + 1 + (V.length + 4) + 1 + 4) [([107], x), ([98], [])] = some ([([107], x), ([98], [])], 2 + 1 + (V.length + 4) + 1 + 4 + 0) := attrs_end (sk := []) d3 (by decide)
  have hat : attrsAt (tagC V) ((tagC V).length + 1) (1 + 1) [] = some ([([107], x), ([98], [])], 2 + 1 + (V.length + 4) + 1 + 4 + 0) := by
    rw [hl]
    exact s1.trans (s2.trans s3)
  exact read_tag (l := tagC V) (N := [120]) rfl rfl (by decide) rfl hat (by omega) (by decide)
end Go.Proofs.Ytaeblkmkpfklkab
