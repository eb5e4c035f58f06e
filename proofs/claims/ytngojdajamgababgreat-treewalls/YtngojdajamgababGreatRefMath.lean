/- The document's way to tell a sign, and the program's: they come to the same. -/
import Derived.Test.YtngojdajamgababGreatTakeL
namespace Go.Proofs.YtngojdajamgababGreat

theorem numF_all {base : Nat} : ∀ {l : List UInt8} {n m : Nat}, numF base n l = some m → ∀ c ∈ l, digV c < base
  | [], _, _, _, c, hc => by simp at hc
  | d :: l, n, m, h, c, hc => by
    simp only [numF] at h
    split at h
    · simp at h
    · rename_i hd
      rcases List.mem_cons.1 hc with rfl | hc
      · omega
      · exact numF_all h c hc

theorem numF_none {base : Nat} : ∀ {l : List UInt8} {n : Nat} {c : UInt8}, c ∈ l → base ≤ digV c → numF base n l = none := by
  intro l n c hc hb
  cases h : numF base n l with
  | none => rfl
  | some m => have := numF_all h c hc; omega

theorem dig_inName {c : UInt8} (h : digV c < 16) : inName c = true := by
  unfold inName
  by_cases h1 : c = 59
  · subst h1; exact absurd h (by decide)
  · by_cases h2 : c = 38
    · subst h2; exact absurd h (by decide)
    · simp [h1, h2]

theorem told16 (X : List UInt8) : toldL ([35, 120] ++ X) = numL 16 6 X := by simp [toldL]
theorem told10 (X : List UInt8) (h : X.head? ≠ some 120) : toldL ([35] ++ X) = numL 10 7 X := by
  cases X with
  | nil => simp [toldL]
  | cons c X =>
    have : c ≠ 120 := by simpa using h
    simp [toldL, Ne.symm this]

/-- The name that stands at the head. -/
def nm (l : List UInt8) : List UInt8 := l.takeWhile inName

theorem signL_eq (l : List UInt8) : signL l = if l[(nm l).length]? = some 59 then (toldL (nm l)).map fun n => (n, (nm l).length + 1) else none := rfl

theorem nm_append {a b : List UInt8} (h : ∀ c ∈ a, inName c = true) : nm (a ++ b) = a ++ nm b := List.takeWhile_append_of_pos h

theorem nm_at (l : List UInt8) : ∀ c, l[(nm l).length]? = some c → inName c = false := by
  induction l with
  | nil => intro c h; simp at h
  | cons d l ih =>
    intro c h
    by_cases hd : inName d = true
    · simp only [nm, List.takeWhile_cons, hd, if_true, List.length_cons, List.getElem?_cons_succ] at h
      exact ih c h
    · simp only [nm, List.takeWhile_cons, hd] at h
      simp at h
      subst h
      simpa using hd

theorem nm_all (l : List UInt8) : ∀ c ∈ nm l, inName c = true := fun c h => by
  have := List.all_takeWhile (p := inName) (l := l)
  exact List.all_eq_true.1 this c h

/-- A name and a ; stand at the head. -/
theorem signL_named {p r : List UInt8} {n : Nat} (hp : ∀ c ∈ p, inName c = true) (ht : toldL p = some n) : signL (p ++ 59 :: r) = some (n, p.length + 1) := by
  have e : nm (p ++ 59 :: r) = p := by rw [nm_append hp]; simp [nm, inName]
  rw [signL_eq, e, if_pos (by simp), ht]
  rfl

/-- What is told as a name, not as a number: its ; comes behind it. -/
theorem signL_split {l : List UInt8} {n m : Nat} (h : signL l = some (n, m)) : ∃ r, l = nm l ++ 59 :: r ∧ toldL (nm l) = some n ∧ m = (nm l).length + 1 := by
  rw [signL_eq] at h
  split at h
  · rename_i hg
    cases ht : toldL (nm l) with
    | none => rw [ht] at h; simp at h
    | some x =>
      rw [ht] at h
      simp at h
      obtain ⟨h1, h2⟩ := List.getElem?_eq_some_iff.1 hg
      refine ⟨l.drop ((nm l).length + 1), ?_, by rw [h.1], h.2.symm⟩
      have e1 : l.take (nm l).length = nm l := (List.prefix_iff_eq_take.1 (List.takeWhile_prefix _)).symm
      conv => lhs; rw [← List.take_append_drop (nm l).length l]
      rw [e1, List.drop_eq_getElem_cons h1, h2]
  · simp at h

/-- A sign is told by one of five names, or begins with #. -/
theorem signL_none {l : List UInt8} (h1 : List.isPrefixOf [97, 109, 112, 59] l = false) (h2 : List.isPrefixOf [108, 116, 59] l = false) (h3 : List.isPrefixOf [103, 116, 59] l = false)
    (h4 : List.isPrefixOf [113, 117, 111, 116, 59] l = false) (h5 : List.isPrefixOf [97, 112, 111, 115, 59] l = false) (h6 : List.isPrefixOf [35] l = false) : signL l = none := by
  cases hs : signL l with
  | none => rfl
  | some x =>
    obtain ⟨n, m⟩ := x
    obtain ⟨r, hl, ht, hm⟩ := signL_split hs
    generalize nm l = p at *
    subst hl
    unfold toldL at ht
    split at ht
    · rename_i e; subst e; simp at h1
    · split at ht
      · rename_i e; subst e; simp at h2
      · split at ht
        · rename_i e; subst e; simp at h3
        · split at ht
          · rename_i e; subst e; simp at h4
          · split at ht
            · rename_i e; subst e; simp at h5
            · split at ht
              · rename_i e
                cases p with
                | nil => simp at e
                | cons c p => simp at e; obtain ⟨e1, _⟩ := e; subst e1; simp at h6
              · split at ht
                · rename_i e
                  cases p with
                  | nil => simp at e
                  | cons c p => simp at e; subst e; simp at h6
                · simp at ht

/-- A number and a ; stand at the head, behind what begins a number. -/
theorem signL_num {pre ds r : List UInt8} {base most n : Nat} (hpre : ∀ c ∈ pre, inName c = true) (hb : base ≤ 16) (hn : numF base 0 ds = some n) (h1 : 1 ≤ ds.length) (h2 : ds.length ≤ most)
    (ht : toldL (pre ++ ds) = numL base most ds) : signL (pre ++ (ds ++ 59 :: r)) = some (n, pre.length + ds.length + 1) := by
  have hds : ∀ c ∈ ds, inName c = true := fun c hc => dig_inName (by have := numF_all hn c hc; omega)
  have hall : ∀ c ∈ pre ++ ds, inName c = true := fun c hc => by
    rcases List.mem_append.1 hc with h | h
    · exact hpre c h
    · exact hds c h
  rw [← List.append_assoc, signL_named (n := n) hall]
  · simp
  · rw [ht]; unfold numL; rw [if_neg (by omega)]; exact hn

/-- No number and ; stand there: what stops the digits is no ;, or they are too many, or none. -/
theorem signL_nonum {pre ds m : List UInt8} {base most n : Nat} (hpre : ∀ c ∈ pre, inName c = true) (hb : base ≤ 16) (hn : numF base 0 ds = some n)
    (ht : toldL (pre ++ nm (ds ++ m)) = numL base most (nm (ds ++ m)))
    (hexit : m = [] ∨ (∃ c r, m = c :: r ∧ base ≤ digV c) ∨ most < ds.length) (hbad : ds = [] ∨ most < ds.length ∨ m = [] ∨ ∃ c r, m = c :: r ∧ c ≠ 59) : signL (pre ++ (ds ++ m)) = none := by
  have hds : ∀ c ∈ ds, inName c = true := fun c hc => dig_inName (by have := numF_all hn c hc; omega)
  have e : nm (pre ++ (ds ++ m)) = pre ++ nm (ds ++ m) := nm_append hpre
  have e2 : nm (ds ++ m) = ds ++ nm m := nm_append hds
  rw [signL_eq, e, ht]
  split
  · rename_i hg
    rw [e2] at hg ⊢
    have hnone : numL base most (ds ++ nm m) = none := by
      unfold numL
      by_cases hlen : (ds ++ nm m).length < 1 ∨ most < (ds ++ nm m).length
      · rw [if_pos hlen]
      · rw [if_neg hlen]
        simp only [List.length_append] at hlen
        rcases hexit with h | ⟨c, r, h, hc⟩ | h
        · subst h
          simp [nm] at hg
        · subst h
          by_cases hcn : inName c = true
          · exact numF_none (c := c) (by simp [nm, hcn]) hc
          · have hn0 : nm (c :: r) = [] := by simp [nm, hcn]
            rw [hn0] at hg hlen
            simp at hg
            rcases hbad with h | h | h | ⟨c', r', h, hc'⟩
            · subst h; simp at hlen
            · simp at hlen; omega
            · simp at h
            · simp at h; exact absurd hg (by rw [h.1]; exact hc')
        · omega
    rw [hnone]
    rfl
  · rfl
end Go.Proofs.YtngojdajamgababGreat
