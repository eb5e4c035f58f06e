/- Links as functions: what a link is split to and joined of ('splitL', 'joinL'), a path without its dots ('dotsL'), a link in the light of a base ('resL'), and what may be followed ('safeL'). What may stand in clean trees, as functions. -/
import Derived.Test.YtlcljanibjdejaaGreatPk02
import Derived.Test.YtlcljanibjdejaaGreatPk04
namespace Go.Proofs.YtlcljanibjdejaaGreat

structure UrlT where
  scheme : List UInt8
  authority : List UInt8
  path : List UInt8
  query : List UInt8
  fragment : List UInt8
  hs : Bool
  ha : Bool
  hq : Bool
  hf : Bool
deriving DecidableEq

def schB (c : UInt8) : Bool := letterB c || digB c || c == 43 || c == 45 || c == 46
def authB (c : UInt8) : Bool := c != 47 && c != 63 && c != 35
def pathB (c : UInt8) : Bool := c != 63 && c != 35
def queryB (c : UInt8) : Bool := c != 35

/-- The scheme at the head, if there is one. -/
def schemeL (l : List UInt8) : Option (List UInt8) :=
  if (l.takeWhile schB) ≠ [] ∧ letterB ((l.takeWhile schB).getD 0 0) = true ∧ (l.drop (l.takeWhile schB).length).head? = some 58 then some (l.takeWhile schB) else none

def k0L (l : List UInt8) : Nat := match schemeL l with | some n => n.length + 1 | none => 0
def haL (l : List UInt8) : Bool := [47, 47].isPrefixOf (l.drop (k0L l))
def auL (l : List UInt8) : List UInt8 := if haL l = true then (l.drop (k0L l + 2)).takeWhile authB else []
def k1L (l : List UInt8) : Nat := if haL l = true then k0L l + 2 + (auL l).length else k0L l
def pathL (l : List UInt8) : List UInt8 := (l.drop (k1L l)).takeWhile pathB
def k2L (l : List UInt8) : Nat := k1L l + (pathL l).length
def hqL (l : List UInt8) : Bool := [63].isPrefixOf (l.drop (k2L l))
def quL (l : List UInt8) : List UInt8 := if hqL l = true then (l.drop (k2L l + 1)).takeWhile queryB else []
def k3L (l : List UInt8) : Nat := if hqL l = true then k2L l + 1 + (quL l).length else k2L l
def hfL (l : List UInt8) : Bool := [35].isPrefixOf (l.drop (k3L l))
def frL (l : List UInt8) : List UInt8 := if hfL l = true then l.drop (k3L l + 1) else []

def splitL (l : List UInt8) : UrlT := ⟨(schemeL l).getD [], auL l, pathL l, quL l, frL l, (schemeL l).isSome, haL l, hqL l, hfL l⟩

def joinL (u : UrlT) : List UInt8 :=
  (if u.hs = true then u.scheme ++ [58] else []) ++ (if u.ha = true then [47, 47] ++ u.authority else []) ++ u.path ++ (if u.hq = true then 63 :: u.query else []) ++ (if u.hf = true then 35 :: u.fragment else [])

theorem drop_tw (f : UInt8 → Bool) : ∀ l : List UInt8, l.drop (l.takeWhile f).length = l.dropWhile f
  | [] => rfl
  | c :: l => by
    cases h : f c
    · simp [h]
    · simpa [h] using drop_tw f l

theorem tw_drop (f : UInt8 → Bool) (l : List UInt8) (k : Nat) : l.drop k = (l.drop k).takeWhile f ++ l.drop (k + ((l.drop k).takeWhile f).length) := by
  rw [← List.drop_drop]
  have h : (l.drop k).takeWhile f ++ (l.drop k).dropWhile f = l.drop k := List.takeWhile_append_dropWhile
  rw [drop_tw f, h]

theorem tw_stop (f : UInt8 → Bool) : ∀ (l : List UInt8), l.drop (l.takeWhile f).length = [] ∨ ∃ c r, l.drop (l.takeWhile f).length = c :: r ∧ f c = false
  | [] => .inl rfl
  | c :: l => by
    cases h : f c
    · exact .inr ⟨c, l, by simp [h], h⟩
    · simpa [h] using tw_stop f l

theorem tw_stop_at (f : UInt8 → Bool) (l : List UInt8) (k : Nat) : l.drop (k + ((l.drop k).takeWhile f).length) = [] ∨ ∃ c r, l.drop (k + ((l.drop k).takeWhile f).length) = c :: r ∧ f c = false := by
  rw [← List.drop_drop]; exact tw_stop f _

theorem drop_next {l : List UInt8} {k : Nat} {c : UInt8} {r : List UInt8} (h : l.drop k = c :: r) : l.drop (k + 1) = r := by
  rw [← List.drop_drop, h]; rfl
theorem drop_next2 {l : List UInt8} {k : Nat} {c d : UInt8} {r : List UInt8} (h : l.drop k = c :: d :: r) : l.drop (k + 2) = r := by
  rw [← List.drop_drop, h]; rfl

theorem join_frag (l : List UInt8) : (if hfL l = true then 35 :: frL l else []) = l.drop (k3L l) := by
  have hstop : l.drop (k3L l) = [] ∨ ∃ r, l.drop (k3L l) = 35 :: r := by
    unfold k3L
    cases hq : hqL l
    · simp only [Bool.false_eq_true, if_false]
      rcases tw_stop_at pathB l (k1L l) with h | ⟨c, r, h, hc⟩
      · exact .inl h
      · have h' : l.drop (k2L l) = c :: r := h
        by_cases h63 : c = 63
        · subst h63
          unfold hqL at hq
          rw [h'] at hq
          simp at hq
        · right
          have : c = 35 := by simpa [pathB, h63] using hc
          subst this
          exact ⟨r, h'⟩
    · simp only [if_true]
      unfold quL
      rw [if_pos hq]
      rcases tw_stop_at queryB l (k2L l + 1) with h | ⟨c, r, h, hc⟩
      · exact .inl h
      · have : c = 35 := by simpa [queryB] using hc
        subst this
        exact .inr ⟨r, h⟩
  unfold frL
  rcases hstop with h | ⟨r, h⟩
  · have : hfL l = false := by unfold hfL; rw [h]; rfl
    rw [this, h]; simp
  · have : hfL l = true := by unfold hfL; rw [h]; rfl
    rw [this, h, drop_next h]; simp

theorem join_query (l : List UInt8) : (if hqL l = true then 63 :: quL l else []) ++ l.drop (k3L l) = l.drop (k2L l) := by
  unfold k3L
  cases hq : hqL l
  · simp
  · simp only [if_true]
    have hp := hq
    unfold hqL at hp
    cases hd : l.drop (k2L l) with
    | nil => rw [hd] at hp; simp at hp
    | cons c r =>
      rw [hd] at hp
      have : c = 63 := by simpa using (by simpa using hp : (63 : UInt8) = c).symm
      subst this
      unfold quL
      rw [if_pos hq, List.cons_append, ← tw_drop queryB l (k2L l + 1), drop_next hd]

theorem join_path (l : List UInt8) : pathL l ++ l.drop (k2L l) = l.drop (k1L l) := by
  unfold pathL k2L
  exact (tw_drop pathB l (k1L l)).symm

theorem join_auth (l : List UInt8) : (if haL l = true then [47, 47] ++ auL l else []) ++ l.drop (k1L l) = l.drop (k0L l) := by
  unfold k1L
  cases ha : haL l
  · simp
  · simp only [if_true]
    have hp := ha
    unfold haL at hp
    match hd : l.drop (k0L l) with
    | [] => rw [hd] at hp; simp at hp
    | [c] => rw [hd] at hp; simp at hp
    | c :: d :: r =>
      rw [hd] at hp
      have h1 : (47 : UInt8) = c ∧ (47 : UInt8) = d := by simpa using hp
      obtain ⟨rfl, rfl⟩ := h1
      unfold auL
      rw [if_pos ha, List.append_assoc, ← tw_drop authB l (k0L l + 2), drop_next2 hd]
      rfl

theorem join_scheme (l : List UInt8) : (if (schemeL l).isSome = true then (schemeL l).getD [] ++ [58] else []) ++ l.drop (k0L l) = l := by
  unfold k0L
  cases h : schemeL l with
  | none => simp
  | some n =>
    unfold schemeL at h
    split at h
    · rename_i hc
      simp only [Option.some.injEq] at h
      subst h
      obtain ⟨_, _, h3⟩ := hc
      simp only [Option.isSome_some, if_true, Option.getD_some]
      have e := tw_drop schB l 0
      rw [List.drop_zero, Nat.zero_add] at e
      cases hd : l.drop (l.takeWhile schB).length with
      | nil => rw [hd] at h3; simp at h3
      | cons c r =>
        rw [hd] at h3
        simp at h3
        subst h3
        rw [drop_next hd]
        conv => rhs; rw [e, hd]
        simp
    · simp at h

theorem join_split (l : List UInt8) : joinL (splitL l) = l := by
  unfold joinL splitL
  simp only
  rw [join_frag, List.append_assoc, join_query, List.append_assoc, join_path, List.append_assoc, join_auth, join_scheme]

/-- What Join answers. -/
def joinsL (u : UrlT) : Option (List UInt8) := if (joinL u).length ≤ 3000 ∧ splitL (joinL u) = u then some (joinL u) else none

theorem joins_split (l : List UInt8) (h : l.length ≤ 3000) : joinsL (splitL l) = some l := by
  unfold joinsL
  rw [join_split]
  simp [h]

/-- A path without its last /, and what is behind it. -/
def cutLast (l : List UInt8) : List UInt8 := ((l.reverse.dropWhile (· != 47)).drop 1).reverse
/-- A path up to its last /, and that. -/
def upSl (l : List UInt8) : List UInt8 := (l.reverse.dropWhile (· != 47)).reverse
def noSl (c : UInt8) : Bool := c != 47
def firstL (l : List UInt8) : Nat := 1 + ((l.drop 1).takeWhile noSl).length

theorem dropWhile_stop (f : UInt8 → Bool) : ∀ (y : List UInt8) (c : UInt8) (r : List UInt8), (∀ d ∈ y, f d = true) → f c = false → (y ++ c :: r).dropWhile f = c :: r
  | [], c, r, _, h => by simp [h]
  | d :: y, c, r, hy, h => by
    rw [List.cons_append, List.dropWhile_cons, if_pos (hy d (by simp))]
    exact dropWhile_stop f y c r (fun e he => hy e (by simp [he])) h
theorem dropWhile_none (f : UInt8 → Bool) : ∀ (y : List UInt8), (∀ d ∈ y, f d = true) → y.dropWhile f = []
  | [], _ => rfl
  | d :: y, hy => by
    rw [List.dropWhile_cons, if_pos (hy d (by simp))]
    exact dropWhile_none f y (fun e he => hy e (by simp [he]))

theorem cutLast_at (x y : List UInt8) (hy : ∀ d ∈ y, d ≠ 47) : cutLast (x ++ 47 :: y) = x := by
  unfold cutLast
  have e : (x ++ 47 :: y).reverse = y.reverse ++ 47 :: x.reverse := by simp
  rw [e, dropWhile_stop _ _ _ _ (fun d hd => by simpa using hy d (by simpa using hd)) (by simp)]
  simp
theorem cutLast_none (x : List UInt8) (hx : ∀ d ∈ x, d ≠ 47) : cutLast x = [] := by
  unfold cutLast
  rw [dropWhile_none _ _ (fun d hd => by simpa using hx d (by simpa using hd))]
  rfl
theorem upSl_at (x y : List UInt8) (hy : ∀ d ∈ y, d ≠ 47) : upSl (x ++ 47 :: y) = x ++ [47] := by
  unfold upSl
  have e : (x ++ 47 :: y).reverse = y.reverse ++ 47 :: x.reverse := by simp
  rw [e, dropWhile_stop _ _ _ _ (fun d hd => by simpa using hy d (by simpa using hd)) (by simp)]
  simp
theorem upSl_none (x : List UInt8) (hx : ∀ d ∈ x, d ≠ 47) : upSl x = [] := by
  unfold upSl
  rw [dropWhile_none _ _ (fun d hd => by simpa using hx d (by simpa using hd))]
  rfl
theorem cutLast_le (x : List UInt8) : (cutLast x).length ≤ x.length := by
  unfold cutLast
  have : (x.reverse.dropWhile (· != 47)).length ≤ x.reverse.length := (List.dropWhile_sublist _).length_le
  simp at this ⊢
  omega
theorem upSl_le (x : List UInt8) : (upSl x).length ≤ x.length := by
  unfold upSl
  have : (x.reverse.dropWhile (· != 47)).length ≤ x.reverse.length := (List.dropWhile_sublist _).length_le
  simpa using this

/-- One step of a path's dots: what is left, and what has come. -/
def dotStep (i o : List UInt8) : List UInt8 × List UInt8 :=
  if [46, 46, 47].isPrefixOf i = true then (i.drop 3, o)
  else if [46, 47].isPrefixOf i = true then (i.drop 2, o)
  else if [47, 46, 47].isPrefixOf i = true then (i.drop 2, o)
  else if [47, 46, 46, 47].isPrefixOf i = true then (i.drop 3, cutLast o)
  else if i = [47, 46] then ([47], o)
  else if i = [47, 46, 46] then ([47], cutLast o)
  else if i = [46] ∨ i = [46, 46] then ([], o)
  else (i.drop (firstL i), o ++ i.take (firstL i))

def dotsF : Nat → List UInt8 → List UInt8 → List UInt8
  | 0, _, o => o
  | f + 1, i, o => if i = [] then o else dotsF f (dotStep i o).1 (dotStep i o).2
def dotsL (l : List UInt8) : List UInt8 := dotsF l.length l []

theorem firstL_pos (l : List UInt8) : 1 ≤ firstL l := by unfold firstL; omega
theorem firstL_le (l : List UInt8) (h : l ≠ []) : firstL l ≤ l.length := by
  unfold firstL
  have h1 : ((l.drop 1).takeWhile noSl).length ≤ (l.drop 1).length := (List.takeWhile_sublist _).length_le
  have h2 : 0 < l.length := List.length_pos_iff.2 h
  rw [List.length_drop] at h1
  omega

theorem pre_len {p l : List UInt8} (h : p.isPrefixOf l = true) : p.length ≤ l.length := by
  have : p <+: l := by simpa using h
  exact this.length_le

/-- A step takes something, and what has come grows by no more than what goes. -/
theorem dotStep_less (i o : List UInt8) (h : i ≠ []) : (dotStep i o).1.length < i.length ∧ (dotStep i o).1.length + (dotStep i o).2.length ≤ i.length + o.length := by
  have hp := List.length_pos_iff.2 h
  have hc := cutLast_le o
  unfold dotStep
  split
  · rename_i hx; have := pre_len hx; simp at this ⊢; omega
  split
  · rename_i hx; have := pre_len hx; simp at this ⊢; omega
  split
  · rename_i hx; have := pre_len hx; simp at this ⊢; omega
  split
  · rename_i hx; have := pre_len hx; simp at this ⊢; omega
  split
  · rename_i hx; subst hx; simp
  split
  · rename_i hx; subst hx; simp; omega
  split
  · simp; omega
  · have h1 := firstL_pos i
    have h2 := firstL_le i h
    simp only [List.length_drop, List.length_append, List.length_take]
    omega

theorem dotsF_more : ∀ (f g : Nat) (i o : List UInt8), i.length ≤ f → i.length ≤ g → dotsF f i o = dotsF g i o
  | 0, 0, _, _, _, _ => rfl
  | 0, g + 1, i, o, h, _ => by
    have : i = [] := List.eq_nil_of_length_eq_zero (by omega)
    subst this; simp [dotsF]
  | f + 1, 0, i, o, _, h => by
    have : i = [] := List.eq_nil_of_length_eq_zero (by omega)
    subst this; simp [dotsF]
  | f + 1, g + 1, i, o, h1, h2 => by
    unfold dotsF
    by_cases hi : i = []
    · simp [hi]
    · rw [if_neg hi, if_neg hi]
      have := (dotStep_less i o hi).1
      exact dotsF_more f g _ _ (by omega) (by omega)

/-- What is left of a path and what has come, to its end. -/
def dotsR (i o : List UInt8) : List UInt8 := dotsF i.length i o
theorem dotsR_nil (o : List UInt8) : dotsR [] o = o := rfl
theorem dotsR_step (i o : List UInt8) (h : i ≠ []) : dotsR i o = dotsR (dotStep i o).1 (dotStep i o).2 := by
  have hl := (dotStep_less i o h).1
  have hp := List.length_pos_iff.2 h
  unfold dotsR
  obtain ⟨n, hn⟩ : ∃ n, i.length = n + 1 := ⟨i.length - 1, by omega⟩
  rw [hn]
  conv => lhs; unfold dotsF
  rw [if_neg h]
  exact dotsF_more _ _ _ _ (by omega) (by omega)

theorem dotsR_len : ∀ (n : Nat) (i o : List UInt8), i.length ≤ n → (dotsR i o).length ≤ i.length + o.length
  | 0, i, o, h => by
    have : i = [] := List.eq_nil_of_length_eq_zero (by omega)
    subst this; rw [dotsR_nil]; simp
  | n + 1, i, o, h => by
    by_cases hi : i = []
    · subst hi; rw [dotsR_nil]; simp
    · have hl := dotStep_less i o hi
      rw [dotsR_step i o hi]
      have := dotsR_len n (dotStep i o).1 (dotStep i o).2 (by omega)
      omega
theorem dotsL_len (l : List UInt8) : (dotsL l).length ≤ l.length := by
  have := dotsR_len l.length l [] (Nat.le_refl _)
  rw [List.length_nil, Nat.add_zero] at this
  exact this

/-- A part of a path that is no dots. -/
def PartOk (x : List UInt8) : Prop := (∀ d ∈ x, d ≠ 47) ∧ x ≠ [46] ∧ x ≠ [46, 46]

/-- Parts, each with a / ahead. -/
inductive Tail : List UInt8 → Prop
  | nil : Tail []
  | cons (x r : List UInt8) : PartOk x → Tail r → Tail (47 :: x ++ r)

def CleanP (l : List UInt8) : Prop := ∃ x r, l = x ++ r ∧ PartOk x ∧ Tail r

theorem part_nil : PartOk [] := ⟨by simp, by simp, by simp⟩

theorem Tail.snoc {r : List UInt8} (h : Tail r) (x : List UInt8) (hx : PartOk x) : Tail (r ++ 47 :: x) := by
  induction h with
  | nil => simpa using Tail.cons x [] hx .nil
  | cons y r hy _ ih =>
    have : 47 :: y ++ r ++ 47 :: x = 47 :: y ++ (r ++ 47 :: x) := by simp
    rw [this]
    exact .cons y _ hy ih

theorem CleanP.snoc {l : List UInt8} (h : CleanP l) (x : List UInt8) (hx : PartOk x) : CleanP (l ++ 47 :: x) := by
  obtain ⟨y, r, rfl, hy, hr⟩ := h
  exact ⟨y, r ++ 47 :: x, by simp, hy, hr.snoc x hx⟩

/-- The last part with its /. -/
theorem Tail.last {r : List UInt8} (h : Tail r) : r = [] ∨ ∃ q x, r = q ++ 47 :: x ∧ Tail q ∧ PartOk x := by
  induction h with
  | nil => exact .inl rfl
  | cons y r hy hr ih =>
    right
    rcases ih with rfl | ⟨q, x, rfl, hq, hx⟩
    · exact ⟨[], y, by simp, .nil, hy⟩
    · exact ⟨47 :: y ++ q, x, by simp, .cons y q hy hq, hx⟩

theorem CleanP.cut {l : List UInt8} (h : CleanP l) : CleanP (cutLast l) := by
  obtain ⟨y, r, rfl, hy, hr⟩ := h
  rcases hr.last with rfl | ⟨q, x, rfl, hq, hx⟩
  · rw [List.append_nil, cutLast_none y hy.1]
    exact ⟨[], [], rfl, part_nil, .nil⟩
  · rw [← List.append_assoc, cutLast_at _ _ hx.1]
    exact ⟨y, q, rfl, hy, hq⟩

theorem CleanP.nil : CleanP [] := ⟨[], [], rfl, part_nil, .nil⟩

/-- What is left begins with /, or nothing has come yet. -/
def DotInv (i o : List UInt8) : Prop := CleanP o ∧ (o = [] ∨ i = [] ∨ ∃ r, i = 47 :: r)

theorem pre_eq {p l : List UInt8} (h : p.isPrefixOf l = true) : ∃ r, l = p ++ r := by
  have : p <+: l := by simpa using h
  obtain ⟨r, hr⟩ := this
  exact ⟨r, hr.symm⟩
theorem pre_of (p r : List UInt8) : p.isPrefixOf (p ++ r) = true := by simp

theorem firstL_eq (c : UInt8) (x r : List UInt8) (hx : ∀ d ∈ x, d ≠ 47) (hr : r = [] ∨ ∃ q, r = 47 :: q) : firstL (c :: (x ++ r)) = 1 + x.length := by
  unfold firstL
  simp only [List.drop_succ_cons, List.drop_zero]
  congr 1
  have : (x ++ r).takeWhile noSl = x := by
    rw [List.takeWhile_append_of_pos (fun d hd => by simpa [noSl] using hx d hd)]
    rcases hr with rfl | ⟨q, rfl⟩
    · simp
    · simp [noSl]
  rw [this]

theorem split_first (l : List UInt8) : ∃ x r, l = x ++ r ∧ (∀ d ∈ x, d ≠ 47) ∧ (r = [] ∨ ∃ q, r = 47 :: q) := by
  refine ⟨l.takeWhile noSl, l.drop (l.takeWhile noSl).length, ?_, ?_, ?_⟩
  · have := tw_drop noSl l 0
    simpa using this
  · intro d hd
    have := List.all_eq_true.1 (List.all_takeWhile (p := noSl) (l := l)) d hd
    simpa [noSl] using this
  · rcases tw_stop noSl l with h | ⟨c, r, h, hc⟩
    · exact .inl h
    · have : c = 47 := by simpa [noSl] using hc
      subst this
      exact .inr ⟨r, h⟩

theorem dotStep_inv (i o : List UInt8) (hi : i ≠ []) (h : DotInv i o) : DotInv (dotStep i o).1 (dotStep i o).2 := by
  obtain ⟨hc, hh⟩ := h
  unfold dotStep
  split
  · rename_i hx
    obtain ⟨r, rfl⟩ := pre_eq hx
    rcases hh with rfl | hh | ⟨q, hq⟩
    · exact ⟨hc, .inl rfl⟩
    · simp at hh
    · simp at hq
  split
  · rename_i hx
    obtain ⟨r, rfl⟩ := pre_eq hx
    rcases hh with rfl | hh | ⟨q, hq⟩
    · exact ⟨hc, .inl rfl⟩
    · simp at hh
    · simp at hq
  split
  · rename_i hx
    obtain ⟨r, rfl⟩ := pre_eq hx
    exact ⟨hc, .inr (.inr ⟨r, by simp⟩)⟩
  split
  · rename_i hx
    obtain ⟨r, rfl⟩ := pre_eq hx
    exact ⟨hc.cut, .inr (.inr ⟨r, by simp⟩)⟩
  split
  · exact ⟨hc, .inr (.inr ⟨[], rfl⟩)⟩
  split
  · exact ⟨hc.cut, .inr (.inr ⟨[], rfl⟩)⟩
  split
  · exact ⟨hc, .inr (.inl rfl)⟩
  · rename_i n1 n2 n3 n4 n5 n6 n7
    match i, hi with
    | c :: l, _ =>
      obtain ⟨x, r, rfl, hx, hr⟩ := split_first l
      have hf := firstL_eq c x r hx hr
      have e1 : (c :: (x ++ r)).drop (firstL (c :: (x ++ r))) = r := by
        rw [hf, Nat.add_comm 1]; simp
      have e2 : (c :: (x ++ r)).take (firstL (c :: (x ++ r))) = c :: x := by
        rw [hf, Nat.add_comm 1]; simp
      simp only [e1, e2]
      refine ⟨?_, .inr (by rcases hr with rfl | ⟨q, rfl⟩; exact .inl rfl; exact .inr ⟨q, rfl⟩)⟩
      by_cases h47 : c = 47
      · subst h47
        refine hc.snoc x ⟨hx, ?_, ?_⟩
        · rintro rfl
          rcases hr with rfl | ⟨q, rfl⟩
          · exact n5 rfl
          · exact n3 (by simp [List.isPrefixOf])
        · rintro rfl
          rcases hr with rfl | ⟨q, rfl⟩
          · exact n6 rfl
          · exact n4 (by simp [List.isPrefixOf])
      · have ho : o = [] := by
          rcases hh with rfl | hh | ⟨q, hq⟩
          · rfl
          · simp at hh
          · simp at hq; exact absurd hq.1 h47
        subst ho
        refine ⟨c :: x, [], by simp, ⟨?_, ?_, ?_⟩, .nil⟩
        · intro d hd
          rcases List.mem_cons.1 hd with rfl | hd
          · exact h47
          · exact hx d hd
        · intro e
          simp at e
          obtain ⟨rfl, rfl⟩ := e
          rcases hr with rfl | ⟨q, rfl⟩
          · exact n7 (.inl rfl)
          · exact n2 (by simp [List.isPrefixOf])
        · intro e
          simp at e
          obtain ⟨rfl, rfl⟩ := e
          rcases hr with rfl | ⟨q, rfl⟩
          · exact n7 (.inr rfl)
          · exact n1 (by simp [List.isPrefixOf])

theorem dotsR_clean : ∀ (n : Nat) (i o : List UInt8), i.length ≤ n → DotInv i o → CleanP (dotsR i o)
  | 0, i, o, h, hd => by
    have : i = [] := List.eq_nil_of_length_eq_zero (by omega)
    subst this; rw [dotsR_nil]; exact hd.1
  | n + 1, i, o, h, hd => by
    by_cases hi : i = []
    · subst hi; rw [dotsR_nil]; exact hd.1
    · have hl := (dotStep_less i o hi).1
      rw [dotsR_step i o hi]
      exact dotsR_clean n _ _ (by omega) (dotStep_inv i o hi hd)
theorem dotsL_clean (l : List UInt8) : CleanP (dotsL l) := dotsR_clean l.length l [] (Nat.le_refl _) ⟨.nil, .inl rfl⟩

/-- A part that is no dots comes as it is. -/
theorem dotStep_part (x r o : List UInt8) (hx : PartOk x) (hr : r = [] ∨ ∃ q, r = 47 :: q) : dotStep (47 :: (x ++ r)) o = (r, o ++ 47 :: x) := by
  have hf := firstL_eq 47 x r hx.1 hr
  have e1 : (47 :: (x ++ r)).drop (firstL (47 :: (x ++ r))) = r := by rw [hf, Nat.add_comm 1]; simp
  have e2 : (47 :: (x ++ r)).take (firstL (47 :: (x ++ r))) = 47 :: x := by rw [hf, Nat.add_comm 1]; simp
  obtain ⟨h1, h2, h3⟩ := hx
  have key : ∀ y : List UInt8, (∀ d ∈ y, d ≠ 47) → ∀ q', x ++ r = y ++ 47 :: q' → x = y := by
    intro y hy q' e
    rcases List.append_eq_append_iff.1 e with ⟨a, ha1, ha2⟩ | ⟨a, ha1, ha2⟩
    · cases a with
      | nil => simpa using ha1.symm
      | cons d a =>
        exfalso
        rcases hr with rfl | ⟨q, rfl⟩
        · simp at ha2
        · simp at ha2
          exact hy d (by rw [ha1]; simp) ha2.1.symm
    · cases a with
      | nil => simpa using ha1
      | cons d a =>
        exfalso
        simp at ha2
        exact h1 d (by rw [ha1]; simp) ha2.1.symm
  have keyE : ∀ y : List UInt8, (∀ d ∈ y, d ≠ 47) → x ++ r = y → x = y := by
    intro y hy e
    rcases hr with rfl | ⟨q, rfl⟩
    · simpa using e
    · exact absurd rfl (hy 47 (by rw [← e]; simp))
  unfold dotStep
  rw [e1, e2]
  rw [if_neg (by simp [List.isPrefixOf]), if_neg (by simp [List.isPrefixOf])]
  rw [if_neg (fun h => by
    obtain ⟨q, hq⟩ := pre_eq h
    exact h2 (key [46] (by simp) q (by simpa using hq)))]
  rw [if_neg (fun h => by
    obtain ⟨q, hq⟩ := pre_eq h
    exact h3 (key [46, 46] (by simp) q (by simpa using hq)))]
  rw [if_neg (fun h => h2 (keyE [46] (by simp) (by simpa using h)))]
  rw [if_neg (fun h => h3 (keyE [46, 46] (by simp) (by simpa using h)))]
  rw [if_neg (by simp)]

theorem Tail.head {r : List UInt8} (h : Tail r) : r = [] ∨ ∃ q, r = 47 :: q := by
  cases h with
  | nil => exact .inl rfl
  | cons x r _ _ => exact .inr ⟨x ++ r, by simp⟩

theorem dotsR_tail {r : List UInt8} (h : Tail r) : ∀ o, dotsR r o = o ++ r := by
  induction h with
  | nil => intro o; rw [dotsR_nil, List.append_nil]
  | cons x r hx hr ih =>
    intro o
    rw [List.cons_append, dotsR_step _ _ (by simp), dotStep_part x r o hx hr.head, ih]
    simp

theorem dotsL_same {l : List UInt8} (h : CleanP l) : dotsL l = l := by
  obtain ⟨x, r, rfl, hx, hr⟩ := h
  cases x with
  | nil => exact (dotsR_tail hr []).trans (by simp)
  | cons c x =>
    obtain ⟨h1, h2, h3⟩ := hx
    have h47 : c ≠ 47 := h1 c (by simp)
    have hf := firstL_eq c x r (fun d hd => h1 d (by simp [hd])) hr.head
    have e1 : (c :: (x ++ r)).drop (firstL (c :: (x ++ r))) = r := by rw [hf, Nat.add_comm 1]; simp
    have e2 : (c :: (x ++ r)).take (firstL (c :: (x ++ r))) = c :: x := by rw [hf, Nat.add_comm 1]; simp
    have key : ∀ y q' : List UInt8, (∀ d ∈ y, d ≠ 47) → c :: (x ++ r) = y ++ 47 :: q' → c :: x = y := by
      intro y q' hy e
      rw [← List.cons_append] at e
      rcases List.append_eq_append_iff.1 e with ⟨a, ha1, ha2⟩ | ⟨a, ha1, ha2⟩
      · cases a with
        | nil => simpa using ha1.symm
        | cons d a =>
          exfalso
          rcases hr.head with rfl | ⟨q, rfl⟩
          · simp at ha2
          · simp at ha2
            exact hy d (by rw [ha1]; simp) ha2.1.symm
      · cases a with
        | nil => simpa using ha1
        | cons d a =>
          exfalso
          simp at ha2
          exact h1 d (by rw [ha1]; simp) ha2.1.symm
    have keyE : ∀ y : List UInt8, (∀ d ∈ y, d ≠ 47) → c :: (x ++ r) = y → c :: x = y := by
      intro y hy e
      rcases hr.head with rfl | ⟨q, rfl⟩
      · simpa using e
      · exact absurd rfl (hy 47 (by rw [← e]; simp))
    have hstep : dotStep (c :: (x ++ r)) [] = (r, c :: x) := by
      unfold dotStep
      rw [e1, e2]
      rw [if_neg (fun h => by
        obtain ⟨q, hq⟩ := pre_eq h
        exact h3 (key [46, 46] q (by simp) (by simpa using hq)))]
      rw [if_neg (fun h => by
        obtain ⟨q, hq⟩ := pre_eq h
        exact h2 (key [46] q (by simp) (by simpa using hq)))]
      rw [if_neg (fun h => by
        obtain ⟨q, hq⟩ := pre_eq h
        simp at hq; exact h47 hq.1)]
      rw [if_neg (fun h => by
        obtain ⟨q, hq⟩ := pre_eq h
        simp at hq; exact h47 hq.1)]
      rw [if_neg (fun h => by simp at h; exact h47 h.1)]
      rw [if_neg (fun h => by simp at h; exact h47 h.1)]
      rw [if_neg (fun h => by
        rcases h with h | h
        · exact h2 (keyE [46] (by simp) h)
        · exact h3 (keyE [46, 46] (by simp) h))]
      simp
    show dotsR (c :: x ++ r) [] = _
    rw [List.cons_append, dotsR_step _ _ (by simp), hstep, dotsR_tail hr]
    simp

theorem dotsL_twice (l : List UInt8) : dotsL (dotsL l) = dotsL l := dotsL_same (dotsL_clean l)

/-- The path of a link that has neither scheme nor authority, seen from the base. -/
def mergedL (b : UrlT) (p : List UInt8) : List UInt8 :=
  if p = [] then b.path else if p.head? = some 47 then p else if b.ha = true ∧ b.path = [] then 47 :: p else upSl b.path ++ p

def resL (b u : UrlT) : UrlT :=
  if u.hs = true then { u with path := dotsL u.path }
  else if u.ha = true then { u with scheme := b.scheme, hs := true, path := dotsL u.path }
  else { scheme := b.scheme, hs := true, authority := b.authority, ha := b.ha, path := dotsL (mergedL b u.path),
         query := if u.path = [] ∧ u.hq = false then b.query else u.query, hq := if u.path = [] ∧ u.hq = false then b.hq else u.hq, fragment := u.fragment, hf := u.hf }

theorem resL_hs (b u : UrlT) : (resL b u).hs = true := by
  unfold resL
  split
  · assumption
  split <;> rfl
theorem resL_path (b u : UrlT) : dotsL (resL b u).path = (resL b u).path := by
  unfold resL
  split
  · exact dotsL_twice _
  split <;> exact dotsL_twice _

/-- What Resolve answers: the text, or the errno. -/
def resAns (base s : List UInt8) : Option (List UInt8) := if (splitL base).hs = true then joinsL (resL (splitL base) (splitL s)) else none

theorem res_again {base s r : List UInt8} (h : resAns base s = some r) : (splitL r).hs = true ∧ resAns base r = some r ∧ r.length ≤ 3000 := by
  unfold resAns at h
  split at h
  · rename_i hb
    unfold joinsL at h
    split at h
    · rename_i hj
      simp only [Option.some.injEq] at h
      rw [h] at hj
      have hhs := resL_hs (splitL base) (splitL s)
      rw [← hj.2] at hhs
      refine ⟨hhs, ?_, hj.1⟩
      have e : resL (splitL base) (splitL r) = splitL r := by
        conv => lhs; unfold resL
        rw [if_pos hhs]
        have hp := resL_path (splitL base) (splitL s)
        rw [← hj.2] at hp
        rw [hp]
      unfold resAns
      rw [if_pos hb, e, joins_split r hj.1]
    · simp at h
  · simp at h

/-- What is left of a link without white bytes and those below 32. -/
def bareL (l : List UInt8) : List UInt8 := l.filter fun c => decide (32 < c.toNat)
def okS (l : List UInt8) : Bool := l == [104, 116, 116, 112] || l == [104, 116, 116, 112, 115] || l == [109, 97, 105, 108, 116, 111]
def safeL (l : List UInt8) : Bool := okS (lowerL (splitL (bareL l)).scheme)

def upB (c : UInt8) : UInt8 := if smallB c then c - 32 else c
def upperL (l : List UInt8) : List UInt8 := l.map upB

theorem all_bytes {p : UInt8 → Prop} [DecidablePred p] (h : ∀ n : Fin 256, p ⟨⟨n⟩⟩) (c : UInt8) : p c := by
  have := h c.toBitVec.toFin
  exact this

theorem up_bare : ∀ c : UInt8, decide (32 < (upB c).toNat) = decide (32 < c.toNat) := all_bytes (by decide +kernel)
theorem up_sch : ∀ c : UInt8, schB (upB c) = schB c := all_bytes (by decide +kernel)
theorem up_low : ∀ c : UInt8, lowB (upB c) = lowB c := all_bytes (by decide +kernel)
theorem up_letter : ∀ c : UInt8, letterB (upB c) = letterB c := all_bytes (by decide +kernel)
theorem up_colon : ∀ c : UInt8, (upB c = 58) ↔ (c = 58) := all_bytes (by decide +kernel)

theorem bare_upper (l : List UInt8) : bareL (upperL l) = upperL (bareL l) := by
  unfold bareL upperL
  rw [List.filter_map]
  congr 1
  apply List.filter_congr
  intro c _
  exact up_bare c

theorem scheme_of (l : List UInt8) : (splitL l).scheme = (schemeL l).getD [] := rfl

theorem takeWhile_upper : ∀ (l : List UInt8), (upperL l).takeWhile schB = upperL (l.takeWhile schB)
  | [] => rfl
  | c :: l => by
    have ih := takeWhile_upper l
    unfold upperL at ih ⊢
    simp only [List.map_cons, List.takeWhile_cons, up_sch]
    cases schB c
    · simp
    · simp [ih]

theorem lower_upper (l : List UInt8) : lowerL (upperL l) = lowerL l := by
  unfold lowerL upperL
  rw [List.map_map]
  apply List.map_congr_left
  intro c _
  exact up_low c

theorem scheme_upper (l : List UInt8) : lowerL ((schemeL (upperL l)).getD []) = lowerL ((schemeL l).getD []) := by
  unfold schemeL
  rw [takeWhile_upper]
  have e1 : upperL (l.takeWhile schB) ≠ [] ↔ l.takeWhile schB ≠ [] := by simp [upperL]
  have e2 : letterB ((upperL (l.takeWhile schB)).getD 0 0) = letterB ((l.takeWhile schB).getD 0 0) := by
    unfold upperL
    cases l.takeWhile schB with
    | nil => rfl
    | cons c r => simp [up_letter]
  have e3 : ((upperL l).drop (upperL (l.takeWhile schB)).length).head? = some 58 ↔ (l.drop (l.takeWhile schB).length).head? = some 58 := by
    unfold upperL
    rw [List.length_map, ← List.map_drop]
    cases l.drop (l.takeWhile schB).length with
    | nil => simp
    | cons c r => simp [up_colon]
  by_cases h : l.takeWhile schB ≠ [] ∧ letterB ((l.takeWhile schB).getD 0 0) = true ∧ (l.drop (l.takeWhile schB).length).head? = some 58
  · rw [if_pos h, if_pos ⟨e1.2 h.1, by rw [e2]; exact h.2.1, e3.2 h.2.2⟩]
    exact lower_upper _
  · rw [if_neg h, if_neg (fun hh => h ⟨e1.1 hh.1, by rw [← e2]; exact hh.2.1, e3.1 hh.2.2⟩)]

theorem safe_upper (l : List UInt8) : safeL (upperL l) = safeL l := by
  unfold safeL
  rw [bare_upper, scheme_of, scheme_of, scheme_upper]

theorem safe_blank (x y : List UInt8) : safeL (x ++ 10 :: y) = safeL (x ++ y) := by
  unfold safeL bareL
  simp

theorem safe_slash (l : List UInt8) : safeL (47 :: l) = false := by
  have e : schemeL (bareL (47 :: l)) = none := by
    have : bareL (47 :: l) = 47 :: bareL l := by simp [bareL]
    rw [this]
    unfold schemeL
    rw [if_neg]
    simp [show schB 47 = false from by decide]
  unfold safeL
  rw [scheme_of, e]
  rfl
end Go.Proofs.YtlcljanibjdejaaGreat

namespace Go.Proofs.YtlcljanibjdejaaGreat

/-! ### clean trees, as they are thought of -/
def imgN : List UInt8 := [105, 109, 103]
def srcN : List UInt8 := [115, 114, 99]
def allowedN (n : List UInt8) : Bool := (n == [97]) || ((n == [98]) || ((n == [105]) || ((n == [101, 109]) || ((n == [115, 116, 114, 111, 110, 103]) || ((n == [112]) || ((n == [98, 114]) || ((n == [104, 114]) || ((n == [117, 108]) || ((n == [111, 108]) || ((n == [108, 105]) || ((n == [98, 108, 111, 99, 107, 113, 117, 111, 116, 101]) || ((n == [99, 111, 100, 101]) || (n == [105, 109, 103])))))))))))))
def allowedA (el nm : List UInt8) : Bool := if (el == [97]) = true then (nm == [104, 114, 101, 102]) || (nm == [116, 105, 116, 108, 101]) else if (el == [105, 109, 103]) = true then (nm == [115, 114, 99]) || (nm == [97, 108, 116]) else false
def linkN (nm : List UInt8) : Bool := (nm == [104, 114, 101, 102]) || (nm == [115, 114, 99])
/-- What a link is in the light of a base. -/
def lightL (base s : List UInt8) : List UInt8 := if 3000 < s.length then s else (resAns base s).getD s
/-- Why an attribute can't stand: 0 if it can. -/
def attrE (el : List UInt8) (a : Pair) : Int := if allowedA el a.1 = false then 7 else if linkN a.1 = false then 0 else if 3000 < a.2.length then 2 else if safeL a.2 = false then 4 else 0
def attrsE (el : List UInt8) : List Pair → Int
  | [] => 0
  | a :: r => if attrE el a = 0 then attrsE el r else attrE el a
def hasSrc (l : List Pair) : Bool := l.any (fun a => a.1 == [115, 114, 99])
/-- Why a node can't stand: 0 if it can. -/
def standE (n : List UInt8) (l : List Pair) : Int := if n.isEmpty = true then 0 else if allowedN n = false then 7 else if attrsE n l = 0 then (if ((n == [105, 109, 103]) && !hasSrc l) = true then 5 else 0) else attrsE n l
/-- An attribute in the light of a base. -/
def toldA (base : List UInt8) (a : Pair) : Pair := if linkN a.1 = true then (a.1, lightL base a.2) else a
def keptA (base el : List UInt8) (l : List Pair) : List Pair := (l.map (toldA base)).filter (fun a => attrE el a == 0)

end Go.Proofs.YtlcljanibjdejaaGreat
