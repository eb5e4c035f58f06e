/- Links as functions: what a link is split to and joined of ('splitL', 'joinL'), a path without its dots ('dotsL'), a link in the light of a base ('resL'), and what may be followed ('safeL'). What may stand in clean trees, as functions. Package stop: what gives up with an error, and Caught, which tells it. Names of elements and of attributes that may stand in clean trees: isAllowed, isAllowedAttr, isLink, goes. What must stand in clean trees: ContainsFunc. A scheme at the head of a text, and what stands up to one of some bytes. -/
import Derived.Test.YtlcljanibjdejaaGreatSo13
import Derived.Laws.ResultCell
namespace Go.Proofs.YtlcljanibjdejaaGreat
structure UrlT where
  scheme : List UInt8
  authority : List UInt8
  path : List UInt8
  query : List UInt8
  fragment : List UInt8
  hs : Bool
  ha : Bool
  hq : Bool
  hf : Bool
deriving DecidableEq
def schB (c : UInt8) : Bool := letterB c || digB c || c == 43 || c == 45 || c == 46
def authB (c : UInt8) : Bool := c != 47 && c != 63 && c != 35
def pathB (c : UInt8) : Bool := c != 63 && c != 35
def queryB (c : UInt8) : Bool := c != 35
/-- The scheme at the head, if there is one. -/
def schemeL (l : List UInt8) : Option (List UInt8) :=
  if (l.takeWhile schB) ≠ [] ∧ letterB ((l.takeWhile schB).getD 0 0) = true ∧ (l.drop (l.takeWhile schB).length).head? = some 58 then some (l.takeWhile schB) else none
def k0L (l : List UInt8) : Nat := match schemeL l with | some n => n.length + 1 | none => 0
def haL (l : List UInt8) : Bool := [47, 47].isPrefixOf (l.drop (k0L l))
def auL (l : List UInt8) : List UInt8 := if haL l = true then (l.drop (k0L l + 2)).takeWhile authB else []
def k1L (l : List UInt8) : Nat := if haL l = true then k0L l + 2 + (auL l).length else k0L l
def pathL (l : List UInt8) : List UInt8 := (l.drop (k1L l)).takeWhile pathB
def k2L (l : List UInt8) : Nat := k1L l + (pathL l).length
def hqL (l : List UInt8) : Bool := [63].isPrefixOf (l.drop (k2L l))
def quL (l : List UInt8) : List UInt8 := if hqL l = true then (l.drop (k2L l + 1)).takeWhile queryB else []
def k3L (l : List UInt8) : Nat := if hqL l = true then k2L l + 1 + (quL l).length else k2L l
def hfL (l : List UInt8) : Bool := [35].isPrefixOf (l.drop (k3L l))
def frL (l : List UInt8) : List UInt8 := if hfL l = true then l.drop (k3L l + 1) else []
def splitL (l : List UInt8) : UrlT := ⟨(schemeL l).getD [], auL l, pathL l, quL l, frL l, (schemeL l).isSome, haL l, hqL l, hfL l⟩
def joinL (u : UrlT) : List UInt8 :=
  (if u.hs = true then u.scheme ++ [58] else []) ++ (if u.ha = true then [47, 47] ++ u.authority else []) ++ u.path ++ (if u.hq = true then 63 :: u.query else []) ++ (if u.hf = true then 35 :: u.fragment else [])
theorem drop_tw (f : UInt8 → Bool) : ∀ l : List UInt8, l.drop (l.takeWhile f).length = l.dropWhile f
  | [] => rfl
  | c :: l => by
    cases h : f c
    · simp [h]
    · simpa [h] using drop_tw f l
theorem tw_drop (f : UInt8 → Bool) (l : List UInt8) (k : Nat) : l.drop k = (l.drop k).takeWhile f ++ l.drop (k + ((l.drop k).takeWhile f).length) := by
  rw [← List.drop_drop]
  have h : (l.drop k).takeWhile f ++ (l.drop k).dropWhile f = l.drop k := List.takeWhile_append_dropWhile
  rw [drop_tw f, h]
theorem tw_stop (f : UInt8 → Bool) : ∀ (l : List UInt8), l.drop (l.takeWhile f).length = [] ∨ ∃ c r, l.drop (l.takeWhile f).length = c :: r ∧ f c = false
  | [] => .inl rfl
  | c :: l => by
    cases h : f c
    · exact .inr ⟨c, l, by simp [h], h⟩
    · simpa [h] using tw_stop f l
theorem tw_stop_at (f : UInt8 → Bool) (l : List UInt8) (k : Nat) : l.drop (k + ((l.drop k).takeWhile f).length) = [] ∨ ∃ c r, l.drop (k + ((l.drop k).takeWhile f).length) = c :: r ∧ f c = false := by
  rw [← List.drop_drop]; exact tw_stop f _
theorem drop_next {l : List UInt8} {k : Nat} {c : UInt8} {r : List UInt8} (h : l.drop k = c :: r) : l.drop (k + 1) = r := by
  rw [← List.drop_drop, h]; rfl
theorem drop_next2 {l : List UInt8} {k : Nat} {c d : UInt8} {r : List UInt8} (h : l.drop k = c :: d :: r) : l.drop (k + 2) = r := by
  rw [← List.drop_drop, h]; rfl
theorem join_frag (l : List UInt8) : (if hfL l = true then 35 :: frL l else []) = l.drop (k3L l) := by
  have hstop : l.drop (k3L l) = [] ∨ ∃ r, l.drop (k3L l) = 35 :: r := by
    unfold k3L
    cases hq : hqL l
    · simp only [Bool.false_eq_true, if_false]
      rcases tw_stop_at pathB l (k1L l) with h | ⟨c, r, h, hc⟩
      · exact .inl h
      · have h' : l.drop (k2L l) = c :: r := h
        by_cases h63 : c = 63
        · subst h63
          unfold hqL at hq
          rw [h'] at hq
          simp at hq
        · right
          have : c = 35 := by simpa [pathB, h63] using hc
          subst this
          exact ⟨r, h'⟩
    · simp only [if_true]
      unfold quL
      rw [if_pos hq]
      rcases tw_stop_at queryB l (k2L l + 1) with h | ⟨c, r, h, hc⟩
      · exact .inl h
      · have : c = 35 := by simpa [queryB] using hc
        subst this
        exact .inr ⟨r, h⟩
  unfold frL
  rcases hstop with h | ⟨r, h⟩
  · have : hfL l = false := by unfold hfL; rw [h]; rfl
    rw [this, h]; simp
  · have : hfL l = true := by unfold hfL; rw [h]; rfl
    rw [this, h, drop_next h]; simp
theorem join_query (l : List UInt8) : (if hqL l = true then 63 :: quL l else []) ++ l.drop (k3L l) = l.drop (k2L l) := by
  unfold k3L
  cases hq : hqL l
  · simp
  · simp only [if_true]
    have hp := hq
    unfold hqL at hp
    cases hd : l.drop (k2L l) with
    | nil => rw [hd] at hp; simp at hp
    | cons c r =>
      rw [hd] at hp
      have : c = 63 := by simpa using (by simpa using hp : (63 : UInt8) = c).symm
      subst this
      unfold quL
      rw [if_pos hq, List.cons_append, ← tw_drop queryB l (k2L l + 1), drop_next hd]
theorem join_path (l : List UInt8) : pathL l ++ l.drop (k2L l) = l.drop (k1L l) := by
  unfold pathL k2L
  exact (tw_drop pathB l (k1L l)).symm
theorem join_auth (l : List UInt8) : (if haL l = true then [47, 47] ++ auL l else []) ++ l.drop (k1L l) = l.drop (k0L l) := by
  unfold k1L
  cases ha : haL l
  · simp
  · simp only [if_true]
    have hp := ha
    unfold haL at hp
    match hd : l.drop (k0L l) with
    | [] => rw [hd] at hp; simp at hp
    | [c] => rw [hd] at hp; simp at hp
    | c :: d :: r =>
      rw [hd] at hp
      have h1 : (47 : UInt8) = c ∧ (47 : UInt8) = d := by simpa using hp
      obtain ⟨rfl, rfl⟩ := h1
      unfold auL
      rw [if_pos ha, List.append_assoc, ← tw_drop authB l (k0L l + 2), drop_next2 hd]
      rfl
theorem join_scheme (l : List UInt8) : (if (schemeL l).isSome = true then (schemeL l).getD [] ++ [58] else []) ++ l.drop (k0L l) = l := by
  unfold k0L
  cases h : schemeL l with
  | none => simp
  | some n =>
    unfold schemeL at h
    split at h
    · rename_i hc
      simp only [Option.some.injEq] at h
      subst h
      obtain ⟨_, _, h3⟩ := hc
      simp only [Option.isSome_some, if_true, Option.getD_some]
      have e := tw_drop schB l 0
      rw [List.drop_zero, Nat.zero_add] at e
      cases hd : l.drop (l.takeWhile schB).length with
      | nil => rw [hd] at h3; simp at h3
      | cons c r =>
        rw [hd] at h3
        simp at h3
        subst h3
        rw [drop_next hd]
        conv => rhs; rw [e, hd]
        simp
    · simp at h
theorem join_split (l : List UInt8) : joinL (splitL l) = l := by
  unfold joinL splitL
  simp only
  rw [join_frag, List.append_assoc, join_query, List.append_assoc, join_path, List.append_assoc, join_auth, join_scheme]
/-- What Join answers. -/
def joinsL (u : UrlT) : Option (List UInt8) := if (joinL u).length ≤ 3000 ∧ splitL (joinL u) = u then some (joinL u) else none
theorem joins_split (l : List UInt8) (h : l.length ≤ 3000) : joinsL (splitL l) = some l := by
  unfold joinsL
  rw [join_split]
  simp [h]
/-- A path without its last /, and what is behind it. -/
def cutLast (l : List UInt8) : List UInt8 := ((l.reverse.dropWhile (· != 47)).drop 1).reverse
/-- A path up to its last /, and that. -/
def upSl (l : List UInt8) : List UInt8 := (l.reverse.dropWhile (· != 47)).reverse
def noSl (c : UInt8) : Bool := c != 47
def firstL (l : List UInt8) : Nat := 1 + ((l.drop 1).takeWhile noSl).length
theorem dropWhile_stop (f : UInt8 → Bool) : ∀ (y : List UInt8) (c : UInt8) (r : List UInt8), (∀ d ∈ y, f d = true) → f c = false → (y ++ c :: r).dropWhile f = c :: r
  | [], c, r, _, h => by simp [h]
  | d :: y, c, r, hy, h => by
    rw [List.cons_append, List.dropWhile_cons, if_pos (hy d (by simp))]
    exact dropWhile_stop f y c r (fun e he => hy e (by simp [he])) h
theorem dropWhile_none (f : UInt8 → Bool) : ∀ (y : List UInt8), (∀ d ∈ y, f d = true) → y.dropWhile f = []
  | [], _ => rfl
  | d :: y, hy => by
    rw [List.dropWhile_cons, if_pos (hy d (by simp))]
    exact dropWhile_none f y (fun e he => hy e (by simp [he]))
theorem cutLast_at (x y : List UInt8) (hy : ∀ d ∈ y, d ≠ 47) : cutLast (x ++ 47 :: y) = x := by
  unfold cutLast
  have e : (x ++ 47 :: y).reverse = y.reverse ++ 47 :: x.reverse := by simp
  rw [e, dropWhile_stop _ _ _ _ (fun d hd => by simpa using hy d (by simpa using hd)) (by simp)]
  simp
theorem cutLast_none (x : List UInt8) (hx : ∀ d ∈ x, d ≠ 47) : cutLast x = [] := by
  unfold cutLast
  rw [dropWhile_none _ _ (fun d hd => by simpa using hx d (by simpa using hd))]
  rfl
theorem upSl_at (x y : List UInt8) (hy : ∀ d ∈ y, d ≠ 47) : upSl (x ++ 47 :: y) = x ++ [47] := by
  unfold upSl
  have e : (x ++ 47 :: y).reverse = y.reverse ++ 47 :: x.reverse := by simp
  rw [e, dropWhile_stop _ _ _ _ (fun d hd => by simpa using hy d (by simpa using hd)) (by simp)]
  simp
theorem upSl_none (x : List UInt8) (hx : ∀ d ∈ x, d ≠ 47) : upSl x = [] := by
  unfold upSl
  rw [dropWhile_none _ _ (fun d hd => by simpa using hx d (by simpa using hd))]
  rfl
theorem cutLast_le (x : List UInt8) : (cutLast x).length ≤ x.length := by
  unfold cutLast
  have : (x.reverse.dropWhile (· != 47)).length ≤ x.reverse.length := (List.dropWhile_sublist _).length_le
  simp at this ⊢
  omega
/-- One step of a path's dots: what is left, and what has come. -/
def dotStep (i o : List UInt8) : List UInt8 × List UInt8 :=
  if [46, 46, 47].isPrefixOf i = true then (i.drop 3, o)
  else if [46, 47].isPrefixOf i = true then (i.drop 2, o)
  else if [47, 46, 47].isPrefixOf i = true then (i.drop 2, o)
  else if [47, 46, 46, 47].isPrefixOf i = true then (i.drop 3, cutLast o)
  else if i = [47, 46] then ([47], o)
  else if i = [47, 46, 46] then ([47], cutLast o)
  else if i = [46] ∨ i = [46, 46] then ([], o)
  else (i.drop (firstL i), o ++ i.take (firstL i))
def dotsF : Nat → List UInt8 → List UInt8 → List UInt8
  | 0, _, o => o
  | f + 1, i, o => if i = [] then o else dotsF f (dotStep i o).1 (dotStep i o).2
def dotsL (l : List UInt8) : List UInt8 := dotsF l.length l []
theorem firstL_pos (l : List UInt8) : 1 ≤ firstL l := by unfold firstL; omega
theorem firstL_le (l : List UInt8) (h : l ≠ []) : firstL l ≤ l.length := by
  unfold firstL
  have h1 : ((l.drop 1).takeWhile noSl).length ≤ (l.drop 1).length := (List.takeWhile_sublist _).length_le
  have h2 : 0 < l.length := List.length_pos_iff.2 h
  rw [List.length_drop] at h1
  omega
theorem pre_len {p l : List UInt8} (h : p.isPrefixOf l = true) : p.length ≤ l.length := by
  have : p <+: l := by simpa using h
  exact this.length_le
/-- A step takes something, and what has come grows by no more than what goes. -/
theorem dotStep_less (i o : List UInt8) (h : i ≠ []) : (dotStep i o).1.length < i.length ∧ (dotStep i o).1.length + (dotStep i o).2.length ≤ i.length + o.length := by
  have hp := List.length_pos_iff.2 h
  have hc := cutLast_le o
  unfold dotStep
  split
  · rename_i hx; have := pre_len hx; simp at this ⊢; omega
  split
  · rename_i hx; have := pre_len hx; simp at this ⊢; omega
  split
  · rename_i hx; have := pre_len hx; simp at this ⊢; omega
  split
  · rename_i hx; have := pre_len hx; simp at this ⊢; omega
  split
  · rename_i hx; subst hx; simp
  split
  · rename_i hx; subst hx; simp; omega
  split
  · simp; omega
  · have h1 := firstL_pos i
    have h2 := firstL_le i h
    simp only [List.length_drop, List.length_append, List.length_take]
    omega
theorem dotsF_more : ∀ (f g : Nat) (i o : List UInt8), i.length ≤ f → i.length ≤ g → dotsF f i o = dotsF g i o
  | 0, 0, _, _, _, _ => rfl
  | 0, g + 1, i, o, h, _ => by
    have : i = [] := List.eq_nil_of_length_eq_zero (by omega)
    subst this; simp [dotsF]
  | f + 1, 0, i, o, _, h => by
    have : i = [] := List.eq_nil_of_length_eq_zero (by omega)
    subst this; simp [dotsF]
  | f + 1, g + 1, i, o, h1, h2 => by
    unfold dotsF
    by_cases hi : i = []
    · simp [hi]
    · rw [if_neg hi, if_neg hi]
      have := (dotStep_less i o hi).1
      exact dotsF_more f g _ _ (by omega) (by omega)
/-- What is left of a path and what has come, to its end. -/
def dotsR (i o : List UInt8) : List UInt8 := dotsF i.length i o
theorem dotsR_nil (o : List UInt8) : dotsR [] o = o := rfl
theorem dotsR_step (i o : List UInt8) (h : i ≠ []) : dotsR i o = dotsR (dotStep i o).1 (dotStep i o).2 := by
  have hl := (dotStep_less i o h).1
  have hp := List.length_pos_iff.2 h
  unfold dotsR
  obtain ⟨n, hn⟩ : ∃ n, i.length = n + 1 := ⟨i.length - 1, by omega⟩
  rw [hn]
  conv => lhs; unfold dotsF
  rw [if_neg h]
  exact dotsF_more _ _ _ _ (by omega) (by omega)
/-- A part of a path that is no dots. -/
def PartOk (x : List UInt8) : Prop := (∀ d ∈ x, d ≠ 47) ∧ x ≠ [46] ∧ x ≠ [46, 46]
/-- Parts, each with a / ahead. -/
inductive Tail : List UInt8 → Prop
  | nil : Tail []
  | cons (x r : List UInt8) : PartOk x → Tail r → Tail (47 :: x ++ r)
def CleanP (l : List UInt8) : Prop := ∃ x r, l = x ++ r ∧ PartOk x ∧ Tail r
theorem part_nil : PartOk [] := ⟨by simp, by simp, by simp⟩
theorem Tail.snoc {r : List UInt8} (h : Tail r) (x : List UInt8) (hx : PartOk x) : Tail (r ++ 47 :: x) := by
  induction h with
  | nil => simpa using Tail.cons x [] hx .nil
  | cons y r hy _ ih =>
    have : 47 :: y ++ r ++ 47 :: x = 47 :: y ++ (r ++ 47 :: x) := by simp
    rw [this]
    exact .cons y _ hy ih
theorem CleanP.snoc {l : List UInt8} (h : CleanP l) (x : List UInt8) (hx : PartOk x) : CleanP (l ++ 47 :: x) := by
  obtain ⟨y, r, rfl, hy, hr⟩ := h
  exact ⟨y, r ++ 47 :: x, by simp, hy, hr.snoc x hx⟩
/-- The last part with its /. -/
theorem Tail.last {r : List UInt8} (h : Tail r) : r = [] ∨ ∃ q x, r = q ++ 47 :: x ∧ Tail q ∧ PartOk x := by
  induction h with
  | nil => exact .inl rfl
  | cons y r hy hr ih =>
    right
    rcases ih with rfl | ⟨q, x, rfl, hq, hx⟩
    · exact ⟨[], y, by simp, .nil, hy⟩
    · exact ⟨47 :: y ++ q, x, by simp, .cons y q hy hq, hx⟩
theorem CleanP.cut {l : List UInt8} (h : CleanP l) : CleanP (cutLast l) := by
  obtain ⟨y, r, rfl, hy, hr⟩ := h
  rcases hr.last with rfl | ⟨q, x, rfl, hq, hx⟩
  · rw [List.append_nil, cutLast_none y hy.1]
    exact ⟨[], [], rfl, part_nil, .nil⟩
  · rw [← List.append_assoc, cutLast_at _ _ hx.1]
    exact ⟨y, q, rfl, hy, hq⟩
theorem CleanP.nil : CleanP [] := ⟨[], [], rfl, part_nil, .nil⟩
/-- What is left begins with /, or nothing has come yet. -/
def DotInv (i o : List UInt8) : Prop := CleanP o ∧ (o = [] ∨ i = [] ∨ ∃ r, i = 47 :: r)
theorem pre_eq {p l : List UInt8} (h : p.isPrefixOf l = true) : ∃ r, l = p ++ r := by
  have : p <+: l := by simpa using h
  obtain ⟨r, hr⟩ := this
  exact ⟨r, hr.symm⟩
theorem firstL_eq (c : UInt8) (x r : List UInt8) (hx : ∀ d ∈ x, d ≠ 47) (hr : r = [] ∨ ∃ q, r = 47 :: q) : firstL (c :: (x ++ r)) = 1 + x.length := by
  unfold firstL
  simp only [List.drop_succ_cons, List.drop_zero]
  congr 1
  have : (x ++ r).takeWhile noSl = x := by
    rw [List.takeWhile_append_of_pos (fun d hd => by simpa [noSl] using hx d hd)]
    rcases hr with rfl | ⟨q, rfl⟩
    · simp
    · simp [noSl]
  rw [this]
theorem split_first (l : List UInt8) : ∃ x r, l = x ++ r ∧ (∀ d ∈ x, d ≠ 47) ∧ (r = [] ∨ ∃ q, r = 47 :: q) := by
  refine ⟨l.takeWhile noSl, l.drop (l.takeWhile noSl).length, ?_, ?_, ?_⟩
  · have := tw_drop noSl l 0
    simpa using this
  · intro d hd
    have := List.all_eq_true.1 (List.all_takeWhile (p := noSl) (l := l)) d hd
    simpa [noSl] using this
  · rcases tw_stop noSl l with h | ⟨c, r, h, hc⟩
    · exact .inl h
    · have : c = 47 := by simpa [noSl] using hc
      subst this
      exact .inr ⟨r, h⟩
theorem dotStep_inv (i o : List UInt8) (hi : i ≠ []) (h : DotInv i o) : DotInv (dotStep i o).1 (dotStep i o).2 := by
  obtain ⟨hc, hh⟩ := h
  unfold dotStep
  split
  · rename_i hx
    obtain ⟨r, rfl⟩ := pre_eq hx
    rcases hh with rfl | hh | ⟨q, hq⟩
    · exact ⟨hc, .inl rfl⟩
    · simp at hh
    · simp at hq
  split
  · rename_i hx
    obtain ⟨r, rfl⟩ := pre_eq hx
    rcases hh with rfl | hh | ⟨q, hq⟩
    · exact ⟨hc, .inl rfl⟩
    · simp at hh
    · simp at hq
  split
  · rename_i hx
    obtain ⟨r, rfl⟩ := pre_eq hx
    exact ⟨hc, .inr (.inr ⟨r, by simp⟩)⟩
  split
  · rename_i hx
    obtain ⟨r, rfl⟩ := pre_eq hx
    exact ⟨hc.cut, .inr (.inr ⟨r, by simp⟩)⟩
  split
  · exact ⟨hc, .inr (.inr ⟨[], rfl⟩)⟩
  split
  · exact ⟨hc.cut, .inr (.inr ⟨[], rfl⟩)⟩
  split
  · exact ⟨hc, .inr (.inl rfl)⟩
  · rename_i n1 n2 n3 n4 n5 n6 n7
    match i, hi with
    | c :: l, _ =>
      obtain ⟨x, r, rfl, hx, hr⟩ := split_first l
      have hf := firstL_eq c x r hx hr
      have e1 : (c :: (x ++ r)).drop (firstL (c :: (x ++ r))) = r := by
        rw [hf, Nat.add_comm 1]; simp
      have e2 : (c :: (x ++ r)).take (firstL (c :: (x ++ r))) = c :: x := by
        rw [hf, Nat.add_comm 1]; simp
      simp only [e1, e2]
      refine ⟨?_, .inr (by rcases hr with rfl | ⟨q, rfl⟩; exact .inl rfl; exact .inr ⟨q, rfl⟩)⟩
      by_cases h47 : c = 47
      · subst h47
        refine hc.snoc x ⟨hx, ?_, ?_⟩
        · rintro rfl
          rcases hr with rfl | ⟨q, rfl⟩
          · exact n5 rfl
          · exact n3 (by simp [List.isPrefixOf])
        · rintro rfl
          rcases hr with rfl | ⟨q, rfl⟩
          · exact n6 rfl
          · exact n4 (by simp [List.isPrefixOf])
      · have ho : o = [] := by
          rcases hh with rfl | hh | ⟨q, hq⟩
          · rfl
          · simp at hh
          · simp at hq; exact absurd hq.1 h47
        subst ho
        refine ⟨c :: x, [], by simp, ⟨?_, ?_, ?_⟩, .nil⟩
        · intro d hd
          rcases List.mem_cons.1 hd with rfl | hd
          · exact h47
          · exact hx d hd
        · intro e
          simp at e
          obtain ⟨rfl, rfl⟩ := e
          rcases hr with rfl | ⟨q, rfl⟩
          · exact n7 (.inl rfl)
          · exact n2 (by simp [List.isPrefixOf])
        · intro e
          simp at e
          obtain ⟨rfl, rfl⟩ := e
          rcases hr with rfl | ⟨q, rfl⟩
          · exact n7 (.inr rfl)
          · exact n1 (by simp [List.isPrefixOf])
theorem dotsR_clean : ∀ (n : Nat) (i o : List UInt8), i.length ≤ n → DotInv i o → CleanP (dotsR i o)
  | 0, i, o, h, hd => by
    have : i = [] := List.eq_nil_of_length_eq_zero (by omega)
    subst this; rw [dotsR_nil]; exact hd.1
  | n + 1, i, o, h, hd => by
    by_cases hi : i = []
    · subst hi; rw [dotsR_nil]; exact hd.1
    · have hl := (dotStep_less i o hi).1
      rw [dotsR_step i o hi]
      exact dotsR_clean n _ _ (by omega) (dotStep_inv i o hi hd)
theorem dotsL_clean (l : List UInt8) : CleanP (dotsL l) := dotsR_clean l.length l [] (Nat.le_refl _) ⟨.nil, .inl rfl⟩
/-- A part that is no dots comes as it is. -/
theorem dotStep_part (x r o : List UInt8) (hx : PartOk x) (hr : r = [] ∨ ∃ q, r = 47 :: q) : dotStep (47 :: (x ++ r)) o = (r, o ++ 47 :: x) := by
  have hf := firstL_eq 47 x r hx.1 hr
  have e1 : (47 :: (x ++ r)).drop (firstL (47 :: (x ++ r))) = r := by rw [hf, Nat.add_comm 1]; simp
  have e2 : (47 :: (x ++ r)).take (firstL (47 :: (x ++ r))) = 47 :: x := by rw [hf, Nat.add_comm 1]; simp
  obtain ⟨h1, h2, h3⟩ := hx
  have key : ∀ y : List UInt8, (∀ d ∈ y, d ≠ 47) → ∀ q', x ++ r = y ++ 47 :: q' → x = y := by
    intro y hy q' e
    rcases List.append_eq_append_iff.1 e with ⟨a, ha1, ha2⟩ | ⟨a, ha1, ha2⟩
    · cases a with
      | nil => simpa using ha1.symm
      | cons d a =>
        exfalso
        rcases hr with rfl | ⟨q, rfl⟩
        · simp at ha2
        · simp at ha2
          exact hy d (by rw [ha1]; simp) ha2.1.symm
    · cases a with
      | nil => simpa using ha1
      | cons d a =>
        exfalso
        simp at ha2
        exact h1 d (by rw [ha1]; simp) ha2.1.symm
  have keyE : ∀ y : List UInt8, (∀ d ∈ y, d ≠ 47) → x ++ r = y → x = y := by
    intro y hy e
    rcases hr with rfl | ⟨q, rfl⟩
    · simpa using e
    · exact absurd rfl (hy 47 (by rw [← e]; simp))
  unfold dotStep
  rw [e1, e2]
  rw [if_neg (by simp [List.isPrefixOf]), if_neg (by simp [List.isPrefixOf])]
  rw [if_neg (fun h => by
    obtain ⟨q, hq⟩ := pre_eq h
    exact h2 (key [46] (by simp) q (by simpa using hq)))]
  rw [if_neg (fun h => by
    obtain ⟨q, hq⟩ := pre_eq h
    exact h3 (key [46, 46] (by simp) q (by simpa using hq)))]
  rw [if_neg (fun h => h2 (keyE [46] (by simp) (by simpa using h)))]
  rw [if_neg (fun h => h3 (keyE [46, 46] (by simp) (by simpa using h)))]
  rw [if_neg (by simp)]
theorem Tail.head {r : List UInt8} (h : Tail r) : r = [] ∨ ∃ q, r = 47 :: q := by
  cases h with
  | nil => exact .inl rfl
  | cons x r _ _ => exact .inr ⟨x ++ r, by simp⟩
theorem dotsR_tail {r : List UInt8} (h : Tail r) : ∀ o, dotsR r o = o ++ r := by
  induction h with
  | nil => intro o; rw [dotsR_nil, List.append_nil]
  | cons x r hx hr ih =>
    intro o
    rw [List.cons_append, dotsR_step _ _ (by simp), dotStep_part x r o hx hr.head, ih]
    simp
theorem dotsL_same {l : List UInt8} (h : CleanP l) : dotsL l = l := by
  obtain ⟨x, r, rfl, hx, hr⟩ := h
  cases x with
  | nil => exact (dotsR_tail hr []).trans (by simp)
  | cons c x =>
    obtain ⟨h1, h2, h3⟩ := hx
    have h47 : c ≠ 47 := h1 c (by simp)
    have hf := firstL_eq c x r (fun d hd => h1 d (by simp [hd])) hr.head
    have e1 : (c :: (x ++ r)).drop (firstL (c :: (x ++ r))) = r := by rw [hf, Nat.add_comm 1]; simp
    have e2 : (c :: (x ++ r)).take (firstL (c :: (x ++ r))) = c :: x := by rw [hf, Nat.add_comm 1]; simp
    have key : ∀ y q' : List UInt8, (∀ d ∈ y, d ≠ 47) → c :: (x ++ r) = y ++ 47 :: q' → c :: x = y := by
      intro y q' hy e
      rw [← List.cons_append] at e
      rcases List.append_eq_append_iff.1 e with ⟨a, ha1, ha2⟩ | ⟨a, ha1, ha2⟩
      · cases a with
        | nil => simpa using ha1.symm
        | cons d a =>
          exfalso
          rcases hr.head with rfl | ⟨q, rfl⟩
          · simp at ha2
          · simp at ha2
            exact hy d (by rw [ha1]; simp) ha2.1.symm
      · cases a with
        | nil => simpa using ha1
        | cons d a =>
          exfalso
          simp at ha2
          exact h1 d (by rw [ha1]; simp) ha2.1.symm
    have keyE : ∀ y : List UInt8, (∀ d ∈ y, d ≠ 47) → c :: (x ++ r) = y → c :: x = y := by
      intro y hy e
      rcases hr.head with rfl | ⟨q, rfl⟩
      · simpa using e
      · exact absurd rfl (hy 47 (by rw [← e]; simp))
    have hstep : dotStep (c :: (x ++ r)) [] = (r, c :: x) := by
      unfold dotStep
      rw [e1, e2]
      rw [if_neg (fun h => by
        obtain ⟨q, hq⟩ := pre_eq h
        exact h3 (key [46, 46] q (by simp) (by simpa using hq)))]
      rw [if_neg (fun h => by
        obtain ⟨q, hq⟩ := pre_eq h
        exact h2 (key [46] q (by simp) (by simpa using hq)))]
      rw [if_neg (fun h => by
        obtain ⟨q, hq⟩ := pre_eq h
        simp at hq; exact h47 hq.1)]
      rw [if_neg (fun h => by
        obtain ⟨q, hq⟩ := pre_eq h
        simp at hq; exact h47 hq.1)]
      rw [if_neg (fun h => by simp at h; exact h47 h.1)]
      rw [if_neg (fun h => by simp at h; exact h47 h.1)]
      rw [if_neg (fun h => by
        rcases h with h | h
        · exact h2 (keyE [46] (by simp) h)
        · exact h3 (keyE [46, 46] (by simp) h))]
      simp
    show dotsR (c :: x ++ r) [] = _
    rw [List.cons_append, dotsR_step _ _ (by simp), hstep, dotsR_tail hr]
    simp
theorem dotsL_twice (l : List UInt8) : dotsL (dotsL l) = dotsL l := dotsL_same (dotsL_clean l)
/-- The path of a link that has neither scheme nor authority, seen from the base. -/
def mergedL (b : UrlT) (p : List UInt8) : List UInt8 :=
  if p = [] then b.path else if p.head? = some 47 then p else if b.ha = true ∧ b.path = [] then 47 :: p else upSl b.path ++ p
def resL (b u : UrlT) : UrlT :=
  if u.hs = true then { u with path := dotsL u.path }
  else if u.ha = true then { u with scheme := b.scheme, hs := true, path := dotsL u.path }
  else { scheme := b.scheme, hs := true, authority := b.authority, ha := b.ha, path := dotsL (mergedL b u.path),
         query := if u.path = [] ∧ u.hq = false then b.query else u.query, hq := if u.path = [] ∧ u.hq = false then b.hq else u.hq, fragment := u.fragment, hf := u.hf }
theorem resL_hs (b u : UrlT) : (resL b u).hs = true := by
  unfold resL
  split
  · assumption
  split <;> rfl
theorem resL_path (b u : UrlT) : dotsL (resL b u).path = (resL b u).path := by
  unfold resL
  split
  · exact dotsL_twice _
  split <;> exact dotsL_twice _
/-- What Resolve answers: the text, or the errno. -/
def resAns (base s : List UInt8) : Option (List UInt8) := if (splitL base).hs = true then joinsL (resL (splitL base) (splitL s)) else none
theorem res_again {base s r : List UInt8} (h : resAns base s = some r) : (splitL r).hs = true ∧ resAns base r = some r ∧ r.length ≤ 3000 := by
  unfold resAns at h
  split at h
  · rename_i hb
    unfold joinsL at h
    split at h
    · rename_i hj
      simp only [Option.some.injEq] at h
      rw [h] at hj
      have hhs := resL_hs (splitL base) (splitL s)
      rw [← hj.2] at hhs
      refine ⟨hhs, ?_, hj.1⟩
      have e : resL (splitL base) (splitL r) = splitL r := by
        conv => lhs; unfold resL
        rw [if_pos hhs]
        have hp := resL_path (splitL base) (splitL s)
        rw [← hj.2] at hp
        rw [hp]
      unfold resAns
      rw [if_pos hb, e, joins_split r hj.1]
    · simp at h
  · simp at h
/-- What is left of a link without white bytes and those below 32. -/
def bareL (l : List UInt8) : List UInt8 := l.filter fun c => decide (32 < c.toNat)
def okS (l : List UInt8) : Bool := l == [104, 116, 116, 112] || l == [104, 116, 116, 112, 115] || l == [109, 97, 105, 108, 116, 111]
def safeL (l : List UInt8) : Bool := okS (lowerL (splitL (bareL l)).scheme)
theorem all_bytes {p : UInt8 → Prop} [DecidablePred p] (h : ∀ n : Fin 256, p ⟨⟨n⟩⟩) (c : UInt8) : p c := by
  have := h c.toBitVec.toFin
  exact this
end Go.Proofs.YtlcljanibjdejaaGreat
namespace Go.Proofs.YtlcljanibjdejaaGreat
def allowedN (n : List UInt8) : Bool := (n == [97]) || ((n == [98]) || ((n == [105]) || ((n == [101, 109]) || ((n == [115, 116, 114, 111, 110, 103]) || ((n == [112]) || ((n == [98, 114]) || ((n == [104, 114]) || ((n == [117, 108]) || ((n == [111, 108]) || ((n == [108, 105]) || ((n == [98, 108, 111, 99, 107, 113, 117, 111, 116, 101]) || ((n == [99, 111, 100, 101]) || (n == [105, 109, 103])))))))))))))
def allowedA (el nm : List UInt8) : Bool := if (el == [97]) = true then (nm == [104, 114, 101, 102]) || (nm == [116, 105, 116, 108, 101]) else if (el == [105, 109, 103]) = true then (nm == [115, 114, 99]) || (nm == [97, 108, 116]) else false
def linkN (nm : List UInt8) : Bool := (nm == [104, 114, 101, 102]) || (nm == [115, 114, 99])
/-- What a link is in the light of a base. -/
def lightL (base s : List UInt8) : List UInt8 := if 3000 < s.length then s else (resAns base s).getD s
/-- Why an attribute can't stand: 0 if it can. -/
def attrE (el : List UInt8) (a : Pair) : Int := if allowedA el a.1 = false then 7 else if linkN a.1 = false then 0 else if 3000 < a.2.length then 2 else if safeL a.2 = false then 4 else 0
def attrsE (el : List UInt8) : List Pair → Int
  | [] => 0
  | a :: r => if attrE el a = 0 then attrsE el r else attrE el a
def hasSrc (l : List Pair) : Bool := l.any (fun a => a.1 == [115, 114, 99])
/-- Why a node can't stand: 0 if it can. -/
def standE (n : List UInt8) (l : List Pair) : Int := if n.isEmpty = true then 0 else if allowedN n = false then 7 else if attrsE n l = 0 then (if ((n == [105, 109, 103]) && !hasSrc l) = true then 5 else 0) else attrsE n l
/-- An attribute in the light of a base. -/
def toldA (base : List UInt8) (a : Pair) : Pair := if linkN a.1 = true then (a.1, lightL base a.2) else a
def keptA (base el : List UInt8) (l : List Pair) : List Pair := (l.map (toldA base)).filter (fun a => attrE el a == 0)
end Go.Proofs.YtlcljanibjdejaaGreat
namespace Go.Proofs.YtlcljanibjdejaaGreat
open Go.RowKit
theorem keeps_on {S T : List Nat} {a b c : World} (h : Keeps T a b) (k : Keeps S b c) (hS : ∀ g, g ∈ S → g < a.heap.size → g ∈ T) : Keeps T a c :=
  ⟨k.os.trans h.os, k.tape.trans h.tape, k.output.trans h.output, Nat.le_trans h.size k.size, fun i hi hT => (k.block i (Nat.lt_of_lt_of_le hi h.size) (fun hm => hT (hS i hm hi))).trans (h.block i hi hT)⟩
/-- What is given up with: an error. -/
def stopped (e : Int) : List PanicEntry := [{ v := .iface 168 (.agg #[.int .i64 e]), recovered := false }]
set_option maxHeartbeats 400000 in
theorem with_any (e : Int) (w : World) : Calls Tryz.prog 141 #[.int .i64 e] w fun r w' => r = .panicked (stopped e) ∧ w' = w := by
  go_enter Tryz.func141, Tryz.ntmps141
  go_wp2
  exact ⟨rfl, rfl, rfl⟩
theorem laid140 (x n : Value) : (#[x] ++ ((Array.replicate 16 undef).setIfInBounds 3 n).setIfInBounds 0 n) = #[x, n, undef, undef, n, undef, undef, undef, undef, undef, undef, undef, undef, undef, undef, undef, undef] := by kernel_rfl
set_option maxHeartbeats 400000 in
theorem caught_idle (p : Addr) (w : World) :
    CallsD Tryz.prog 140 #[.pointer (some p)] .returning w fun e u' w' => e = .returned (.tuple #[]) ∧ u' = .returning ∧ w' = w := by
  refine callsD_of_wpS Tryz.func140 rfl fun c₀ cs hu => ?_
  apply wpS_seq
  apply wpS_region
  simp [wpOpsS, go_sem, recoverD, hu, Tryz.ntmps140, Exit.thenS]
  rw [laid140]
  refine wpS_of_wp ?_
  go_wp2
  cases c₀
  simp_all [bodyPostS, results, Tryz.results140]
theorem assert168 (e : Int) (w : World) : (Instr.typeAssert (.iface 168 (.agg #[.int .i64 e])) 20 168 true).run Tryz.prog w = .ok (.tuple #[.agg #[.int .i64 e], .bool true]) w := by kernel_rfl
set_option maxRecDepth 100000 in
set_option maxHeartbeats 400000 in
theorem caught_panicking (x e : Int) (pe : Nat) (w : World) (hf : w.heap[pe]? = some (.cells #[.int .i64 x] 22 (0, 0))) :
    CallsD Tryz.prog 140 #[.pointer (some ⟨pe, 0, none⟩)] (.panicking (stopped e)) w fun r u' w' =>
      r = .returned (.tuple #[]) ∧ u' = .panicking [{ v := .iface 168 (.agg #[.int .i64 e]), recovered := true }] ∧ w'.cell? ⟨pe, 0, none⟩ = some (.int .i64 e) ∧ Keeps [pe] w w' := by
  refine callsD_of_wpS Tryz.func140 rfl fun c₀ cs hu => ?_
  unfold stopped at hu
  have hlt : pe < w.heap.size := lt_of_block hf
  have blk : ∀ o, (w.alloc o).heap[pe]? = some (.cells #[.int .i64 x] 22 (0, 0)) := fun o => (Below.heap_alloc w o _ hlt).trans hf
  have ce : ∀ o, (w.alloc o).cell? ⟨pe, 0, none⟩ = some (.int .i64 x) := fun o => cell_of_one (blk o)
  have fe : ∀ o, (w.alloc o).frozen? ⟨pe, 0, none⟩ = false := fun o => by simp [World.frozen?, blk o]
  have hta := assert168 e
  apply wpS_seq
  apply wpS_region
  simp [wpOpsS, go_sem, recoverD, hu, Tryz.ntmps140, Exit.thenS]
  rw [laid140]
  clear hu
  refine wpS_of_wp ?_
  go_wp2
  refine ⟨rfl, _, rfl, .tuple #[], by simp [results, Tryz.results140], rfl, rfl, ?_, ((Keeps.refl [pe] w).setCell (p := ⟨pe, 0, none⟩) (.inl (by simp)) _).alloc _⟩
  refine (World.cell?_of_block (Below.heap_alloc _ _ _ (by simpa [World.setCell] using hlt))).trans ?_
  simp [World.cell?, World.setCell, Array.getElem?_modify, hf]
set_option maxRecDepth 100000 in
set_option maxHeartbeats 1000000 in
/-- Caught, whatever is done: K does it, or gives up with an error; S lists what K may turn. -/
theorem caught_any (K : Nat) (caps : Array Value) (Yes : World → Prop) (No : Int → World → Prop) (S : List Nat) (w : World) (hK : Enters K) (hS : ∀ i, i ∈ S → i < w.heap.size)
    (hY : ∀ w2 w3, w2.heap[w.heap.size]? = some (.cells #[.int .i64 0] 22 (0, 0)) → Yes w2 → Keeps [w.heap.size] w2 w3 → Yes w3) (hN : ∀ x w2 w3, w2.heap[w.heap.size]? = some (.cells #[.int .i64 0] 22 (0, 0)) → No x w2 → Keeps [w.heap.size] w2 w3 → No x w3)
    (hdo : ∀ w1, Keeps [] w w1 → w.heap.size < w1.heap.size → Calls Tryz.prog K caps w1 fun e w2 => (e = .returned (.tuple #[]) ∧ Yes w2 ∨ ∃ x, e = .panicked (stopped x) ∧ No x w2) ∧ Keeps S w1 w2) :
    Calls Tryz.prog 64 #[.func (.func K) #[] caps] w fun e w' =>
      (e = .returned (.int .i64 0) ∧ Yes w' ∨ ∃ x, e = .returned (.int .i64 x) ∧ No x w') ∧ Keeps S w w' := by
  have hmf : ∀ (fn : Fn) (first cap : Array Value) (w : World), (Instr.makeFunc fn first cap).run Tryz.prog w = .ok (.func fn first cap) w := fun _ _ _ _ => rfl
  have hK' := hK
  unfold Enters at hK'
  have hka : Keeps [] w (w.alloc (.cells #[.int .i64 0] 22)) := (Keeps.refl [] w).alloc _
  have hkS : ∀ w2, Keeps S (w.alloc (.cells #[.int .i64 0] 22)) w2 → Keeps S w w2 := fun w2 h => ((Keeps.refl S w).alloc _).trans h
  have hnew : (w.alloc (.cells #[.int .i64 0] 22)).heap[w.heap.size]? = some (.cells #[.int .i64 0] 22 (0, 0)) := heap_alloc_new w _
  have hns : w.heap.size ∉ S := fun h => by have := hS _ h; omega
  go_enter_defers Tryz.func64, Tryz.ntmps64
  go_wp2_with fail
  refine (hdo _ hka (by simp)).mono ?_
  rintro e w2 ⟨⟨rfl, hy⟩ | ⟨x, rfl, hno⟩, hk⟩
  · have hb2 : w2.heap[w.heap.size]? = some (.cells #[.int .i64 0] 22 (0, 0)) := (hk.block _ (by simp) hns).trans hnew
    have c2 : w2.cell? ⟨w.heap.size, 0, none⟩ = some (.int .i64 0) := cell_of_one hb2
    have f2 : w2.frozen? ⟨w.heap.size, 0, none⟩ = false := by simp [World.frozen?, hb2]
    go_wp2_with fail
    refine leaves_cons (f := 140) (args := #[.pointer (some ⟨w.heap.size, 0, none⟩)]) (by simp) (by simp [go_sem]) ?_
    refine (caught_idle _ _).mono ?_
    rintro e u' w3 ⟨rfl, rfl, rfl⟩
    have hks : Keeps [w.heap.size] w2 (w2.setCell ⟨w.heap.size, 0, none⟩ (.int .i64 0)) := (Keeps.refl _ w2).setCell (.inl (by simp)) _
    refine ⟨.int .i64 0, ?_, .inl ⟨rfl, hY _ _ hb2 hy hks⟩, ?_⟩
    · simp [results, Tryz.results64, asAddr, loadVar, go_sem, World.cell?, World.setCell, Array.getElem?_modify, hb2]
    · exact keeps_on (hkS _ hk) hks (fun i hi hlt => by simp at hi; omega)
  · have hb2 : w2.heap[w.heap.size]? = some (.cells #[.int .i64 0] 22 (0, 0)) := (hk.block _ (by simp) hns).trans hnew
    go_wp2_with fail
    refine leaves_cons (f := 140) (args := #[.pointer (some ⟨w.heap.size, 0, none⟩)]) (by simp) (by simp [go_sem]) ?_
    refine (caught_panicking 0 x w.heap.size w2 hb2).mono ?_
    rintro e u' w3 ⟨rfl, rfl, c3, hk3⟩
    refine ⟨.int .i64 x, ?_, .inr ⟨x, rfl, hN _ _ _ hb2 hno hk3⟩, ?_⟩
    · simp [results, Tryz.results64, asAddr, loadVar, go_sem, c3]
    · exact keeps_on (hkS _ hk) hk3 (fun i hi hlt => by simp at hi; omega)
end Go.Proofs.YtlcljanibjdejaaGreat
namespace Go.Proofs.YtlcljanibjdejaaGreat
open Go.RowKit Go.Maps
set_option maxRecDepth 4000 in
set_option maxHeartbeats 4000000 in
theorem isAllowed_any (n : List UInt8) (w : World) : Calls Tryz.prog 172 #[.string ⟨n.toArray⟩] w fun e w' => e = .returned (.bool (allowedN n)) ∧ w' = w := by
  by_cases h : allowedN n = true
  · rw [h]
    simp only [allowedN, Bool.or_eq_true, beq_iff_eq] at h
    rcases h with rfl | rfl | rfl | rfl | rfl | rfl | rfl | rfl | rfl | rfl | rfl | rfl | rfl | rfl
    all_goals
      go_enter Tryz.func172, Tryz.ntmps172
      go_wp2_with fail
      go_ret
      exact ⟨rfl, rfl⟩
  · have h2 : allowedN n = false := by simpa using h
    rw [h2]
    simp only [allowedN, Bool.or_eq_false_iff] at h2
    obtain ⟨h1, h2, h3, h4, h5, h6, h7, h8, h9, h10, h11, h12, h13, h14⟩ := h2
    have p1 := (nameEq n _).trans h1
    have p2 := (nameEq n _).trans h2
    have p3 := (nameEq n _).trans h3
    have p4 := (nameEq n _).trans h4
    have p5 := (nameEq n _).trans h5
    have p6 := (nameEq n _).trans h6
    have p7 := (nameEq n _).trans h7
    have p8 := (nameEq n _).trans h8
    have p9 := (nameEq n _).trans h9
    have p10 := (nameEq n _).trans h10
    have p11 := (nameEq n _).trans h11
    have p12 := (nameEq n _).trans h12
    have p13 := (nameEq n _).trans h13
    have p14 := (nameEq n _).trans h14
    clear h
    go_enter Tryz.func172, Tryz.ntmps172
    go_wp2_with fail
    go_ret
    exact ⟨rfl, rfl⟩
set_option maxHeartbeats 1000000 in
theorem isLink_any (n : List UInt8) (w : World) : Calls Tryz.prog 243 #[.string ⟨n.toArray⟩] w fun e w' => e = .returned (.bool (linkN n)) ∧ w' = w := by
  unfold linkN
  cases h1 : (n == [104, 114, 101, 102]) <;> cases h2 : (n == [115, 114, 99])
  all_goals
    have p1 := (nameEq n _).trans h1
    have p2 := (nameEq n _).trans h2
    go_enter Tryz.func243, Tryz.ntmps243
    go_wp2_with fail
    go_ret
    exact ⟨rfl, rfl⟩
set_option maxHeartbeats 1000000 in
theorem isAllowedAttr_any (el n : List UInt8) (w : World) : Calls Tryz.prog 242 #[.string ⟨el.toArray⟩, .string ⟨n.toArray⟩] w fun e w' => e = .returned (.bool (allowedA el n)) ∧ w' = w := by
  unfold allowedA
  cases e1 : (el == [97])
  · have q1 := (nameEq el _).trans e1
    cases e2 : (el == [105, 109, 103])
    · have q2 := (nameEq el _).trans e2
      go_enter Tryz.func242, Tryz.ntmps242
      go_wp2_with fail
      go_ret
      exact ⟨rfl, rfl⟩
    · have q2 := (nameEq el _).trans e2
      cases h1 : (n == [115, 114, 99]) <;> cases h2 : (n == [97, 108, 116])
      all_goals
        have p1 := (nameEq n _).trans h1
        have p2 := (nameEq n _).trans h2
        go_enter Tryz.func242, Tryz.ntmps242
        go_wp2_with fail
        go_ret
        exact ⟨rfl, rfl⟩
  · have q1 := (nameEq el _).trans e1
    cases h1 : (n == [104, 114, 101, 102]) <;> cases h2 : (n == [116, 105, 116, 108, 101])
    all_goals
      have p1 := (nameEq n _).trans h1
      have p2 := (nameEq n _).trans h2
      go_enter Tryz.func242, Tryz.ntmps242
      go_wp2_with fail
      go_ret
      exact ⟨rfl, rfl⟩
set_option maxHeartbeats 1000000 in
theorem mustBool_ok (b : Bool) (w : World) : Calls Tryz.prog 244 #[.bool b, .int .i64 0] w fun e w' => e = .returned (.bool b) ∧ w' = w := by
  go_enter Tryz.func244, Tryz.ntmps244
  go_wp2_with fail
  go_ret
  exact ⟨rfl, rfl⟩
set_option maxHeartbeats 1000000 in
theorem mustBool_no (b : Bool) (x : Int) (hx : x ≠ 0) (w : World) : Calls Tryz.prog 244 #[.bool b, .int .i64 x] w fun e w' => e = .panicked (stopped x) ∧ w' = w := by
  have hd : (x != 0) = true := by simpa using hx
  clear hx
  go_enter Tryz.func244, Tryz.ntmps244
  go_wp2_with fail
  refine (with_any x _).mono ?_
  rintro e w1 ⟨rfl, rfl⟩
  exact ⟨rfl, rfl, rfl⟩
end Go.Proofs.YtlcljanibjdejaaGreat
namespace Go.Proofs.YtlcljanibjdejaaGreat
open Go.RowKit Go.Maps
set_option maxHeartbeats 1000000 in
theorem isSrc_any (n v : List UInt8) (w : World) : Calls Tryz.prog 175 #[.agg #[.string ⟨n.toArray⟩, .string ⟨v.toArray⟩]] w fun e w' => e = .returned (.bool (n == [115, 114, 99])) ∧ Keeps [] w w' := by
  have hk : Keeps [] w (w.alloc (.cells #[.string ⟨n.toArray⟩, .string ⟨v.toArray⟩] 52)) := (Keeps.refl [] w).alloc _
  cases h1 : (n == [115, 114, 99])
  all_goals
    have p1 := (nameEq n _).trans h1
    go_enter Tryz.func175, Tryz.ntmps175
    go_wp2_with fail
    go_ret
    exact ⟨rfl, hk⟩
def idxFrom : List Pair → Nat → Int
  | [], _ => -1
  | p :: r, k => if (p.1 == [115, 114, 99]) = true then (k : Int) else idxFrom r (k + 1)
theorem idx_src : ∀ (l : List Pair) (k : Nat), decide (0 ≤ idxFrom l k) = hasSrc l
  | [], k => by simp [idxFrom, hasSrc]
  | p :: r, k => by
    rw [idxFrom]
    have := idx_src r (k + 1)
    unfold hasSrc at this ⊢
    rw [List.any_cons]
    cases h : (p.1 == [115, 114, 99])
    · simpa using this
    · simp
theorem enters175 : Enters 175 := enters_of Tryz.func175 (by kernel_rfl) (by kernel_rfl)
set_option maxRecDepth 4000 in
set_option maxHeartbeats 4000000 in
theorem indexSrc_any (w : World) (v : Value) (l : List Pair) (hv : Lies w v l.length 2 (pairCells l)) :
    Calls Tryz.prog 245 #[v, .func (.func 175) #[] #[]] w fun e w' => e = .returned (.int .i64 (idxFrom l 0)) ∧ Keeps [] w w' := by
  have hE := enters175
  unfold Enters at hE
  obtain ⟨o, c, rfl, h1, h2⟩ := hv.form
  obtain ⟨R, hR⟩ : ∃ R, idxFrom l 0 = R := ⟨_, rfl⟩
  rw [hR]
  have HR := hide hR
  clear hR
  unfold maxLen at h2
  go_enter Tryz.func245, Tryz.ntmps245
  go_wp2_with fail
  go_loopw [8] (fun i wr => ∃ k : Nat, k ≤ l.length ∧ i = .int .i64 k ∧ Keeps [] w wr ∧ Hid (idxFrom (l.drop k) k = R)) (fun i _ => l.length - (intOf i).toNat)
  case atStart => exact ⟨0, Nat.zero_le _, rfl, Keeps.refl _ _, HR⟩
  case round =>
    obtain ⟨k, hk, rfl, hkw, hC⟩ := hrel
    clear HR
    by_cases hlt : k < l.length
    · obtain ⟨g, x, rfl, hc⟩ := (hv.keeps hkw).addr (by omega)
      have a0 := hc _ _ (pair_at0 l k hlt)
      have a1 := hc _ _ (pair_at1 l k hlt)
      rw [← Nat.add_assoc] at a1
      have hC1 := hC.out
      rw [List.drop_eq_getElem_cons hlt, idxFrom] at hC1
      have HC1 := hide hC1
      clear hC hC1 hc
      generalize l[k] = p at *
      obtain ⟨n, v⟩ := p
      simp only at a0 a1
      have hs := hide (isSrc_any n v wr)
      cases hb : (n == [115, 114, 99])
      · rw [hb] at hs
        go_wp2_with fail
        refine hs.out.mono ?_
        rintro e w1 ⟨rfl, hk1⟩
        clear a0 a1
        go_wp2_with fail
        go_roundw
        case rel => exact ⟨k + 1, by omega, by go_num, hkw.trans hk1, by have h9 := HC1.out; simp only [hb] at h9; exact hide (by simpa using h9)⟩
        case measure => simp [intOf]; omega
      · rw [hb] at hs
        go_wp2_with fail
        refine hs.out.mono ?_
        rintro e w1 ⟨rfl, hk1⟩
        clear a0 a1
        go_wp2_with fail
        go_ret
        refine ⟨?_, hkw.trans hk1⟩
        have h9 := HC1.out
        simp only [hb, if_true] at h9
        rw [← h9]
        rfl
    · have hRR : R = -1 := by
        rw [← hC.out, List.drop_eq_nil_of_le (by omega)]
        rfl
      subst hRR
      go_wp2_with fail
      go_ret
      exact ⟨rfl, hkw⟩
set_option maxHeartbeats 1000000 in
theorem containsSrc_any (w : World) (v : Value) (l : List Pair) (hv : Lies w v l.length 2 (pairCells l)) :
    Calls Tryz.prog 174 #[v, .func (.func 175) #[] #[]] w fun e w' => e = .returned (.bool (hasSrc l)) ∧ Keeps [] w w' := by
  have hs := hide (indexSrc_any w v l hv)
  obtain ⟨o, c, rfl, h1, h2⟩ := hv.form
  rw [← idx_src l 0]
  generalize idxFrom l 0 = R at *
  clear hv
  cases hd : decide (0 ≤ R)
  all_goals
    go_enter Tryz.func174, Tryz.ntmps174
    go_wp2_with fail
    refine hs.out.mono ?_
    rintro e w1 ⟨rfl, hk1⟩
    go_wp2_with fail
    go_ret
    exact ⟨rfl, hk1⟩
end Go.Proofs.YtlcljanibjdejaaGreat
namespace Go.Proofs.YtlcljanibjdejaaGreat
open Go.RowKit
theorem enters284 : Enters 284 := enters_of Tryz.func284 (by kernel_rfl) (by kernel_rfl)
theorem enters286 : Enters 286 := enters_of Tryz.func286 (by kernel_rfl) (by kernel_rfl)
theorem enters215 : Enters 215 := enters_of Tryz.func215 (by kernel_rfl) (by kernel_rfl)
set_option maxHeartbeats 1000000 in
theorem schB_any (c : UInt8) (w : World) : Calls Tryz.prog 284 #[.int .u8 c.toNat] w fun e w' => e = .returned (.bool (schB c)) ∧ w' = w := by
  have hl := hide (fun w => letter_any c w)
  have hd := hide (fun w => dig_any c w)
  have e1 : (c == 43) = ((c.toNat : Int) == 43) := beq_at rfl
  have e2 : (c == 45) = ((c.toNat : Int) == 45) := beq_at rfl
  have e3 : (c == 46) = ((c.toNat : Int) == 46) := beq_at rfl
  unfold schB
  rw [e1, e2, e3]
  clear e1 e2 e3
  generalize letterB c = a at *
  generalize digB c = b at *
  generalize c.toNat = n at *
  cases a <;> cases b <;> cases h1 : ((n : Int) == 43) <;> cases h2 : ((n : Int) == 45) <;> cases h3 : ((n : Int) == 46)
  all_goals
    go_enter Tryz.func284, Tryz.ntmps284
    go_wp2_with (first | (go_at_call 224; refine (hl.out _).mono ?_; rintro e w' ⟨rfl, rfl⟩) | (go_at_call 285; refine (hd.out _).mono ?_; rintro e w' ⟨rfl, rfl⟩))
    go_ret
    exact ⟨rfl, rfl⟩
theorem schemeL_none_end {l : List UInt8} (h : l.length ≤ (l.takeWhile schB).length) : schemeL l = none := by
  unfold schemeL
  rw [if_neg]
  rintro ⟨_, _, h3⟩
  rw [List.drop_eq_nil_of_le h] at h3
  simp at h3
set_option maxRecDepth 4000 in
set_option maxHeartbeats 1000000 in
theorem scheme_any (b : Nat) (s : ByteArray) (w : World) (hs : s.size ≤ 3000) (hT : IsText w b s 0) :
    Calls Tryz.prog 216 #[.pointer (some ⟨b, 0, none⟩)] w fun e w' =>
      ((∃ n, schemeL s.data.toList = some n ∧ e = .returned (.string ⟨n.toArray⟩) ∧ IsText w' b s (n.length + 1)) ∨ (schemeL s.data.toList = none ∧ e = .panicked gave ∧ ∃ j, IsText w' b s j)) ∧ Keeps [b] w w' := by
  have hp := hide (pass_of 284 schB enters284 schB_any b s 0 w hs hT (Nat.zero_le _))
  rw [List.drop_zero, Nat.zero_add] at hp
  have hle := takeWhile_le schB s 0 (Nat.zero_le _)
  rw [List.drop_zero, Nat.zero_add] at hle
  obtain ⟨n, hn⟩ : ∃ n, s.data.toList.takeWhile schB = n := ⟨_, rfl⟩
  have hend : Hid (s.size ≤ n.length → schemeL s.data.toList = none) := fun h => schemeL_none_end (by rw [hn, len_size]; exact h)
  have hget : Hid (∀ h : n.length < s.size, schemeL s.data.toList = if n ≠ [] ∧ letterB (n.getD 0 0) = true ∧ byteAt s n.length = 58 then some n else none) := by
    intro h
    unfold schemeL
    rw [hn, List.head?_drop, List.getElem?_eq_getElem (by rw [len_size]; exact h), byteAt_eq s _ h]
    have : s.data.toList[n.length]'(by rw [len_size]; exact h) = s[n.length] := rfl
    rw [this]
    simp
  rw [hn] at hp hle
  clear hn
  by_cases hlt : n.length < s.size
  · have hg := hide (hget.out hlt)
    clear hend hget
    have hl0 := hide (fun w => letter_any (n.getD 0 0) w)
    have hbb : (byteAt s n.length = 58) ↔ (((byteAt s n.length).toNat : Int) != 58) = false := by
      rw [show ((58 : Int)) = (((58 : UInt8).toNat : Nat) : Int) from rfl, byte_bne]
      simp
    cases hc : (((byteAt s n.length).toNat : Int) != 58)
    · cases n with
      | nil =>
        have hnone : Hid (schemeL s.data.toList = none) := hg.out.trans (if_neg (by simp))
        clear hg hbb
        have h1 := hide (fun (w : World) hT => one_yes b s 0 w hs hT hlt)
        simp only [List.length_nil] at hc
        go_enter Tryz.func216, Tryz.ntmps216
        go_wp2_with fail
        refine hp.out.mono ?_
        rintro e w1 ⟨rfl, hT1, hk1⟩
        go_wp2_with fail
        refine (h1.out _ hT1).mono ?_
        rintro e w2 ⟨rfl, hT2, hk2⟩
        go_wp2_with fail
        refine (giveUp_any _).mono ?_
        rintro e w3 ⟨rfl, rfl⟩
        go_wp2_with fail
        exact ⟨rfl, .inr ⟨hnone.out, rfl, _, hT2⟩, hk1.trans hk2⟩
      | cons d m =>
        have e0 : (d :: m).getD 0 0 = d := rfl
        rw [e0] at hl0 hg
        have hsz : (⟨(d :: m).toArray⟩ : ByteArray).size = m.length + 1 := rfl
        have hix : (⟨(d :: m).toArray⟩ : ByteArray)[0]'(by rw [hsz]; omega) = d := rfl
        have hem : ((⟨(d :: m).toArray⟩ : ByteArray).toList.isEmpty) = false := by rw [ByteArray.toList_eq]; rfl
        have hlz : Hid (letterB d = false → schemeL s.data.toList = none) := fun h => hg.out.trans (if_neg (by simp [h]))
        have hly : Hid (letterB d = true → schemeL s.data.toList = some (d :: m)) := fun h => hg.out.trans (if_pos ⟨by simp, h, hbb.2 hc⟩)
        clear hg hbb
        have h1 := hide (fun (w : World) hT => one_yes b s (d :: m).length w hs hT hlt)
        generalize letterB d = a at *
        generalize hlen : (d :: m).length = len at *
        generalize hstr : (⟨(d :: m).toArray⟩ : ByteArray) = str at *
        have HLEN := hide hlen
        have HSTR := hide hstr
        clear hlen hstr
        cases a
        · go_enter Tryz.func216, Tryz.ntmps216
          go_wp2_with fail
          refine hp.out.mono ?_
          rintro e w1 ⟨rfl, hT1, hk1⟩
          go_wp2_with fail
          refine (h1.out _ hT1).mono ?_
          rintro e w2 ⟨rfl, hT2, hk2⟩
          go_wp2_with fail
          refine (hl0.out _).mono ?_
          rintro e w3 ⟨rfl, rfl⟩
          go_wp2_with fail
          refine (giveUp_any _).mono ?_
          rintro e w4 ⟨rfl, rfl⟩
          go_wp2_with fail
          exact ⟨rfl, .inr ⟨hlz.out trivial, rfl, _, hT2⟩, hk1.trans hk2⟩
        · go_enter Tryz.func216, Tryz.ntmps216
          go_wp2_with fail
          refine hp.out.mono ?_
          rintro e w1 ⟨rfl, hT1, hk1⟩
          go_wp2_with fail
          refine (h1.out _ hT1).mono ?_
          rintro e w2 ⟨rfl, hT2, hk2⟩
          go_wp2_with fail
          refine (hl0.out _).mono ?_
          rintro e w3 ⟨rfl, rfl⟩
          go_wp2_with fail
          go_ret
          exact ⟨.inl ⟨_, hly.out trivial, by rw [← HSTR.out]; simp, by rw [HLEN.out]; exact hT2⟩, hk1.trans hk2⟩
    · have hnone : Hid (schemeL s.data.toList = none) := hg.out.trans (if_neg (fun h => by rw [hbb.1 h.2.2] at hc; simp at hc))
      clear hg hbb
      have h1 := hide (fun (w : World) hT => one_yes b s n.length w hs hT hlt)
      generalize n.length = len at *
      go_enter Tryz.func216, Tryz.ntmps216
      go_wp2_with fail
      refine hp.out.mono ?_
      rintro e w1 ⟨rfl, hT1, hk1⟩
      go_wp2_with fail
      refine (h1.out _ hT1).mono ?_
      rintro e w2 ⟨rfl, hT2, hk2⟩
      go_wp2_with fail
      refine (giveUp_any _).mono ?_
      rintro e w3 ⟨rfl, rfl⟩
      go_wp2_with fail
      exact ⟨rfl, .inr ⟨hnone.out, rfl, _, hT2⟩, hk1.trans hk2⟩
  · have hnone := hide (hend.out (by omega))
    clear hend hget
    have h1 := hide (fun (w : World) hT => one_no b s n.length w hT (by omega))
    generalize n.length = len at *
    go_enter Tryz.func216, Tryz.ntmps216
    go_wp2_with fail
    refine hp.out.mono ?_
    rintro e w1 ⟨rfl, hT1, hk1⟩
    go_wp2_with fail
    refine (h1.out _ hT1).mono ?_
    rintro e w2 ⟨rfl, m, rfl⟩
    go_wp2_with fail
    exact ⟨rfl, .inr ⟨hnone.out, rfl, _, hT1⟩, hk1.drewN _⟩
/-- A cell that holds a text. -/
def IsStr (w : World) (p : Nat) (x : ByteArray) : Prop := w.heap[p]? = some (.cells #[.string x] 9 (0, 0))
theorem IsStr.lt {w : World} {p : Nat} {x : ByteArray} (h : IsStr w p x) : p < w.heap.size := lt_of_block h
theorem IsStr.keeps {S : List Nat} {w w' : World} {p : Nat} {x : ByteArray} (h : IsStr w p x) (hk : Keeps S w w') (hp : p ∉ S) : IsStr w' p x := by
  rw [IsStr, hk.block p h.lt hp]; exact h
theorem IsStr.cell {w : World} {p : Nat} {x : ByteArray} (h : IsStr w p x) : w.cell? ⟨p, 0, none⟩ = some (.string x) := cell_of_one h
theorem byte_back (c : UInt8) : ((c.toNat : Int).toNat.toUInt8) = c := by simp
set_option maxHeartbeats 400000 in
theorem inEnds_any (p : Nat) (ends : ByteArray) (c : UInt8) (w : World) (h : IsStr w p ends) :
    Calls Tryz.prog 286 #[.int .u8 c.toNat, .pointer (some ⟨p, 0, none⟩)] w fun e w' => e = .returned (.bool (decide (Lib.indexByte ends.data.toList c < 0))) ∧ w' = w := by
  have c0 := h.cell
  have hi := hide (fun w => Tryz.strings_IndexByte ends (c.toNat : Int) w)
  rw [byte_back] at hi
  generalize Lib.indexByte ends.data.toList c = r at *
  go_enter Tryz.func286, Tryz.ntmps286
  go_wp2_with (go_at_call 287; refine (hi.out _).mono ?_; rintro e w' ⟨rfl, rfl⟩)
  go_ret
  exact ⟨by simp, rfl⟩
set_option maxHeartbeats 400000 in
theorem passUpTo_any (b : Nat) (s : ByteArray) (k : Nat) (ends : ByteArray) (f : UInt8 → Bool) (hf : ∀ c, decide (Lib.indexByte ends.data.toList c < 0) = f c) (w : World) (hs : s.size ≤ 3000) (hT : IsText w b s k) (hk : k ≤ s.size) :
    Calls Tryz.prog 217 #[.pointer (some ⟨b, 0, none⟩), .string ends] w fun e w' =>
      e = .returned (.string ⟨((s.data.toList.drop k).takeWhile f).toArray⟩) ∧ IsText w' b s (k + ((s.data.toList.drop k).takeWhile f).length) ∧ Keeps [b] w w' := by
  have hka : Keeps [] w (w.alloc (.cells #[.string ends] 9)) := (Keeps.refl [] w).alloc _
  have hS : IsStr (w.alloc (.cells #[.string ends] 9)) w.heap.size ends := heap_alloc_new _ _
  have hmf : ∀ (fn : Fn) (first cap : Array Value) (w : World), (Instr.makeFunc fn first cap).run Tryz.prog w = .ok (.func fn first cap) w := fun _ _ _ _ => rfl
  have hp := hide (pass_any 286 #[.pointer (some ⟨w.heap.size, 0, none⟩)] f b s k (w.alloc (.cells #[.string ends] 9)) hs (hT.keeps hka (by simp)) hk enters286 fun c w1 hk1 =>
    (inEnds_any w.heap.size ends c w1 (hS.keeps hk1 (by have := hT.lt; simp; omega))).mono fun e w' ⟨he, hw⟩ => ⟨by rw [he, hf], 0, hw⟩)
  rw [pass_str] at hp
  clear hS hf
  go_enter Tryz.func217, Tryz.ntmps217
  go_wp2_with fail
  refine hp.out.mono ?_
  rintro e w1 ⟨rfl, hT1, hk1⟩
  go_wp2_with fail
  go_ret
  exact ⟨rfl, hT1, (hka.mono (T := [b]) (by simp)).trans hk1⟩
theorem ends1 : ∀ c : UInt8, decide (Lib.indexByte (⟨#[47, 63, 35]⟩ : ByteArray).data.toList c < 0) = authB c := all_bytes (by decide +kernel)
theorem ends2 : ∀ c : UInt8, decide (Lib.indexByte (⟨#[63, 35]⟩ : ByteArray).data.toList c < 0) = pathB c := all_bytes (by decide +kernel)
theorem ends3 : ∀ c : UInt8, decide (Lib.indexByte (⟨#[35]⟩ : ByteArray).data.toList c < 0) = queryB c := all_bytes (by decide +kernel)
/-- A link in memory. -/
def urlCells (u : UrlT) : Array Value := #[.string ⟨u.scheme.toArray⟩, .string ⟨u.authority.toArray⟩, .string ⟨u.path.toArray⟩, .string ⟨u.query.toArray⟩, .string ⟨u.fragment.toArray⟩, .bool u.hs, .bool u.ha, .bool u.hq, .bool u.hf]
def urlV (u : UrlT) : Value := .agg (urlCells u)
def IsUrl (w : World) (q : Nat) (u : UrlT) : Prop := w.heap[q]? = some (.cells #[.string ⟨u.scheme.toArray⟩, .string ⟨u.authority.toArray⟩, .string ⟨u.path.toArray⟩, .string ⟨u.query.toArray⟩, .string ⟨u.fragment.toArray⟩, .bool u.hs, .bool u.ha, .bool u.hq, .bool u.hf] 99 (0, 0))
theorem IsUrl.lt {w : World} {q : Nat} {u : UrlT} (h : IsUrl w q u) : q < w.heap.size := lt_of_block h
theorem IsUrl.keeps {S : List Nat} {w w' : World} {q : Nat} {u : UrlT} (h : IsUrl w q u) (hk : Keeps S w w') (hq : q ∉ S) : IsUrl w' q u := by
  rw [IsUrl, hk.block q h.lt hq]; exact h
theorem IsUrl.free {w : World} {q : Nat} {u : UrlT} (h : IsUrl w q u) (j : Nat) : w.frozen? ⟨q, j, none⟩ = false := by
  simp [World.frozen?, IsUrl] at h ⊢; simp [h]
theorem IsUrl.cell {w : World} {q : Nat} {u : UrlT} (h : IsUrl w q u) (j : Nat) : w.cell? ⟨q, j, none⟩ = (urlCells u)[j]? := by
  simp [World.cell?, IsUrl, urlCells] at h ⊢; simp [h]
theorem IsUrl.set0 {w : World} {q : Nat} {u : UrlT} (h : IsUrl w q u) (x : List UInt8) : IsUrl (w.setCell ⟨q, 0, none⟩ (.string ⟨x.toArray⟩)) q { u with scheme := x } := by
  simp [World.setCell, IsUrl, Array.getElem?_modify] at h ⊢; simp [h]
theorem IsUrl.set1 {w : World} {q : Nat} {u : UrlT} (h : IsUrl w q u) (x : List UInt8) : IsUrl (w.setCell ⟨q, 1, none⟩ (.string ⟨x.toArray⟩)) q { u with authority := x } := by
  simp [World.setCell, IsUrl, Array.getElem?_modify] at h ⊢; simp [h]
theorem IsUrl.set2 {w : World} {q : Nat} {u : UrlT} (h : IsUrl w q u) (x : List UInt8) : IsUrl (w.setCell ⟨q, 2, none⟩ (.string ⟨x.toArray⟩)) q { u with path := x } := by
  simp [World.setCell, IsUrl, Array.getElem?_modify] at h ⊢; simp [h]
theorem IsUrl.set3 {w : World} {q : Nat} {u : UrlT} (h : IsUrl w q u) (x : List UInt8) : IsUrl (w.setCell ⟨q, 3, none⟩ (.string ⟨x.toArray⟩)) q { u with query := x } := by
  simp [World.setCell, IsUrl, Array.getElem?_modify] at h ⊢; simp [h]
theorem IsUrl.set4 {w : World} {q : Nat} {u : UrlT} (h : IsUrl w q u) (x : List UInt8) : IsUrl (w.setCell ⟨q, 4, none⟩ (.string ⟨x.toArray⟩)) q { u with fragment := x } := by
  simp [World.setCell, IsUrl, Array.getElem?_modify] at h ⊢; simp [h]
theorem IsUrl.set5 {w : World} {q : Nat} {u : UrlT} (h : IsUrl w q u) (x : Bool) : IsUrl (w.setCell ⟨q, 5, none⟩ (.bool x)) q { u with hs := x } := by
  simp [World.setCell, IsUrl, Array.getElem?_modify] at h ⊢; simp [h]
theorem IsUrl.set6 {w : World} {q : Nat} {u : UrlT} (h : IsUrl w q u) (x : Bool) : IsUrl (w.setCell ⟨q, 6, none⟩ (.bool x)) q { u with ha := x } := by
  simp [World.setCell, IsUrl, Array.getElem?_modify] at h ⊢; simp [h]
theorem IsUrl.set7 {w : World} {q : Nat} {u : UrlT} (h : IsUrl w q u) (x : Bool) : IsUrl (w.setCell ⟨q, 7, none⟩ (.bool x)) q { u with hq := x } := by
  simp [World.setCell, IsUrl, Array.getElem?_modify] at h ⊢; simp [h]
theorem IsUrl.set8 {w : World} {q : Nat} {u : UrlT} (h : IsUrl w q u) (x : Bool) : IsUrl (w.setCell ⟨q, 8, none⟩ (.bool x)) q { u with hf := x } := by
  simp [World.setCell, IsUrl, Array.getElem?_modify] at h ⊢; simp [h]
/-- A cell that holds the text that is read. -/
def IsPtr (w : World) (p b : Nat) : Prop := w.heap[p]? = some (.cells #[.pointer (some ⟨b, 0, none⟩)] 105 (0, 0))
theorem IsPtr.lt {w : World} {p b : Nat} (h : IsPtr w p b) : p < w.heap.size := lt_of_block h
theorem IsPtr.keeps {S : List Nat} {w w' : World} {p b : Nat} (h : IsPtr w p b) (hk : Keeps S w w') (hp : p ∉ S) : IsPtr w' p b := by
  rw [IsPtr, hk.block p h.lt hp]; exact h
theorem IsPtr.cell {w : World} {p b : Nat} (h : IsPtr w p b) : w.cell? ⟨p, 0, none⟩ = some (.pointer (some ⟨b, 0, none⟩)) := cell_of_one h
set_option maxHeartbeats 400000 in
/-- What Split tries: the scheme. -/
theorem tryScheme_any (p q b : Nat) (u : UrlT) (s : ByteArray) (w : World) (hs : s.size ≤ 3000) (hP : IsPtr w p b) (hU : IsUrl w q u) (hT : IsText w b s 0) (hqb : q ≠ b) :
    Calls Tryz.prog 215 #[.pointer (some ⟨p, 0, none⟩), .pointer (some ⟨q, 0, none⟩)] w fun e w' =>
      (e = .returned (.tuple #[]) ∧ (∃ n, schemeL s.data.toList = some n ∧ IsText w' b s (n.length + 1) ∧ IsUrl w' q { u with scheme := n }) ∨
        e = .panicked gave ∧ (schemeL s.data.toList = none ∧ IsUrl w' q u) ∧ ∃ j, IsText w' b s j) ∧ Keeps [b, q] w w' := by
  have c0 := hP.cell
  have hsc := hide (fun (w : World) hT => scheme_any b s w hs hT)
  go_enter Tryz.func215, Tryz.ntmps215
  go_wp2_with fail
  refine (hsc.out _ hT).mono ?_
  rintro e w1 ⟨⟨n, hn, rfl, hT1⟩ | ⟨hn, rfl, j, hT1⟩, hk1⟩
  · have hU1 := hU.keeps hk1 (by simpa using hqb)
    have f0 := hU1.free 0
    have d0 : w1.cell? ⟨q, 0, none⟩ = some (.string ⟨u.scheme.toArray⟩) := hU1.cell 0
    go_wp2_with fail
    go_end0
    refine ⟨.inl ⟨rfl, n, hn, ?_, hU1.set0 n⟩, ?_⟩
    · exact hT1.keeps (((Keeps.refl [q] w1).setCell (p := ⟨q, 0, none⟩) (by simp) _)) (by simpa using hqb.symm)
    · exact (hk1.mono (T := [b, q]) (by simp)).setCell (by simp) _
  · have hU1 := hU.keeps hk1 (by simpa using hqb)
    go_wp2_with fail
    exact ⟨rfl, .inr ⟨rfl, ⟨hn, hU1⟩, j, hT1⟩, hk1.mono (by simp)⟩
end Go.Proofs.YtlcljanibjdejaaGreat
