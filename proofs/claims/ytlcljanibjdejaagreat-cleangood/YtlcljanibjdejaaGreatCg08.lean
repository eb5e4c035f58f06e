/- CleanGood holds: for every input the law returns true, and each argument reads behind the call as it read before; no condition. A part of its proof. -/
import Derived.Test.YtlcljanibjdejaaGreatCg07
import Derived.Deep.CutBlock
namespace Go.Proofs.YtlcljanibjdejaaGreat
structure UrlT where
  scheme : List UInt8
  authority : List UInt8
  path : List UInt8
  query : List UInt8
  fragment : List UInt8
  hs : Bool
  ha : Bool
  hq : Bool
  hf : Bool
deriving DecidableEq
def schB (c : UInt8) : Bool := letterB c || digB c || c == 43 || c == 45 || c == 46
def authB (c : UInt8) : Bool := c != 47 && c != 63 && c != 35
def pathB (c : UInt8) : Bool := c != 63 && c != 35
def queryB (c : UInt8) : Bool := c != 35
def schemeL (l : List UInt8) : Option (List UInt8) :=
  if (l.takeWhile schB) ≠ [] ∧ letterB ((l.takeWhile schB).getD 0 0) = true ∧ (l.drop (l.takeWhile schB).length).head? = some 58 then some (l.takeWhile schB) else none
def k0L (l : List UInt8) : Nat := match schemeL l with | some n => n.length + 1 | none => 0
def haL (l : List UInt8) : Bool := [47, 47].isPrefixOf (l.drop (k0L l))
def auL (l : List UInt8) : List UInt8 := if haL l = true then (l.drop (k0L l + 2)).takeWhile authB else []
def k1L (l : List UInt8) : Nat := if haL l = true then k0L l + 2 + (auL l).length else k0L l
def pathL (l : List UInt8) : List UInt8 := (l.drop (k1L l)).takeWhile pathB
def k2L (l : List UInt8) : Nat := k1L l + (pathL l).length
def hqL (l : List UInt8) : Bool := [63].isPrefixOf (l.drop (k2L l))
def quL (l : List UInt8) : List UInt8 := if hqL l = true then (l.drop (k2L l + 1)).takeWhile queryB else []
def k3L (l : List UInt8) : Nat := if hqL l = true then k2L l + 1 + (quL l).length else k2L l
def hfL (l : List UInt8) : Bool := [35].isPrefixOf (l.drop (k3L l))
def frL (l : List UInt8) : List UInt8 := if hfL l = true then l.drop (k3L l + 1) else []
def splitL (l : List UInt8) : UrlT := ⟨(schemeL l).getD [], auL l, pathL l, quL l, frL l, (schemeL l).isSome, haL l, hqL l, hfL l⟩
def joinL (u : UrlT) : List UInt8 :=
  (if u.hs = true then u.scheme ++ [58] else []) ++ (if u.ha = true then [47, 47] ++ u.authority else []) ++ u.path ++ (if u.hq = true then 63 :: u.query else []) ++ (if u.hf = true then 35 :: u.fragment else [])
theorem drop_tw (f : UInt8 → Bool) : ∀ l : List UInt8, l.drop (l.takeWhile f).length = l.dropWhile f
  | [] => rfl
  | c :: l => by
    cases h : f c
    · simp [h]
    · simpa [h] using drop_tw f l
theorem tw_drop (f : UInt8 → Bool) (l : List UInt8) (k : Nat) : l.drop k = (l.drop k).takeWhile f ++ l.drop (k + ((l.drop k).takeWhile f).length) := by
  rw [← List.drop_drop]
  have h : (l.drop k).takeWhile f ++ (l.drop k).dropWhile f = l.drop k := List.takeWhile_append_dropWhile
  rw [drop_tw f, h]
theorem tw_stop (f : UInt8 → Bool) : ∀ (l : List UInt8), l.drop (l.takeWhile f).length = [] ∨ ∃ c r, l.drop (l.takeWhile f).length = c :: r ∧ f c = false
  | [] => .inl rfl
  | c :: l => by
    cases h : f c
    · exact .inr ⟨c, l, by simp [h], h⟩
    · simpa [h] using tw_stop f l
theorem tw_stop_at (f : UInt8 → Bool) (l : List UInt8) (k : Nat) : l.drop (k + ((l.drop k).takeWhile f).length) = [] ∨ ∃ c r, l.drop (k + ((l.drop k).takeWhile f).length) = c :: r ∧ f c = false := by
  rw [← List.drop_drop]; exact tw_stop f _
theorem drop_next {l : List UInt8} {k : Nat} {c : UInt8} {r : List UInt8} (h : l.drop k = c :: r) : l.drop (k + 1) = r := by
  rw [← List.drop_drop, h]; rfl
theorem drop_next2 {l : List UInt8} {k : Nat} {c d : UInt8} {r : List UInt8} (h : l.drop k = c :: d :: r) : l.drop (k + 2) = r := by
  rw [← List.drop_drop, h]; rfl
theorem join_frag (l : List UInt8) : (if hfL l = true then 35 :: frL l else []) = l.drop (k3L l) := by
  have hstop : l.drop (k3L l) = [] ∨ ∃ r, l.drop (k3L l) = 35 :: r := by
    unfold k3L
    cases hq : hqL l
    · simp only [Bool.false_eq_true, if_false]
      rcases tw_stop_at pathB l (k1L l) with h | ⟨c, r, h, hc⟩
      · exact .inl h
      · have h' : l.drop (k2L l) = c :: r := h
        by_cases h63 : c = 63
        · subst h63
          unfold hqL at hq
          rw [h'] at hq
          simp at hq
        · right
          have : c = 35 := by simpa [pathB, h63] using hc
          subst this
          exact ⟨r, h'⟩
    · simp only [if_true]
      unfold quL
      rw [if_pos hq]
      rcases tw_stop_at queryB l (k2L l + 1) with h | ⟨c, r, h, hc⟩
      · exact .inl h
      · have : c = 35 := by simpa [queryB] using hc
        subst this
        exact .inr ⟨r, h⟩
  unfold frL
  rcases hstop with h | ⟨r, h⟩
  · have : hfL l = false := by unfold hfL; rw [h]; rfl
    rw [this, h]; simp
  · have : hfL l = true := by unfold hfL; rw [h]; rfl
    rw [this, h, drop_next h]; simp
theorem join_query (l : List UInt8) : (if hqL l = true then 63 :: quL l else []) ++ l.drop (k3L l) = l.drop (k2L l) := by
  unfold k3L
  cases hq : hqL l
  · simp
  · simp only [if_true]
    have hp := hq
    unfold hqL at hp
    cases hd : l.drop (k2L l) with
    | nil => rw [hd] at hp; simp at hp
    | cons c r =>
      rw [hd] at hp
      have : c = 63 := by simpa using (by simpa using hp : (63 : UInt8) = c).symm
      subst this
      unfold quL
      rw [if_pos hq, List.cons_append, ← tw_drop queryB l (k2L l + 1), drop_next hd]
theorem join_path (l : List UInt8) : pathL l ++ l.drop (k2L l) = l.drop (k1L l) := by
  unfold pathL k2L
  exact (tw_drop pathB l (k1L l)).symm
theorem join_auth (l : List UInt8) : (if haL l = true then [47, 47] ++ auL l else []) ++ l.drop (k1L l) = l.drop (k0L l) := by
  unfold k1L
  cases ha : haL l
  · simp
  · simp only [if_true]
    have hp := ha
    unfold haL at hp
    match hd : l.drop (k0L l) with
    | [] => rw [hd] at hp; simp at hp
    | [c] => rw [hd] at hp; simp at hp
    | c :: d :: r =>
      rw [hd] at hp
      have h1 : (47 : UInt8) = c ∧ (47 : UInt8) = d := by simpa using hp
      obtain ⟨rfl, rfl⟩ := h1
      unfold auL
      rw [if_pos ha, List.append_assoc, ← tw_drop authB l (k0L l + 2), drop_next2 hd]
      rfl
theorem join_scheme (l : List UInt8) : (if (schemeL l).isSome = true then (schemeL l).getD [] ++ [58] else []) ++ l.drop (k0L l) = l := by
  unfold k0L
  cases h : schemeL l with
  | none => simp
  | some n =>
    unfold schemeL at h
    split at h
    · rename_i hc
      simp only [Option.some.injEq] at h
      subst h
      obtain ⟨_, _, h3⟩ := hc
      simp only [Option.isSome_some, if_true, Option.getD_some]
      have e := tw_drop schB l 0
      rw [List.drop_zero, Nat.zero_add] at e
      cases hd : l.drop (l.takeWhile schB).length with
      | nil => rw [hd] at h3; simp at h3
      | cons c r =>
        rw [hd] at h3
        simp at h3
        subst h3
        rw [drop_next hd]
        conv => rhs; rw [e, hd]
        simp
    · simp at h
theorem join_split (l : List UInt8) : joinL (splitL l) = l := by
  unfold joinL splitL
  simp only
  rw [join_frag, List.append_assoc, join_query, List.append_assoc, join_path, List.append_assoc, join_auth, join_scheme]
def joinsL (u : UrlT) : Option (List UInt8) := if (joinL u).length ≤ 3000 ∧ splitL (joinL u) = u then some (joinL u) else none
theorem joins_split (l : List UInt8) (h : l.length ≤ 3000) : joinsL (splitL l) = some l := by
  unfold joinsL
  rw [join_split]
  simp [h]
def cutLast (l : List UInt8) : List UInt8 := ((l.reverse.dropWhile (· != 47)).drop 1).reverse
def upSl (l : List UInt8) : List UInt8 := (l.reverse.dropWhile (· != 47)).reverse
def noSl (c : UInt8) : Bool := c != 47
def firstL (l : List UInt8) : Nat := 1 + ((l.drop 1).takeWhile noSl).length
theorem dropWhile_stop (f : UInt8 → Bool) : ∀ (y : List UInt8) (c : UInt8) (r : List UInt8), (∀ d ∈ y, f d = true) → f c = false → (y ++ c :: r).dropWhile f = c :: r
  | [], c, r, _, h => by simp [h]
  | d :: y, c, r, hy, h => by
    rw [List.cons_append, List.dropWhile_cons, if_pos (hy d (by simp))]
    exact dropWhile_stop f y c r (fun e he => hy e (by simp [he])) h
theorem dropWhile_none (f : UInt8 → Bool) : ∀ (y : List UInt8), (∀ d ∈ y, f d = true) → y.dropWhile f = []
  | [], _ => rfl
  | d :: y, hy => by
    rw [List.dropWhile_cons, if_pos (hy d (by simp))]
    exact dropWhile_none f y (fun e he => hy e (by simp [he]))
theorem cutLast_at (x y : List UInt8) (hy : ∀ d ∈ y, d ≠ 47) : cutLast (x ++ 47 :: y) = x := by
  unfold cutLast
  have e : (x ++ 47 :: y).reverse = y.reverse ++ 47 :: x.reverse := by simp
  rw [e, dropWhile_stop _ _ _ _ (fun d hd => by simpa using hy d (by simpa using hd)) (by simp)]
  simp
theorem cutLast_none (x : List UInt8) (hx : ∀ d ∈ x, d ≠ 47) : cutLast x = [] := by
  unfold cutLast
  rw [dropWhile_none _ _ (fun d hd => by simpa using hx d (by simpa using hd))]
  rfl
theorem upSl_at (x y : List UInt8) (hy : ∀ d ∈ y, d ≠ 47) : upSl (x ++ 47 :: y) = x ++ [47] := by
  unfold upSl
  have e : (x ++ 47 :: y).reverse = y.reverse ++ 47 :: x.reverse := by simp
  rw [e, dropWhile_stop _ _ _ _ (fun d hd => by simpa using hy d (by simpa using hd)) (by simp)]
  simp
theorem upSl_none (x : List UInt8) (hx : ∀ d ∈ x, d ≠ 47) : upSl x = [] := by
  unfold upSl
  rw [dropWhile_none _ _ (fun d hd => by simpa using hx d (by simpa using hd))]
  rfl
theorem cutLast_le (x : List UInt8) : (cutLast x).length ≤ x.length := by
  unfold cutLast
  have : (x.reverse.dropWhile (· != 47)).length ≤ x.reverse.length := (List.dropWhile_sublist _).length_le
  simp at this ⊢
  omega
theorem upSl_le (x : List UInt8) : (upSl x).length ≤ x.length := by
  unfold upSl
  have : (x.reverse.dropWhile (· != 47)).length ≤ x.reverse.length := (List.dropWhile_sublist _).length_le
  simpa using this
def dotStep (i o : List UInt8) : List UInt8 × List UInt8 :=
  if [46, 46, 47].isPrefixOf i = true then (i.drop 3, o)
  else if [46, 47].isPrefixOf i = true then (i.drop 2, o)
  else if [47, 46, 47].isPrefixOf i = true then (i.drop 2, o)
  else if [47, 46, 46, 47].isPrefixOf i = true then (i.drop 3, cutLast o)
  else if i = [47, 46] then ([47], o)
  else if i = [47, 46, 46] then ([47], cutLast o)
  else if i = [46] ∨ i = [46, 46] then ([], o)
  else (i.drop (firstL i), o ++ i.take (firstL i))
def dotsF : Nat → List UInt8 → List UInt8 → List UInt8
  | 0, _, o => o
  | f + 1, i, o => if i = [] then o else dotsF f (dotStep i o).1 (dotStep i o).2
def dotsL (l : List UInt8) : List UInt8 := dotsF l.length l []
theorem firstL_pos (l : List UInt8) : 1 ≤ firstL l := by unfold firstL; omega
theorem firstL_le (l : List UInt8) (h : l ≠ []) : firstL l ≤ l.length := by
  unfold firstL
  have h1 : ((l.drop 1).takeWhile noSl).length ≤ (l.drop 1).length := (List.takeWhile_sublist _).length_le
  have h2 : 0 < l.length := List.length_pos_iff.2 h
  rw [List.length_drop] at h1
  omega
theorem pre_len {p l : List UInt8} (h : p.isPrefixOf l = true) : p.length ≤ l.length := by
  have : p <+: l := by simpa using h
  exact this.length_le
theorem dotStep_less (i o : List UInt8) (h : i ≠ []) : (dotStep i o).1.length < i.length ∧ (dotStep i o).1.length + (dotStep i o).2.length ≤ i.length + o.length := by
  have hp := List.length_pos_iff.2 h
  have hc := cutLast_le o
  unfold dotStep
  split
  · rename_i hx; have := pre_len hx; simp at this ⊢; omega
  split
  · rename_i hx; have := pre_len hx; simp at this ⊢; omega
  split
  · rename_i hx; have := pre_len hx; simp at this ⊢; omega
  split
  · rename_i hx; have := pre_len hx; simp at this ⊢; omega
  split
  · rename_i hx; subst hx; simp
  split
  · rename_i hx; subst hx; simp; omega
  split
  · simp; omega
  · have h1 := firstL_pos i
    have h2 := firstL_le i h
    simp only [List.length_drop, List.length_append, List.length_take]
    omega
theorem dotsF_more : ∀ (f g : Nat) (i o : List UInt8), i.length ≤ f → i.length ≤ g → dotsF f i o = dotsF g i o
  | 0, 0, _, _, _, _ => rfl
  | 0, g + 1, i, o, h, _ => by
    have : i = [] := List.eq_nil_of_length_eq_zero (by omega)
    subst this; simp [dotsF]
  | f + 1, 0, i, o, _, h => by
    have : i = [] := List.eq_nil_of_length_eq_zero (by omega)
    subst this; simp [dotsF]
  | f + 1, g + 1, i, o, h1, h2 => by
    unfold dotsF
    by_cases hi : i = []
    · simp [hi]
    · rw [if_neg hi, if_neg hi]
      have := (dotStep_less i o hi).1
      exact dotsF_more f g _ _ (by omega) (by omega)
def dotsR (i o : List UInt8) : List UInt8 := dotsF i.length i o
theorem dotsR_nil (o : List UInt8) : dotsR [] o = o := rfl
theorem dotsR_step (i o : List UInt8) (h : i ≠ []) : dotsR i o = dotsR (dotStep i o).1 (dotStep i o).2 := by
  have hl := (dotStep_less i o h).1
  have hp := List.length_pos_iff.2 h
  unfold dotsR
  obtain ⟨n, hn⟩ : ∃ n, i.length = n + 1 := ⟨i.length - 1, by omega⟩
  rw [hn]
  conv => lhs; unfold dotsF
  rw [if_neg h]
  exact dotsF_more _ _ _ _ (by omega) (by omega)
theorem dotsR_len : ∀ (n : Nat) (i o : List UInt8), i.length ≤ n → (dotsR i o).length ≤ i.length + o.length
  | 0, i, o, h => by
    have : i = [] := List.eq_nil_of_length_eq_zero (by omega)
    subst this; rw [dotsR_nil]; simp
  | n + 1, i, o, h => by
    by_cases hi : i = []
    · subst hi; rw [dotsR_nil]; simp
    · have hl := dotStep_less i o hi
      rw [dotsR_step i o hi]
      have := dotsR_len n (dotStep i o).1 (dotStep i o).2 (by omega)
      omega
theorem dotsL_len (l : List UInt8) : (dotsL l).length ≤ l.length := by
  have := dotsR_len l.length l [] (Nat.le_refl _)
  rw [List.length_nil, Nat.add_zero] at this
  exact this
def PartOk (x : List UInt8) : Prop := (∀ d ∈ x, d ≠ 47) ∧ x ≠ [46] ∧ x ≠ [46, 46]
inductive Tail : List UInt8 → Prop
  | nil : Tail []
  | cons (x r : List UInt8) : PartOk x → Tail r → Tail (47 :: x ++ r)
def CleanP (l : List UInt8) : Prop := ∃ x r, l = x ++ r ∧ PartOk x ∧ Tail r
theorem part_nil : PartOk [] := ⟨by simp, by simp, by simp⟩
theorem Tail.snoc {r : List UInt8} (h : Tail r) (x : List UInt8) (hx : PartOk x) : Tail (r ++ 47 :: x) := by
  induction h with
  | nil => simpa using Tail.cons x [] hx .nil
  | cons y r hy _ ih =>
    have : 47 :: y ++ r ++ 47 :: x = 47 :: y ++ (r ++ 47 :: x) := by simp
    rw [this]
    exact .cons y _ hy ih
theorem CleanP.snoc {l : List UInt8} (h : CleanP l) (x : List UInt8) (hx : PartOk x) : CleanP (l ++ 47 :: x) := by
  obtain ⟨y, r, rfl, hy, hr⟩ := h
  exact ⟨y, r ++ 47 :: x, by simp, hy, hr.snoc x hx⟩
theorem Tail.last {r : List UInt8} (h : Tail r) : r = [] ∨ ∃ q x, r = q ++ 47 :: x ∧ Tail q ∧ PartOk x := by
  induction h with
  | nil => exact .inl rfl
  | cons y r hy hr ih =>
    right
    rcases ih with rfl | ⟨q, x, rfl, hq, hx⟩
    · exact ⟨[], y, by simp, .nil, hy⟩
    · exact ⟨47 :: y ++ q, x, by simp, .cons y q hy hq, hx⟩
theorem CleanP.cut {l : List UInt8} (h : CleanP l) : CleanP (cutLast l) := by
  obtain ⟨y, r, rfl, hy, hr⟩ := h
  rcases hr.last with rfl | ⟨q, x, rfl, hq, hx⟩
  · rw [List.append_nil, cutLast_none y hy.1]
    exact ⟨[], [], rfl, part_nil, .nil⟩
  · rw [← List.append_assoc, cutLast_at _ _ hx.1]
    exact ⟨y, q, rfl, hy, hq⟩
theorem CleanP.nil : CleanP [] := ⟨[], [], rfl, part_nil, .nil⟩
def DotInv (i o : List UInt8) : Prop := CleanP o ∧ (o = [] ∨ i = [] ∨ ∃ r, i = 47 :: r)
theorem pre_eq {p l : List UInt8} (h : p.isPrefixOf l = true) : ∃ r, l = p ++ r := by
  have : p <+: l := by simpa using h
  obtain ⟨r, hr⟩ := this
  exact ⟨r, hr.symm⟩
theorem firstL_eq (c : UInt8) (x r : List UInt8) (hx : ∀ d ∈ x, d ≠ 47) (hr : r = [] ∨ ∃ q, r = 47 :: q) : firstL (c :: (x ++ r)) = 1 + x.length := by
  unfold firstL
  simp only [List.drop_succ_cons, List.drop_zero]
  congr 1
  have : (x ++ r).takeWhile noSl = x := by
    rw [List.takeWhile_append_of_pos (fun d hd => by simpa [noSl] using hx d hd)]
    rcases hr with rfl | ⟨q, rfl⟩
    · simp
    · simp [noSl]
  rw [this]
theorem split_first (l : List UInt8) : ∃ x r, l = x ++ r ∧ (∀ d ∈ x, d ≠ 47) ∧ (r = [] ∨ ∃ q, r = 47 :: q) := by
  refine ⟨l.takeWhile noSl, l.drop (l.takeWhile noSl).length, ?_, ?_, ?_⟩
  · have := tw_drop noSl l 0
    simpa using this
  · intro d hd
    have := List.all_eq_true.1 (List.all_takeWhile (p := noSl) (l := l)) d hd
    simpa [noSl] using this
  · rcases tw_stop noSl l with h | ⟨c, r, h, hc⟩
    · exact .inl h
    · have : c = 47 := by simpa [noSl] using hc
      subst this
      exact .inr ⟨r, h⟩
theorem dotStep_inv (i o : List UInt8) (hi : i ≠ []) (h : DotInv i o) : DotInv (dotStep i o).1 (dotStep i o).2 := by
  obtain ⟨hc, hh⟩ := h
  unfold dotStep
  split
  · rename_i hx
    obtain ⟨r, rfl⟩ := pre_eq hx
    rcases hh with rfl | hh | ⟨q, hq⟩
    · exact ⟨hc, .inl rfl⟩
    · simp at hh
    · simp at hq
  split
  · rename_i hx
    obtain ⟨r, rfl⟩ := pre_eq hx
    rcases hh with rfl | hh | ⟨q, hq⟩
    · exact ⟨hc, .inl rfl⟩
    · simp at hh
    · simp at hq
  split
  · rename_i hx
    obtain ⟨r, rfl⟩ := pre_eq hx
    exact ⟨hc, .inr (.inr ⟨r, by simp⟩)⟩
  split
  · rename_i hx
    obtain ⟨r, rfl⟩ := pre_eq hx
    exact ⟨hc.cut, .inr (.inr ⟨r, by simp⟩)⟩
  split
  · exact ⟨hc, .inr (.inr ⟨[], rfl⟩)⟩
  split
  · exact ⟨hc.cut, .inr (.inr ⟨[], rfl⟩)⟩
  split
  · exact ⟨hc, .inr (.inl rfl)⟩
  · rename_i n1 n2 n3 n4 n5 n6 n7
    match i, hi with
    | c :: l, _ =>
      obtain ⟨x, r, rfl, hx, hr⟩ := split_first l
      have hf := firstL_eq c x r hx hr
      have e1 : (c :: (x ++ r)).drop (firstL (c :: (x ++ r))) = r := by
        rw [hf, Nat.add_comm 1]; simp
      have e2 : (c :: (x ++ r)).take (firstL (c :: (x ++ r))) = c :: x := by
        rw [hf, Nat.add_comm 1]; simp
      simp only [e1, e2]
      refine ⟨?_, .inr (by rcases hr with rfl | ⟨q, rfl⟩; exact .inl rfl; exact .inr ⟨q, rfl⟩)⟩
      by_cases h47 : c = 47
      · subst h47
        refine hc.snoc x ⟨hx, ?_, ?_⟩
        · rintro rfl
          rcases hr with rfl | ⟨q, rfl⟩
          · exact n5 rfl
          · exact n3 (by simp [List.isPrefixOf])
        · rintro rfl
          rcases hr with rfl | ⟨q, rfl⟩
          · exact n6 rfl
          · exact n4 (by simp [List.isPrefixOf])
      · have ho : o = [] := by
          rcases hh with rfl | hh | ⟨q, hq⟩
          · rfl
          · simp at hh
          · simp at hq; exact absurd hq.1 h47
        subst ho
        refine ⟨c :: x, [], by simp, ⟨?_, ?_, ?_⟩, .nil⟩
        · intro d hd
          rcases List.mem_cons.1 hd with rfl | hd
          · exact h47
          · exact hx d hd
        · intro e
          simp at e
          obtain ⟨rfl, rfl⟩ := e
          rcases hr with rfl | ⟨q, rfl⟩
          · exact n7 (.inl rfl)
          · exact n2 (by simp [List.isPrefixOf])
        · intro e
          simp at e
          obtain ⟨rfl, rfl⟩ := e
          rcases hr with rfl | ⟨q, rfl⟩
          · exact n7 (.inr rfl)
          · exact n1 (by simp [List.isPrefixOf])
theorem dotsR_clean : ∀ (n : Nat) (i o : List UInt8), i.length ≤ n → DotInv i o → CleanP (dotsR i o)
  | 0, i, o, h, hd => by
    have : i = [] := List.eq_nil_of_length_eq_zero (by omega)
    subst this; rw [dotsR_nil]; exact hd.1
  | n + 1, i, o, h, hd => by
    by_cases hi : i = []
    · subst hi; rw [dotsR_nil]; exact hd.1
    · have hl := (dotStep_less i o hi).1
      rw [dotsR_step i o hi]
      exact dotsR_clean n _ _ (by omega) (dotStep_inv i o hi hd)
theorem dotsL_clean (l : List UInt8) : CleanP (dotsL l) := dotsR_clean l.length l [] (Nat.le_refl _) ⟨.nil, .inl rfl⟩
theorem dotStep_part (x r o : List UInt8) (hx : PartOk x) (hr : r = [] ∨ ∃ q, r = 47 :: q) : dotStep (47 :: (x ++ r)) o = (r, o ++ 47 :: x) := by
  have hf := firstL_eq 47 x r hx.1 hr
  have e1 : (47 :: (x ++ r)).drop (firstL (47 :: (x ++ r))) = r := by rw [hf, Nat.add_comm 1]; simp
  have e2 : (47 :: (x ++ r)).take (firstL (47 :: (x ++ r))) = 47 :: x := by rw [hf, Nat.add_comm 1]; simp
  obtain ⟨h1, h2, h3⟩ := hx
  have key : ∀ y : List UInt8, (∀ d ∈ y, d ≠ 47) → ∀ q', x ++ r = y ++ 47 :: q' → x = y := by
    intro y hy q' e
    rcases List.append_eq_append_iff.1 e with ⟨a, ha1, ha2⟩ | ⟨a, ha1, ha2⟩
    · cases a with
      | nil => simpa using ha1.symm
      | cons d a =>
        exfalso
        rcases hr with rfl | ⟨q, rfl⟩
        · simp at ha2
        · simp at ha2
          exact hy d (by rw [ha1]; simp) ha2.1.symm
    · cases a with
      | nil => simpa using ha1
      | cons d a =>
        exfalso
        simp at ha2
        exact h1 d (by rw [ha1]; simp) ha2.1.symm
  have keyE : ∀ y : List UInt8, (∀ d ∈ y, d ≠ 47) → x ++ r = y → x = y := by
    intro y hy e
    rcases hr with rfl | ⟨q, rfl⟩
    · simpa using e
    · exact absurd rfl (hy 47 (by rw [← e]; simp))
  unfold dotStep
  rw [e1, e2]
  rw [if_neg (by simp [List.isPrefixOf]), if_neg (by simp [List.isPrefixOf])]
  rw [if_neg (fun h => by
    obtain ⟨q, hq⟩ := pre_eq h
    exact h2 (key [46] (by simp) q (by simpa using hq)))]
  rw [if_neg (fun h => by
    obtain ⟨q, hq⟩ := pre_eq h
    exact h3 (key [46, 46] (by simp) q (by simpa using hq)))]
  rw [if_neg (fun h => h2 (keyE [46] (by simp) (by simpa using h)))]
  rw [if_neg (fun h => h3 (keyE [46, 46] (by simp) (by simpa using h)))]
  rw [if_neg (by simp)]
theorem Tail.head {r : List UInt8} (h : Tail r) : r = [] ∨ ∃ q, r = 47 :: q := by
  cases h with
  | nil => exact .inl rfl
  | cons x r _ _ => exact .inr ⟨x ++ r, by simp⟩
theorem dotsR_tail {r : List UInt8} (h : Tail r) : ∀ o, dotsR r o = o ++ r := by
  induction h with
  | nil => intro o; rw [dotsR_nil, List.append_nil]
  | cons x r hx hr ih =>
    intro o
    rw [List.cons_append, dotsR_step _ _ (by simp), dotStep_part x r o hx hr.head, ih]
    simp
theorem dotsL_same {l : List UInt8} (h : CleanP l) : dotsL l = l := by
  obtain ⟨x, r, rfl, hx, hr⟩ := h
  cases x with
  | nil => exact (dotsR_tail hr []).trans (by simp)
  | cons c x =>
    obtain ⟨h1, h2, h3⟩ := hx
    have h47 : c ≠ 47 := h1 c (by simp)
    have hf := firstL_eq c x r (fun d hd => h1 d (by simp [hd])) hr.head
    have e1 : (c :: (x ++ r)).drop (firstL (c :: (x ++ r))) = r := by rw [hf, Nat.add_comm 1]; simp
    have e2 : (c :: (x ++ r)).take (firstL (c :: (x ++ r))) = c :: x := by rw [hf, Nat.add_comm 1]; simp
    have key : ∀ y q' : List UInt8, (∀ d ∈ y, d ≠ 47) → c :: (x ++ r) = y ++ 47 :: q' → c :: x = y := by
      intro y q' hy e
      rw [← List.cons_append] at e
      rcases List.append_eq_append_iff.1 e with ⟨a, ha1, ha2⟩ | ⟨a, ha1, ha2⟩
      · cases a with
        | nil => simpa using ha1.symm
        | cons d a =>
          exfalso
          rcases hr.head with rfl | ⟨q, rfl⟩
          · simp at ha2
          · simp at ha2
            exact hy d (by rw [ha1]; simp) ha2.1.symm
      · cases a with
        | nil => simpa using ha1
        | cons d a =>
          exfalso
          simp at ha2
          exact h1 d (by rw [ha1]; simp) ha2.1.symm
    have keyE : ∀ y : List UInt8, (∀ d ∈ y, d ≠ 47) → c :: (x ++ r) = y → c :: x = y := by
      intro y hy e
      rcases hr.head with rfl | ⟨q, rfl⟩
      · simpa using e
      · exact absurd rfl (hy 47 (by rw [← e]; simp))
    have hstep : dotStep (c :: (x ++ r)) [] = (r, c :: x) := by
      unfold dotStep
      rw [e1, e2]
      rw [if_neg (fun h => by
        obtain ⟨q, hq⟩ := pre_eq h
        exact h3 (key [46, 46] q (by simp) (by simpa using hq)))]
      rw [if_neg (fun h => by
        obtain ⟨q, hq⟩ := pre_eq h
        exact h2 (key [46] q (by simp) (by simpa using hq)))]
      rw [if_neg (fun h => by
        obtain ⟨q, hq⟩ := pre_eq h
        simp at hq; exact h47 hq.1)]
      rw [if_neg (fun h => by
        obtain ⟨q, hq⟩ := pre_eq h
        simp at hq; exact h47 hq.1)]
      rw [if_neg (fun h => by simp at h; exact h47 h.1)]
      rw [if_neg (fun h => by simp at h; exact h47 h.1)]
      rw [if_neg (fun h => by
        rcases h with h | h
        · exact h2 (keyE [46] (by simp) h)
        · exact h3 (keyE [46, 46] (by simp) h))]
      simp
    show dotsR (c :: x ++ r) [] = _
    rw [List.cons_append, dotsR_step _ _ (by simp), hstep, dotsR_tail hr]
    simp
theorem dotsL_twice (l : List UInt8) : dotsL (dotsL l) = dotsL l := dotsL_same (dotsL_clean l)
def mergedL (b : UrlT) (p : List UInt8) : List UInt8 :=
  if p = [] then b.path else if p.head? = some 47 then p else if b.ha = true ∧ b.path = [] then 47 :: p else upSl b.path ++ p
def resL (b u : UrlT) : UrlT :=
  if u.hs = true then { u with path := dotsL u.path }
  else if u.ha = true then { u with scheme := b.scheme, hs := true, path := dotsL u.path }
  else { scheme := b.scheme, hs := true, authority := b.authority, ha := b.ha, path := dotsL (mergedL b u.path),
         query := if u.path = [] ∧ u.hq = false then b.query else u.query, hq := if u.path = [] ∧ u.hq = false then b.hq else u.hq, fragment := u.fragment, hf := u.hf }
theorem resL_hs (b u : UrlT) : (resL b u).hs = true := by
  unfold resL
  split
  · assumption
  split <;> rfl
theorem resL_path (b u : UrlT) : dotsL (resL b u).path = (resL b u).path := by
  unfold resL
  split
  · exact dotsL_twice _
  split <;> exact dotsL_twice _
def resAns (base s : List UInt8) : Option (List UInt8) := if (splitL base).hs = true then joinsL (resL (splitL base) (splitL s)) else none
theorem res_again {base s r : List UInt8} (h : resAns base s = some r) : (splitL r).hs = true ∧ resAns base r = some r ∧ r.length ≤ 3000 := by
  unfold resAns at h
  split at h
  · rename_i hb
    unfold joinsL at h
    split at h
    · rename_i hj
      simp only [Option.some.injEq] at h
      rw [h] at hj
      have hhs := resL_hs (splitL base) (splitL s)
      rw [← hj.2] at hhs
      refine ⟨hhs, ?_, hj.1⟩
      have e : resL (splitL base) (splitL r) = splitL r := by
        conv => lhs; unfold resL
        rw [if_pos hhs]
        have hp := resL_path (splitL base) (splitL s)
        rw [← hj.2] at hp
        rw [hp]
      unfold resAns
      rw [if_pos hb, e, joins_split r hj.1]
    · simp at h
  · simp at h
def bareL (l : List UInt8) : List UInt8 := l.filter fun c => decide (32 < c.toNat)
def okS (l : List UInt8) : Bool := l == [104, 116, 116, 112] || l == [104, 116, 116, 112, 115] || l == [109, 97, 105, 108, 116, 111]
def safeL (l : List UInt8) : Bool := okS (lowerL (splitL (bareL l)).scheme)
theorem all_bytes {p : UInt8 → Prop} [DecidablePred p] (h : ∀ n : Fin 256, p ⟨⟨n⟩⟩) (c : UInt8) : p c := by
  have := h c.toBitVec.toFin
  exact this
def allowedN (n : List UInt8) : Bool := (n == [97]) || ((n == [98]) || ((n == [105]) || ((n == [101, 109]) || ((n == [115, 116, 114, 111, 110, 103]) || ((n == [112]) || ((n == [98, 114]) || ((n == [104, 114]) || ((n == [117, 108]) || ((n == [111, 108]) || ((n == [108, 105]) || ((n == [98, 108, 111, 99, 107, 113, 117, 111, 116, 101]) || ((n == [99, 111, 100, 101]) || (n == [105, 109, 103])))))))))))))
def allowedA (el nm : List UInt8) : Bool := if (el == [97]) = true then (nm == [104, 114, 101, 102]) || (nm == [116, 105, 116, 108, 101]) else if (el == [105, 109, 103]) = true then (nm == [115, 114, 99]) || (nm == [97, 108, 116]) else false
def linkN (nm : List UInt8) : Bool := (nm == [104, 114, 101, 102]) || (nm == [115, 114, 99])
def lightL (base s : List UInt8) : List UInt8 := if 3000 < s.length then s else (resAns base s).getD s
def attrE (el : List UInt8) (a : Pair) : Int := if allowedA el a.1 = false then 7 else if linkN a.1 = false then 0 else if 3000 < a.2.length then 2 else if safeL a.2 = false then 4 else 0
def attrsE (el : List UInt8) : List Pair → Int
  | [] => 0
  | a :: r => if attrE el a = 0 then attrsE el r else attrE el a
def hasSrc (l : List Pair) : Bool := l.any (fun a => a.1 == [115, 114, 99])
def standE (n : List UInt8) (l : List Pair) : Int := if n.isEmpty = true then 0 else if allowedN n = false then 7 else if attrsE n l = 0 then (if ((n == [105, 109, 103]) && !hasSrc l) = true then 5 else 0) else attrsE n l
def toldA (base : List UInt8) (a : Pair) : Pair := if linkN a.1 = true then (a.1, lightL base a.2) else a
def keptA (base el : List UInt8) (l : List Pair) : List Pair := (l.map (toldA base)).filter (fun a => attrE el a == 0)
end Go.Proofs.YtlcljanibjdejaaGreat
namespace Go.Proofs.YtlcljanibjdejaaGreat
open Go.RowKit Go.Maps
set_option maxRecDepth 4000 in
set_option maxHeartbeats 4000000 in
theorem isAllowed_any (n : List UInt8) (w : World) : Calls Tryz.prog 172 #[.string ⟨n.toArray⟩] w fun e w' => e = .returned (.bool (allowedN n)) ∧ w' = w := by
  by_cases h : allowedN n = true
  · rw [h]
    simp only [allowedN, Bool.or_eq_true, beq_iff_eq] at h
    rcases h with rfl | rfl | rfl | rfl | rfl | rfl | rfl | rfl | rfl | rfl | rfl | rfl | rfl | rfl
    all_goals
      go_enter Tryz.func172, Tryz.ntmps172
      go_wp2_with fail
      go_ret
      exact ⟨rfl, rfl⟩
  · have h2 : allowedN n = false := by simpa using h
    rw [h2]
    simp only [allowedN, Bool.or_eq_false_iff] at h2
    obtain ⟨h1, h2, h3, h4, h5, h6, h7, h8, h9, h10, h11, h12, h13, h14⟩ := h2
    have p1 := (nameEq n _).trans h1
    have p2 := (nameEq n _).trans h2
    have p3 := (nameEq n _).trans h3
    have p4 := (nameEq n _).trans h4
    have p5 := (nameEq n _).trans h5
    have p6 := (nameEq n _).trans h6
    have p7 := (nameEq n _).trans h7
    have p8 := (nameEq n _).trans h8
    have p9 := (nameEq n _).trans h9
    have p10 := (nameEq n _).trans h10
    have p11 := (nameEq n _).trans h11
    have p12 := (nameEq n _).trans h12
    have p13 := (nameEq n _).trans h13
    have p14 := (nameEq n _).trans h14
    clear h
    go_enter Tryz.func172, Tryz.ntmps172
    go_wp2_with fail
    go_ret
    exact ⟨rfl, rfl⟩
set_option maxHeartbeats 1000000 in
theorem isLink_any (n : List UInt8) (w : World) : Calls Tryz.prog 243 #[.string ⟨n.toArray⟩] w fun e w' => e = .returned (.bool (linkN n)) ∧ w' = w := by
  unfold linkN
  cases h1 : (n == [104, 114, 101, 102]) <;> cases h2 : (n == [115, 114, 99])
  all_goals
    have p1 := (nameEq n _).trans h1
    have p2 := (nameEq n _).trans h2
    go_enter Tryz.func243, Tryz.ntmps243
    go_wp2_with fail
    go_ret
    exact ⟨rfl, rfl⟩
set_option maxHeartbeats 1000000 in
theorem goes_any (n : List UInt8) (w : World) : Calls Tryz.prog 247 #[.string ⟨n.toArray⟩] w fun e w' => e = .returned (.bool (goneN n)) ∧ w' = w := by
  unfold goneN
  cases h1 : (n == [115, 99, 114, 105, 112, 116]) <;> cases h2 : (n == [115, 116, 121, 108, 101]) <;> cases h3 : (n == [116, 101, 109, 112, 108, 97, 116, 101])
  all_goals
    have p1 := (nameEq n _).trans h1
    have p2 := (nameEq n _).trans h2
    have p3 := (nameEq n _).trans h3
    go_enter Tryz.func247, Tryz.ntmps247
    go_wp2_with fail
    go_ret
    exact ⟨rfl, rfl⟩
set_option maxHeartbeats 1000000 in
theorem isAllowedAttr_any (el n : List UInt8) (w : World) : Calls Tryz.prog 242 #[.string ⟨el.toArray⟩, .string ⟨n.toArray⟩] w fun e w' => e = .returned (.bool (allowedA el n)) ∧ w' = w := by
  unfold allowedA
  cases e1 : (el == [97])
  · have q1 := (nameEq el _).trans e1
    cases e2 : (el == [105, 109, 103])
    · have q2 := (nameEq el _).trans e2
      go_enter Tryz.func242, Tryz.ntmps242
      go_wp2_with fail
      go_ret
      exact ⟨rfl, rfl⟩
    · have q2 := (nameEq el _).trans e2
      cases h1 : (n == [115, 114, 99]) <;> cases h2 : (n == [97, 108, 116])
      all_goals
        have p1 := (nameEq n _).trans h1
        have p2 := (nameEq n _).trans h2
        go_enter Tryz.func242, Tryz.ntmps242
        go_wp2_with fail
        go_ret
        exact ⟨rfl, rfl⟩
  · have q1 := (nameEq el _).trans e1
    cases h1 : (n == [104, 114, 101, 102]) <;> cases h2 : (n == [116, 105, 116, 108, 101])
    all_goals
      have p1 := (nameEq n _).trans h1
      have p2 := (nameEq n _).trans h2
      go_enter Tryz.func242, Tryz.ntmps242
      go_wp2_with fail
      go_ret
      exact ⟨rfl, rfl⟩
set_option maxHeartbeats 1000000 in
theorem mustBool_ok (b : Bool) (w : World) : Calls Tryz.prog 244 #[.bool b, .int .i64 0] w fun e w' => e = .returned (.bool b) ∧ w' = w := by
  go_enter Tryz.func244, Tryz.ntmps244
  go_wp2_with fail
  go_ret
  exact ⟨rfl, rfl⟩
set_option maxHeartbeats 1000000 in
theorem mustBool_no (b : Bool) (x : Int) (hx : x ≠ 0) (w : World) : Calls Tryz.prog 244 #[.bool b, .int .i64 x] w fun e w' => e = .panicked (stopped x) ∧ w' = w := by
  have hd : (x != 0) = true := by simpa using hx
  clear hx
  go_enter Tryz.func244, Tryz.ntmps244
  go_wp2_with fail
  refine (with_any x _).mono ?_
  rintro e w1 ⟨rfl, rfl⟩
  exact ⟨rfl, rfl, rfl⟩
def strCs (os : List (List UInt8)) : List Value := os.map fun s => .string ⟨s.toArray⟩
theorem strCs_at (os : List (List UInt8)) (k : Nat) (hk : k < os.length) : (strCs os)[k * 1]? = some (.string ⟨os[k].toArray⟩) := by simp [strCs, hk]
def Down (m : Nat) (i : Value) : Prop := i = .int .i64 (-1) ∨ ∃ k : Nat, k < m ∧ i = .int .i64 k
theorem Down.start (m : Nat) {x : Int} (h : x = (m : Int) - 1) : Down m (.int .i64 x) := by
  cases m with
  | zero => subst h; exact .inl rfl
  | succ m => subst h; exact .inr ⟨m, by omega, by rw [show ((m + 1 : Nat) : Int) - 1 = (m : Int) from by omega]⟩
theorem isEmptyX_any (nm : List UInt8) (w : World) : Calls Tryz.prog 178 #[.string ⟨nm.toArray⟩] w fun e w' => e = .returned (.bool (emptyN nm)) ∧ w' = w := by
  cases h1 : (nm == [98, 114]) <;> cases h2 : (nm == [104, 114]) <;> cases h3 : (nm == [105, 109, 103])
  all_goals
    have p1 := (nameEq nm _).trans h1
    have p2 := (nameEq nm _).trans h2
    have p3 := (nameEq nm _).trans h3
    have hf := hide (show emptyN nm = _ from by unfold emptyN; rw [h1, h2, h3])
    go_enter Tryz.func178, Tryz.ntmps178
    go_wp2_with fail
    go_ret
    exact ⟨by rw [hf.out]; rfl, rfl⟩
def dn (is hides : List UInt8 → Bool) (os : List (List UInt8)) (m : Nat) : Nat → Nat
  | 0 => m
  | i + 1 => if is (os.getD i []) = true then i else if hides (os.getD i []) = true then m else dn is hides os m i
theorem dn_inner (is hides : List UInt8 → Bool) (os : List (List UInt8)) (m : Nat) (hm : m ≤ os.length) : ∀ i, i ≤ m → innerTo is hides (os.take m) i = dn is hides os m i
  | 0, _ => by unfold innerTo dn; rw [List.length_take]; omega
  | i + 1, h => by
    have e : (os.take m).getD i [] = os.getD i [] := by simp [List.getD_eq_getElem?_getD, show i < m from by omega]
    unfold innerTo dn
    rw [e, dn_inner is hides os m hm i (by omega), List.length_take, Nat.min_eq_left hm]
theorem dn_le (is hides : List UInt8 → Bool) (os : List (List UInt8)) (m : Nat) : ∀ i, i ≤ m → dn is hides os m i ≤ m
  | 0, _ => Nat.le_refl _
  | i + 1, h => by
    unfold dn
    split
    · omega
    · split
      · exact Nat.le_refl _
      · exact dn_le is hides os m i (by omega)
theorem inner_dn (is hides : List UInt8 → Bool) (os : List (List UInt8)) : innerL is hides os = dn is hides os os.length os.length := by
  have h := dn_inner is hides os os.length (Nat.le_refl _) os.length (Nat.le_refl _)
  rw [List.take_length] at h
  exact h
theorem inner_dn2 (is hides : List UInt8 → Bool) (os : List (List UInt8)) (m : Nat) (hm : m ≤ os.length) : innerL is hides (os.take m) = dn is hides os m m := by
  have h := dn_inner is hides os m hm m (Nat.le_refl _)
  unfold innerL
  rw [List.length_take, Nat.min_eq_left hm]
  exact h
theorem closed_li (os : List (List UInt8)) : closedL os [108, 105] = dn (· == [108, 105]) listN os (dn (· == [112]) wallN os os.length os.length) (dn (· == [112]) wallN os os.length os.length) := by
  unfold closedL
  rw [if_pos rfl, if_pos (by decide), inner_dn (· == [112]) wallN os, inner_dn2 _ _ _ _ (dn_le _ _ _ _ _ (Nat.le_refl _))]
theorem closed_bl (os : List (List UInt8)) (nm : List UInt8) (h1 : nm ≠ [108, 105]) (h2 : blockN nm = true) : closedL os nm = dn (· == [112]) wallN os os.length os.length := by
  unfold closedL
  rw [if_neg h1, if_pos h2, inner_dn]
theorem dp_at {os : List (List UInt8)} {k m F : Nat} (hk : k < os.length) (h : dn (· == [112]) wallN os m (k + 1) = F) : (if (os[k] == [112]) = true then k else if wallN os[k] = true then m else dn (· == [112]) wallN os m k) = F := by
  unfold dn at h
  rw [show os.getD k [] = os[k] from by simp [List.getD_eq_getElem?_getD, hk]] at h
  exact h
theorem dl_at {os : List (List UInt8)} {k m F : Nat} (hk : k < os.length) (h : dn (· == [108, 105]) listN os m (k + 1) = F) : (if (os[k] == [108, 105]) = true then k else if listN os[k] = true then m else dn (· == [108, 105]) listN os m k) = F := by
  unfold dn at h
  rw [show os.getD k [] = os[k] from by simp [List.getD_eq_getElem?_getD, hk]] at h
  exact h
def DownF (m : Nat) (f : Nat → Nat) (F : Nat) (i : Value) : Prop := (i = .int .i64 (-1) ∧ f 0 = F) ∨ ∃ k : Nat, k < m ∧ i = .int .i64 k ∧ f (k + 1) = F
theorem DownF.start {m : Nat} {f : Nat → Nat} {F : Nat} (k : Nat) {x : Int} (h : x = (k : Int) - 1) (hk : k ≤ m) (hf : f k = F) : DownF m f F (.int .i64 x) := by
  cases k with
  | zero => subst h; exact .inl ⟨rfl, hf⟩
  | succ k => subst h; exact .inr ⟨k, by omega, by rw [show ((k + 1 : Nat) : Int) - 1 = (k : Int) from by omega], hf⟩
set_option maxRecDepth 4000 in
set_option maxHeartbeats 40000000 in
theorem closesX_bl (nm : List UInt8) (hnm : nm = [112] ∨ nm = [104, 114] ∨ nm = [117, 108] ∨ nm = [111, 108] ∨ nm = [98, 108, 111, 99, 107, 113, 117, 111, 116, 101]) (os : List (List UInt8)) (o : Option Addr) (c : Nat) (w : World) (hL : Lies w (.slice o os.length c) os.length 1 (strCs os)) (hn : os.length ≤ 4000) :
    Calls Tryz.prog 177 #[.slice o os.length c, .string ⟨nm.toArray⟩] w fun e w' => e = .returned (.int .i64 (closedL os nm)) ∧ w' = w := by
  have hC1 : closedL os nm = dn (· == [112]) wallN os os.length os.length := closed_bl os nm (by rcases hnm with rfl | rfl | rfl | rfl | rfl <;> decide) (by rcases hnm with rfl | rfl | rfl | rfl | rfl <;> decide)
  rcases hnm with rfl | rfl | rfl | rfl | rfl
  all_goals
    obtain ⟨F, hF⟩ : ∃ F, dn (· == [112]) wallN os os.length os.length = F := ⟨_, rfl⟩
    have hC := hide (hC1.trans hF)
    clear hC1
    have HF := hide hF
    clear hF
    go_enter Tryz.func177, Tryz.ntmps177
    go_wp2_with fail
    go_loopw [5, 6] (fun n i wr => n = .int .i64 os.length ∧ DownF os.length (dn (· == [112]) wallN os os.length) F i ∧ wr = w) (fun _ i _ => (intOf i + 1).toNat)
    case atStart => exact ⟨rfl, DownF.start _ (by go_num) (Nat.le_refl _) HF.out, rfl⟩
    case round =>
      obtain ⟨rfl, hd, h9⟩ := hrel
      obtain rfl : w = wr := h9.symm
      rcases hd with ⟨rfl, h0⟩ | ⟨k, hk, rfl, h0⟩
      · have hs := hide h0
        have hf := hide (hC.out.trans (show F = os.length from hs.out.symm))
        (try clear hs)
        (try clear h0)
        clear hC
        go_wp2_with fail
        go_ret
        exact ⟨by rw [hf.out]; rfl, rfl⟩
      · have hs := hide (dp_at hk h0)
        obtain ⟨g1, x1, rfl, hc1⟩ := hL.addr (by omega)
        have q0 := hc1 _ _ (strCs_at os k hk)
        simp only [Nat.mul_one] at q0
        clear hc1 h0
        generalize os[k] = q at *
        cases h1 : (q == [112])
        · have p1 := (nameEq q _).trans h1
          cases u0 : (q == [117, 108])
          · have v0 := (nameEq q _).trans u0
            cases u1 : (q == [111, 108])
            · have v1 := (nameEq q _).trans u1
              cases u2 : (q == [108, 105])
              · have v2 := (nameEq q _).trans u2
                cases u3 : (q == [98, 108, 111, 99, 107, 113, 117, 111, 116, 101])
                · have v3 := (nameEq q _).trans u3
                  have h7 := hide (show dn (· == [112]) wallN os os.length k = F from by have := hs.out; simpa [wallN, listN, h1, u0, u1, u2, u3] using this)
                  clear hs
                  go_wp2_with fail
                  refine ⟨⟨rfl, DownF.start k (by go_num) (by omega) h7.out, trivial⟩, ?_⟩
                  simp [intOf]
                · have v3 := (nameEq q _).trans u3
                  have hf := hide (hC.out.trans (show F = os.length from by have := hs.out; simpa [wallN, listN, h1, u0, u1, u2, u3] using this.symm))
                  (try clear hs)
                  (try clear h0)
                  clear hC
                  go_wp2_with fail
                  go_ret
                  exact ⟨by rw [hf.out]; rfl, rfl⟩
              · have v2 := (nameEq q _).trans u2
                have hf := hide (hC.out.trans (show F = os.length from by have := hs.out; simpa [wallN, listN, h1, u0, u1, u2] using this.symm))
                (try clear hs)
                (try clear h0)
                clear hC
                go_wp2_with fail
                go_ret
                exact ⟨by rw [hf.out]; rfl, rfl⟩
            · have v1 := (nameEq q _).trans u1
              have hf := hide (hC.out.trans (show F = os.length from by have := hs.out; simpa [wallN, listN, h1, u0, u1] using this.symm))
              (try clear hs)
              (try clear h0)
              clear hC
              go_wp2_with fail
              go_ret
              exact ⟨by rw [hf.out]; rfl, rfl⟩
          · have v0 := (nameEq q _).trans u0
            have hf := hide (hC.out.trans (show F = os.length from by have := hs.out; simpa [wallN, listN, h1, u0] using this.symm))
            (try clear hs)
            (try clear h0)
            clear hC
            go_wp2_with fail
            go_ret
            exact ⟨by rw [hf.out]; rfl, rfl⟩
        · have p1 := (nameEq q _).trans h1
          have hf := hide (hC.out.trans (show F = k from by have := hs.out; simpa [h1] using this.symm))
          (try clear hs)
          (try clear h0)
          clear hC
          go_wp2_with fail
          go_ret
          exact ⟨by rw [hf.out]; rfl, rfl⟩
set_option maxRecDepth 4000 in
set_option maxHeartbeats 8000000 in
theorem closesX_li (os : List (List UInt8)) (o : Option Addr) (c : Nat) (w : World) (hL : Lies w (.slice o os.length c) os.length 1 (strCs os)) (hn : os.length ≤ 4000) :
    Calls Tryz.prog 177 #[.slice o os.length c, .string ⟨([108, 105] : List UInt8).toArray⟩] w fun e w' => e = .returned (.int .i64 (closedL os [108, 105])) ∧ w' = w := by
  obtain ⟨F, hF⟩ : ∃ F, dn (· == [112]) wallN os os.length os.length = F := ⟨_, rfl⟩
  obtain ⟨C, hC0⟩ : ∃ C, closedL os [108, 105] = C := ⟨_, rfl⟩
  have hCF := hide (show dn (· == [108, 105]) listN os F F = C from by rw [← hC0, closed_li, hF])
  have hC := hide hC0
  clear hC0
  have hFl : F ≤ os.length := by rw [← hF]; exact dn_le _ _ _ _ _ (Nat.le_refl _)
  have HF := hide hF
  clear hF
  go_enter Tryz.func177, Tryz.ntmps177
  go_upto_block 0 with fail
  go_cut [5] (fun v5 wx => v5 = .int .i64 F ∧ w = wx)
  case first =>
    go_wp2_with fail
    go_loopw [5, 6] (fun n i wr => n = .int .i64 os.length ∧ DownF os.length (dn (· == [112]) wallN os os.length) F i ∧ wr = w) (fun _ i _ => (intOf i + 1).toNat)
    case atStart => exact ⟨rfl, DownF.start _ (by go_num) (Nat.le_refl _) HF.out, rfl⟩
    case round =>
      obtain ⟨rfl, hd, h9⟩ := hrel
      obtain rfl : w = wr := h9.symm
      rcases hd with ⟨rfl, h0⟩ | ⟨k, hk, rfl, h0⟩
      · have hs := hide h0
        have hf := hide (show F = os.length from hs.out.symm)
        (try clear hs)
        (try clear h0)
        clear hC hCF
        go_wp2_with fail
        go_meet
        exact ⟨by rw [hf.out], rfl⟩
      · have hs := hide (dp_at hk h0)
        obtain ⟨g1, x1, rfl, hc1⟩ := hL.addr (by omega)
        have q0 := hc1 _ _ (strCs_at os k hk)
        simp only [Nat.mul_one] at q0
        clear hc1 h0
        generalize os[k] = q at *
        cases h1 : (q == [112])
        · have p1 := (nameEq q _).trans h1
          cases u0 : (q == [117, 108])
          · have v0 := (nameEq q _).trans u0
            cases u1 : (q == [111, 108])
            · have v1 := (nameEq q _).trans u1
              cases u2 : (q == [108, 105])
              · have v2 := (nameEq q _).trans u2
                cases u3 : (q == [98, 108, 111, 99, 107, 113, 117, 111, 116, 101])
                · have v3 := (nameEq q _).trans u3
                  have h7 := hide (show dn (· == [112]) wallN os os.length k = F from by have := hs.out; simpa [wallN, listN, h1, u0, u1, u2, u3] using this)
                  clear hs
                  go_wp2_with fail
                  refine ⟨⟨rfl, DownF.start k (by go_num) (by omega) h7.out, trivial⟩, ?_⟩
                  simp [intOf]
                · have v3 := (nameEq q _).trans u3
                  have hf := hide (show F = os.length from by have := hs.out; simpa [wallN, listN, h1, u0, u1, u2, u3] using this.symm)
                  (try clear hs)
                  (try clear h0)
                  clear hC hCF
                  go_wp2_with fail
                  go_meet
                  exact ⟨by rw [hf.out], rfl⟩
              · have v2 := (nameEq q _).trans u2
                have hf := hide (show F = os.length from by have := hs.out; simpa [wallN, listN, h1, u0, u1, u2] using this.symm)
                (try clear hs)
                (try clear h0)
                clear hC hCF
                go_wp2_with fail
                go_meet
                exact ⟨by rw [hf.out], rfl⟩
            · have v1 := (nameEq q _).trans u1
              have hf := hide (show F = os.length from by have := hs.out; simpa [wallN, listN, h1, u0, u1] using this.symm)
              (try clear hs)
              (try clear h0)
              clear hC hCF
              go_wp2_with fail
              go_meet
              exact ⟨by rw [hf.out], rfl⟩
          · have v0 := (nameEq q _).trans u0
            have hf := hide (show F = os.length from by have := hs.out; simpa [wallN, listN, h1, u0] using this.symm)
            (try clear hs)
            (try clear h0)
            clear hC hCF
            go_wp2_with fail
            go_meet
            exact ⟨by rw [hf.out], rfl⟩
        · have p1 := (nameEq q _).trans h1
          have hf := hide (show F = k from by have := hs.out; simpa [h1] using this.symm)
          (try clear hs)
          (try clear h0)
          clear hC hCF
          go_wp2_with fail
          go_meet
          exact ⟨by rw [hf.out], rfl⟩
  case rest =>
    obtain ⟨rfl, h9⟩ := hcut
    obtain rfl : w = wc := h9
    have hN := hCF
    clear HF hCF
    go_wp2_with fail
    go_loopw [7] (fun i wr => DownF F (dn (· == [108, 105]) listN os (F)) C i ∧ wr = w) (fun i _ => (intOf i + 1).toNat)
    case atStart => exact ⟨DownF.start (F) (by go_num) (Nat.le_refl _) hN.out, rfl⟩
    case round =>
      obtain ⟨hd, h9⟩ := hrel
      obtain rfl : w = wr := h9.symm
      rcases hd with ⟨rfl, h0⟩ | ⟨j, hj, rfl, h0⟩
      · have hf := hide (hC.out.trans (show C = F from h0.symm))
        clear h0 hN hC
        go_wp2_with fail
        go_ret
        exact ⟨by rw [hf.out]; rfl, rfl⟩
      · have hjn : j < os.length := by omega
        have hs := hide (dl_at hjn h0)
        obtain ⟨g2, x2, hg2, hc2⟩ := hL.addr (by omega)
        first | subst hg2 | (cases hg2)
        have r0 := hc2 _ _ (strCs_at os j hjn)
        simp only [Nat.mul_one] at r0
        clear hc2 h0
        generalize os[j] = q2 at *
        cases t1 : (q2 == [108, 105])
        · cases t2 : (q2 == [117, 108])
          · cases t3 : (q2 == [111, 108])
            all_goals have s1 := (nameEq q2 _).trans t1
            all_goals have s2 := (nameEq q2 _).trans t2
            all_goals have s3 := (nameEq q2 _).trans t3
            · have h7 := hide (show dn (· == [108, 105]) listN os (F) j = C from by have := hs.out; simpa [listN, t1, t2, t3] using this)
              clear hs
              go_wp2_with fail
              refine ⟨⟨DownF.start j (by go_num) (by omega) h7.out, trivial⟩, ?_⟩
              simp [intOf]
            · have hf := hide (hC.out.trans (show C = F from by have := hs.out; simpa [listN, t1, t2, t3] using this.symm))
              clear hs hN hC
              go_wp2_with fail
              go_ret
              exact ⟨by rw [hf.out]; rfl, rfl⟩
          · have s1 := (nameEq q2 _).trans t1
            have s2 := (nameEq q2 _).trans t2
            have hf := hide (hC.out.trans (show C = F from by have := hs.out; simpa [listN, t1, t2] using this.symm))
            clear hs hN hC
            go_wp2_with fail
            go_ret
            exact ⟨by rw [hf.out]; rfl, rfl⟩
        · have s1 := (nameEq q2 _).trans t1
          have hf := hide (hC.out.trans (show C = j from by have := hs.out; simpa [t1] using this.symm))
          clear hs hN hC
          go_wp2_with fail
          go_ret
          exact ⟨by rw [hf.out]; rfl, rfl⟩
set_option maxHeartbeats 1000000 in
theorem closesX_any (nm : List UInt8) (os : List (List UInt8)) (o : Option Addr) (c : Nat) (w : World) (hL : Lies w (.slice o os.length c) os.length 1 (strCs os)) (hn : os.length ≤ 4000) :
    Calls Tryz.prog 177 #[.slice o os.length c, .string ⟨nm.toArray⟩] w fun e w' => e = .returned (.int .i64 (closedL os nm)) ∧ w' = w := by
  by_cases h0 : nm = [112]
  · exact closesX_bl nm (by simp [h0]) os o c w hL hn
  by_cases h1 : nm = [104, 114]
  · exact closesX_bl nm (by simp [h1]) os o c w hL hn
  by_cases h2 : nm = [117, 108]
  · exact closesX_bl nm (by simp [h2]) os o c w hL hn
  by_cases h3 : nm = [111, 108]
  · exact closesX_bl nm (by simp [h3]) os o c w hL hn
  by_cases h4 : nm = [108, 105]
  · subst h4; exact closesX_li os o c w hL hn
  by_cases h5 : nm = [98, 108, 111, 99, 107, 113, 117, 111, 116, 101]
  · exact closesX_bl nm (by simp [h5]) os o c w hL hn
  have hf := hide (show closedL os nm = os.length from by
    unfold closedL
    rw [if_neg h4, if_neg]
    simp [blockN, wallN, listN, h0, h1, h2, h3, h4, h5])
  have b0 : (nm == [112]) = false := by simpa using h0
  have p0 := (nameEq nm [112]).trans b0
  have b1 : (nm == [104, 114]) = false := by simpa using h1
  have p1 := (nameEq nm [104, 114]).trans b1
  have b2 : (nm == [117, 108]) = false := by simpa using h2
  have p2 := (nameEq nm [117, 108]).trans b2
  have b3 : (nm == [111, 108]) = false := by simpa using h3
  have p3 := (nameEq nm [111, 108]).trans b3
  have b4 : (nm == [108, 105]) = false := by simpa using h4
  have p4 := (nameEq nm [108, 105]).trans b4
  have b5 : (nm == [98, 108, 111, 99, 107, 113, 117, 111, 116, 101]) = false := by simpa using h5
  have p5 := (nameEq nm [98, 108, 111, 99, 107, 113, 117, 111, 116, 101]).trans b5
  clear h0 h1 h2 h3 h4 h5
  go_enter Tryz.func177, Tryz.ntmps177
  go_wp2_with fail
  go_ret
  exact ⟨by rw [hf.out]; rfl, rfl⟩
def joinT (ns : List Nd) (t : List UInt8) : List Nd :=
  match ns.getLast? with
  | some n => if n.name = [] then ns.dropLast ++ [.mk n.name n.attrs (n.text ++ t) n.kids] else ns ++ [textN t]
  | none => ns ++ [textN t]
theorem joinT_el (ns : List Nd) (n : Nd) (t : List UInt8) (h : n.name ≠ []) : joinT (ns ++ [n]) t = ns ++ [n] ++ [textN t] := by simp [joinT, h]
theorem joinT_tx (ns : List Nd) (n : Nd) (t : List UInt8) (h : n.name = []) : joinT (ns ++ [n]) t = ns ++ [.mk n.name n.attrs (n.text ++ t) n.kids] := by simp [joinT, h]
theorem joinT_no (ns : List Nd) (t : List UInt8) (h : endsText ns = false) : joinT ns t = ns ++ [textN t] := by
  unfold joinT
  unfold endsText at h
  cases hl : ns.getLast? with
  | none => rfl
  | some n =>
    rw [hl] at h
    simp only
    rw [if_neg]
    intro h0
    simp [h0] at h
def lastI (os : List (List UInt8)) (n : List UInt8) : Nat := innerL (· == n) (fun _ => false) os
def bo (ts : List Tok) : Nat → Nat → List (List UInt8) → List Nd → List Nd × Nat × Nat
  | 0, k, os, acc => (acc, k, os.length)
  | f + 1, k, os, acc =>
    if h : k < ts.length then
      if ts[k].kind = 1 then bo ts f (k + 1) os (joinT acc ts[k].text)
      else if ts[k].kind = 3 then
        if lastI os ts[k].name < os.length then (acc, k + 1, lastI os ts[k].name) else bo ts f (k + 1) os acc
      else if closedL os ts[k].name < os.length then (acc, k, closedL os ts[k].name)
      else if os.length = 8 then bo ts f (k + 1) os acc
      else if emptyN ts[k].name = true then bo ts f (k + 1) os (acc ++ [.mk ts[k].name ts[k].attrs [] []])
      else if (bo ts f (k + 1) (os ++ [ts[k].name]) []).2.2 < os.length then
        (acc ++ [.mk ts[k].name ts[k].attrs [] (bo ts f (k + 1) (os ++ [ts[k].name]) []).1], (bo ts f (k + 1) (os ++ [ts[k].name]) []).2.1, (bo ts f (k + 1) (os ++ [ts[k].name]) []).2.2)
      else bo ts f (bo ts f (k + 1) (os ++ [ts[k].name]) []).2.1 os (acc ++ [.mk ts[k].name ts[k].attrs [] (bo ts f (k + 1) (os ++ [ts[k].name]) []).1])
    else (acc, k, os.length)
theorem bo_ge (ts : List Tok) : ∀ (f k : Nat) (os : List (List UInt8)) (acc : List Nd), k ≤ (bo ts f k os acc).2.1 ∧ (bo ts f k os acc).2.2 ≤ os.length ∧ (k ≤ ts.length → (bo ts f k os acc).2.1 ≤ ts.length)
  | 0, k, os, acc => ⟨Nat.le_refl _, Nat.le_refl _, fun h => h⟩
  | f + 1, k, os, acc => by
    unfold bo
    split
    · next h =>
      split
      · have := bo_ge ts f (k + 1) os (joinT acc ts[k].text); exact ⟨by omega, this.2.1, fun _ => this.2.2 (by omega)⟩
      · split
        · split
          · next h3 => exact ⟨by simp, by simpa using Nat.le_of_lt h3, fun _ => by simp only; omega⟩
          · have := bo_ge ts f (k + 1) os acc; exact ⟨by omega, this.2.1, fun _ => this.2.2 (by omega)⟩
        · split
          · next h3 => exact ⟨by simp, by simpa using Nat.le_of_lt h3, fun _ => by simp only; omega⟩
          · split
            · have := bo_ge ts f (k + 1) os acc; exact ⟨by omega, this.2.1, fun _ => this.2.2 (by omega)⟩
            · split
              · have := bo_ge ts f (k + 1) os (acc ++ [.mk ts[k].name ts[k].attrs [] []]); exact ⟨by omega, this.2.1, fun _ => this.2.2 (by omega)⟩
              · have h1 := bo_ge ts f (k + 1) (os ++ [ts[k].name]) []
                generalize bo ts f (k + 1) (os ++ [ts[k].name]) [] = r at *
                split
                · next h3 => exact ⟨by simp only; omega, by simp only; omega, fun _ => h1.2.2 (by omega)⟩
                · have h2 := bo_ge ts f r.2.1 os (acc ++ [.mk ts[k].name ts[k].attrs [] r.1])
                  exact ⟨by omega, h2.2.1, fun _ => h2.2.2 (h1.2.2 (by omega))⟩
    · exact ⟨by simp, by simp, fun h => by simpa using h⟩
theorem bo_fuel (ts : List Tok) : ∀ (f f' k : Nat) (os : List (List UInt8)) (acc : List Nd), ts.length - k < f → ts.length - k < f' → bo ts f k os acc = bo ts f' k os acc
  | 0, _, _, _, _, h, _ => by omega
  | _ + 1, 0, _, _, _, _, h => by omega
  | f + 1, f' + 1, k, os, acc, h, h' => by
    rw [bo, bo]
    split
    · next hk =>
      have e1 : ∀ os acc, bo ts f (k + 1) os acc = bo ts f' (k + 1) os acc := fun os acc => bo_fuel ts f f' (k + 1) os acc (by omega) (by omega)
      simp only [e1]
      have h1 := bo_ge ts f' (k + 1) (os ++ [ts[k].name]) []
      generalize bo ts f' (k + 1) (os ++ [ts[k].name]) [] = r at *
      rw [bo_fuel ts f f' r.2.1 os _ (by omega) (by omega)]
    · rfl
def finB (s : St) (us : List Tok) : List Nd := ((us.foldl St.step s).close (us.foldl St.step s).up.length).endText.cur.kids
theorem buildL_fin (ts : List Tok) : buildL ts = finB St.start ts := by
  unfold buildL finB St.closeFrom
  rw [Nat.add_sub_cancel]
theorem finB_pop (s : St) (h : s.up ≠ []) : finB s [] = finB s.pop [] := by
  unfold finB
  simp only [List.foldl_nil, pop_up]
  cases hu : s.up with
  | nil => exact absurd hu h
  | cons o r => rfl
theorem kids_text {s : St} (h : endsText s.cur.kids = false) (t : List UInt8) (ht : t ≠ []) : ({ s with text := s.text ++ t } : St).endText.cur.kids = joinT s.endText.cur.kids t := by
  unfold St.endText
  by_cases h0 : s.text = []
  · rw [if_pos h0, h0, List.nil_append, if_neg ht, joinT_no _ _ h]
    rfl
  · rw [if_neg h0, if_neg (by simp [h0])]
    simp only [Op.put]
    rw [joinT_tx _ _ _ (by simp [textN, Nd.name])]
    rfl
theorem close_zero (s : St) : s.close 0 = s := rfl
theorem arOf_end (s : St) : arOf (s.endText.cur :: s.up) = arOf (s.cur :: s.up) := by
  cases s.up with
  | nil => rfl
  | cons p r => simp only [arOf, endText_name]
theorem step_again {s : St} {t : Tok} (h : GoodS s) (h1 : t.kind ≠ 1) (h3 : t.kind = 2) : s.step t = (s.close (s.up.length - closedL (arOf (s.cur :: s.up)) t.name)).step t := by
  have hl := arOf_len (s.cur :: s.up)
  rw [List.length_cons, Nat.add_sub_cancel] at hl
  have hle := closed_le (arOf (s.cur :: s.up)) t.name
  have hd := closed_done _ t.name (Ch_calm _ h.1)
  have hcf : s.closeFrom (closedL s.names t.name) = s.close (s.up.length - closedL (arOf (s.cur :: s.up)) t.name) := by
    unfold St.closeFrom
    rw [St_names s h, closedL_root]
    congr 1
    omega
  have hg := good_close _ s h (Nat.sub_le s.up.length (closedL (arOf (s.cur :: s.up)) t.name))
  have hn := close_names h _ (Nat.sub_le s.up.length (closedL (arOf (s.cur :: s.up)) t.name))
  rw [show s.up.length - (s.up.length - closedL (arOf (s.cur :: s.up)) t.name) = closedL (arOf (s.cur :: s.up)) t.name from by omega] at hn
  unfold St.step
  rw [if_neg h1, if_pos h3, if_neg h1, if_pos h3]
  unfold St.openTag
  rw [hcf]
  rw [← hn] at hd
  have hlen := congrArg List.length hn
  rw [List.length_take] at hlen
  generalize s.close (s.up.length - closedL (arOf (s.cur :: s.up)) t.name) = u at *
  have hl2 := arOf_len (u.cur :: u.up)
  rw [List.length_cons, Nat.add_sub_cancel] at hl2
  have hcu : u.closeFrom (closedL u.names t.name) = u := by
    unfold St.closeFrom
    rw [St_names u hg, closedL_root, show u.up.length + 1 - (closedL (arOf (u.cur :: u.up)) t.name + 1) = 0 from by omega]
    rfl
  rw [hcu]
theorem Ch_len8 : ∀ c : List Op, Ch c → (arOf c).length ≤ 8
  | [], _ => by simp [arOf]
  | [_], _ => by simp [arOf]
  | o :: p :: r, h => by
    simp only [Ch] at h
    rw [arOf, List.length_append, List.length_singleton]
    omega
theorem bo_sim (ts : List Tok) (hts : ∀ t ∈ ts, chkT t = 0) : ∀ (f k : Nat) (s : St) (os : List (List UInt8)) (acc : List Nd), ts.length - k < f → k ≤ ts.length → GoodS s → arOf (s.cur :: s.up) = os → s.endText.cur.kids = acc →
    ∃ u : St, GoodS u ∧ u.up = s.up ∧ u.cur.name = s.cur.name ∧ u.cur.attrs = s.cur.attrs ∧ u.endText.cur.kids = (bo ts f k os acc).1 ∧ ((bo ts f k os acc).2.2 = os.length → (bo ts f k os acc).2.1 = ts.length) ∧ finB s (ts.drop k) = finB (u.close (os.length - (bo ts f k os acc).2.2)) (ts.drop (bo ts f k os acc).2.1)
  | 0, _, _, _, _, h, _, _, _, _ => by omega
  | f + 1, k, s, os, acc, hf, hk, hg, ho, ha => by
    have hl := arOf_len (s.cur :: s.up)
    rw [List.length_cons, Nat.add_sub_cancel, ho] at hl
    rw [bo]
    split
    · next hlt =>
      have ht := hts _ (List.getElem_mem hlt)
      have hdr : ts.drop k = ts[k] :: ts.drop (k + 1) := List.drop_eq_getElem_cons hlt
      have hgs := good_step hg ht
      have hfs : finB s (ts.drop k) = finB (s.step ts[k]) (ts.drop (k + 1)) := by rw [hdr]; rfl
      generalize ts[k] = t at *
      split
      · next h1 =>
        have hst : s.step t = { s with text := s.text ++ t.text } := by unfold St.step; rw [if_pos h1]
        have htx : t.text ≠ [] := by
          intro h0
          unfold chkT at ht
          rw [if_pos h1] at ht
          simp [h0] at ht
        rw [hst] at hfs hgs
        obtain ⟨u, q1, q2, q3, q4, q5, q6, q7⟩ := bo_sim ts hts f (k + 1) { s with text := s.text ++ t.text } os (joinT acc t.text) (by omega) (by omega) hgs ho (by rw [kids_text hg.2 _ htx, ha])
        exact ⟨u, q1, q2, q3, q4, q5, q6, hfs.trans q7⟩
      · next h1 =>
        split
        · next h3 =>
          have hst : s.step t = s.close (os.length - lastI os t.name) := by
            unfold St.step
            rw [if_neg h1, if_neg (by omega)]
            unfold St.closeTag St.closeFrom
            have hn : t.name ≠ [] := by
              unfold chkT at ht
              rw [if_neg h1, if_neg (by omega), if_pos h3] at ht
              split at ht
              · simp at ht
              · next hc =>
                simp only [not_or, Bool.not_eq_false] at hc
                exact name_some hc.2.2
            rw [St_names s hg, ho, innerL_root _ _ (by simpa using hn.symm)]
            congr 1
            unfold lastI
            omega
          split
          · next h4 => exact ⟨s, hg, rfl, rfl, rfl, ha, fun h => by simp only at h; omega, by rw [hfs, hst]⟩
          · next h4 =>
            have h5 : os.length - lastI os t.name = 0 := by omega
            rw [h5] at hst
            rw [hst] at hfs
            obtain ⟨u, q1, q2, q3, q4, q5, q6, q7⟩ := bo_sim ts hts f (k + 1) s os acc (by omega) (by omega) hg ho ha
            exact ⟨u, q1, q2, q3, q4, q5, q6, hfs.trans q7⟩
        · next h3 =>
          have h2 : t.kind = 2 := by
            unfold chkT at ht
            rw [if_neg h1] at ht
            split at ht
            · next h => exact h
            · simp at ht
          split
          · next h4 =>
            refine ⟨s, hg, rfl, rfl, rfl, ha, fun h => by simp only at h; omega, ?_⟩
            rw [hfs, step_again hg h1 h2, ho, ← hl]
            show _ = finB (s.close (os.length - closedL os t.name)) (ts.drop k)
            rw [hdr]
            rfl
          · next h4 =>
            have hcl : closedL os t.name = os.length := by have := closed_le os t.name; omega
            have hst : s.step t = if 8 < s.up.length + 1 then s else s.openIn t := by
              unfold St.step
              rw [if_neg h1, if_pos h2]
              unfold St.openTag
              have hcf : s.closeFrom (closedL s.names t.name) = s := by
                unfold St.closeFrom
                rw [St_names s hg, closedL_root, ho, hcl, show s.up.length + 1 - (os.length + 1) = 0 from by omega]
                rfl
              rw [hcf]
            have h8 : os.length ≤ 8 := by rw [← ho]; exact Ch_len8 _ hg.1
            split
            · next h5 =>
              rw [if_pos (by omega)] at hst
              rw [hst] at hfs
              obtain ⟨u, q1, q2, q3, q4, q5, q6, q7⟩ := bo_sim ts hts f (k + 1) s os acc (by omega) (by omega) hg ho ha
              exact ⟨u, q1, q2, q3, q4, q5, q6, hfs.trans q7⟩
            · next h5 =>
              rw [if_neg (by omega)] at hst
              split
              · next h6 =>
                have hst2 : s.step t = s.endText.put (.mk t.name t.attrs [] []) := by rw [hst]; unfold St.openIn; rw [if_pos h6]
                rw [hst2] at hfs hgs
                obtain ⟨u, q1, q2, q3, q4, q5, q6, q7⟩ := bo_sim ts hts f (k + 1) (s.endText.put (.mk t.name t.attrs [] [])) os (acc ++ [.mk t.name t.attrs [] []]) (by omega) (by omega) hgs
                  (by
                    have := arOf_end s
                    rw [ho] at this
                    rw [← this]
                    show arOf (s.endText.cur.put _ :: s.endText.up) = _
                    rw [endText_up]
                    cases s.up <;> rfl)
                  (by
                    have e : (s.endText.put (.mk t.name t.attrs [] [])).text = [] := by
                      unfold St.put St.endText
                      split
                      · next h => exact h
                      · rfl
                    unfold St.endText at e ⊢
                    rw [if_pos e]
                    rw [← ha]
                    unfold St.endText
                    rfl)
                have e1 : s.endText.cur.attrs = s.cur.attrs := by unfold St.endText; split <;> rfl
                exact ⟨u, q1, by rw [q2]; exact endText_up s, by rw [q3]; exact endText_name s, by rw [q4]; exact e1, q5, q6, hfs.trans q7⟩
              · next h6 =>
                have hst2 : s.step t = ⟨s.endText.cur :: s.up, ⟨t.name, t.attrs, []⟩, []⟩ := by rw [hst]; unfold St.openIn; rw [if_neg h6]
                rw [hst2] at hfs hgs
                have hge := bo_ge ts f (k + 1) (os ++ [t.name]) []
                obtain ⟨u, q1, q2, q3, q4, q5, q6, q7⟩ := bo_sim ts hts f (k + 1) ⟨s.endText.cur :: s.up, ⟨t.name, t.attrs, []⟩, []⟩ (os ++ [t.name]) [] (by omega) (by omega) hgs
                  (by rw [arOf, arOf_end, ho]) rfl
                rw [List.length_append, List.length_singleton] at q6 q7 hge
                generalize bo ts f (k + 1) (os ++ [t.name]) [] = r at *
                have hpop : u.pop = ⟨s.up, s.endText.cur.put (.mk t.name t.attrs [] r.1), []⟩ := by
                  unfold St.pop
                  rw [q2]
                  simp only
                  have e0 : u.endText.cur.attrs = u.cur.attrs := by unfold St.endText; split <;> rfl
                  rw [Op.nd, endText_name, q3, e0, q4, q5]
                have hgp := good_pop q1 (by rw [q2]; simp)
                have e1 : s.endText.cur.attrs = s.cur.attrs := by unfold St.endText; split <;> rfl
                have hpk : u.pop.endText.cur.kids = acc ++ [.mk t.name t.attrs [] r.1] := by
                  rw [hpop, ← ha]
                  rfl
                split
                · next h7 =>
                  refine ⟨u.pop, hgp, by rw [hpop], by rw [hpop]; exact endText_name s, by rw [hpop]; exact e1, hpk, fun h => by simp only at h; omega, ?_⟩
                  rw [hfs, q7, show os.length + 1 - r.2.2 = (os.length - r.2.2) + 1 from by omega]
                  rfl
                · next h7 =>
                  have har : arOf (u.pop.cur :: u.pop.up) = os := by
                    rw [hpop]
                    have := arOf_end s
                    rw [ho] at this
                    rw [← this]
                    cases s.up <;> rfl
                  have hfu : finB s (ts.drop k) = finB u.pop (ts.drop r.2.1) := by
                    rw [hfs, q7]
                    rcases Nat.lt_or_ge os.length r.2.2 with h9 | h9
                    · have h10 : r.2.2 = os.length + 1 := by omega
                      rw [q6 h10, h10, Nat.sub_self, List.drop_length]
                      exact finB_pop u (by rw [q2]; simp)
                    · rw [show os.length + 1 - r.2.2 = 1 from by omega]
                      rfl
                  obtain ⟨v, p1, p2, p3, p4, p5, p6, p7⟩ := bo_sim ts hts f r.2.1 u.pop os (acc ++ [.mk t.name t.attrs [] r.1]) (by omega) (hge.2.2 (by omega)) hgp har hpk
                  exact ⟨v, p1, by rw [p2, hpop], by rw [p3, hpop]; exact endText_name s, by rw [p4, hpop]; exact e1, p5, p6, hfu.trans p7⟩
    · next hlt =>
      have : k = ts.length := by omega
      exact ⟨s, hg, rfl, rfl, rfl, ha, fun _ => this, by simp only [Nat.sub_self, close_zero]⟩
theorem bo_build (ts : List Tok) (hts : ∀ t ∈ ts, chkT t = 0) (f : Nat) (hf : ts.length < f) : (bo ts f 0 [] []).1 = buildL ts := by
  obtain ⟨u, q1, q2, q3, q4, q5, q6, q7⟩ := bo_sim ts hts f 0 St.start [] [] (by omega) (Nat.zero_le _) good_start rfl rfl
  have h2 := (bo_ge ts f 0 [] []).2.1
  have h3 : (bo ts f 0 [] []).2.2 = ([] : List (List UInt8)).length := by simpa using h2
  rw [q6 h3, h3, List.drop_length, List.drop_zero, Nat.sub_self] at q7
  rw [buildL_fin, q7, ← q5]
  unfold finB
  simp only [List.foldl_nil, St.close]
  rw [q2]
  rfl
def JoinedX (w : World) (B : Nat) (ov : Value) (l : List Pn) (M : Nat) (tx : List UInt8) (e : Ending) (w' : World) : Prop :=
  ∃ o' c' l', e = .returned (.slice o' l'.length c') ∧ OutT w' B (.slice o' l'.length c') l' ∧ l'.map Pn.nd = joinT (l.map Pn.nd) tx ∧ l'.length ≤ l.length + 1 ∧ (∀ q ∈ l', q.nd.text.length ≤ M + tx.length) ∧
    ((Value.slice o' l'.length c').ownBlock = ov.ownBlock ∨ ∃ g, (Value.slice o' l'.length c').ownBlock = some g ∧ w.heap.size ≤ g) ∧ Keeps ov.ownBlock.toList w w'
theorem joinedX_one {w w' : World} {B : Nat} {ov : Value} {l : List Pn} {M : Nat} {tx : List UInt8} {e : Ending} (hG : joinT (l.map Pn.nd) tx = l.map Pn.nd ++ [textN tx]) (hM : ∀ q ∈ l, q.nd.text.length ≤ M) (h : Laid1 w B ov l tx e w') : JoinedX w B ov l M tx e w' := by
  obtain ⟨v', rfl, hO, hw, hk⟩ := h
  obtain ⟨o', c', rfl⟩ := row_form hO.row
  refine ⟨o', c', l ++ [txP tx], rfl, hO, ?_, by simp, fun q hq => ?_, hw, hk⟩
  · rw [hG, List.map_append]; rfl
  · rcases List.mem_append.1 hq with hq | hq
    · have := hM q hq; omega
    · simp at hq; subst hq; simp [txP, Nd.text]
theorem joinTextX_any (B : Nat) (c : Nat) (o : Option Addr) (l : List Pn) (M : Nat) (tx : List UInt8) (w : World) (h : OutT w B (.slice o l.length c) l) (hM : ∀ q ∈ l, q.nd.text.length ≤ M) (hll : l.length ≤ 1000000) (hB : B ≤ w.heap.size) (hqt : M + tx.length ≤ 1000000000) :
    Calls Tryz.prog 176 #[.slice o l.length c, txV tx] w fun e w' => JoinedX w B (.slice o l.length c) l M tx e w' := by
  rcases List.eq_nil_or_concat l with rfl | ⟨l0, q, rfl⟩
  · exact (joinText_nil B c o tx w h hB).mono fun e w' h9 => joinedX_one rfl hM h9
  · rw [List.concat_eq_append] at *
    have e1 : (l0 ++ [q]).length = l0.length + 1 := by simp
    rw [e1] at h ⊢
    by_cases hq : q.nd.name = []
    · refine (joinText_tx B c o l0 q tx w h hq (by simp at hll; omega) hB (by have := hM q (by simp); omega)).mono ?_
      rintro e w' ⟨v', g, rfl, hO, hw, hge, hk⟩
      obtain ⟨o', c', rfl⟩ := row_form hO.row
      refine ⟨o', c', l0 ++ [txQ q tx], rfl, hO, ?_, by simp, fun p hp => ?_, .inr ⟨g, hw, hge⟩, hk.to (by simp)⟩
      · rw [List.map_append, List.map_append]
        exact (joinT_tx _ _ _ hq).symm
      · rcases List.mem_append.1 hp with hp | hp
        · have := hM p (by simp [hp]); omega
        · simp at hp; subst hp
          have := hM q (by simp)
          simp [txQ, Nd.text] at this ⊢
          omega
    · exact (joinText_el B c o l0 q tx w h hq (by simp at hll; omega) hB).mono fun e w' h9 => by
        have := joinedX_one (M := M) (tx := tx) (by rw [List.map_append]; exact joinT_el _ _ _ hq) hM h9
        simpa using this
theorem bo_text {ts : List Tok} {m k : Nat} {os : List (List UInt8)} {acc : List Nd} (hk : k < ts.length) (hm : ts.length - k ≤ m) (h1 : ts[k].kind = 1) : bo ts (m + 1) k os acc = bo ts (m + 1) (k + 1) os (joinT acc ts[k].text) := by
  rw [bo, dif_pos hk, if_pos h1]; exact bo_fuel ts _ _ _ _ _ (by omega) (by omega)
theorem bo_close {ts : List Tok} {m k : Nat} {os : List (List UInt8)} {acc : List Nd} (hk : k < ts.length) (h3 : ts[k].kind = 3) (hl : lastI os ts[k].name < os.length) : bo ts (m + 1) k os acc = (acc, k + 1, lastI os ts[k].name) := by
  rw [bo, dif_pos hk, if_neg (by omega), if_pos h3, if_pos hl]
theorem bo_close0 {ts : List Tok} {m k : Nat} {os : List (List UInt8)} {acc : List Nd} (hk : k < ts.length) (hm : ts.length - k ≤ m) (h3 : ts[k].kind = 3) (hl : ¬ lastI os ts[k].name < os.length) : bo ts (m + 1) k os acc = bo ts (m + 1) (k + 1) os acc := by
  rw [bo, dif_pos hk, if_neg (by omega), if_pos h3, if_neg hl]; exact bo_fuel ts _ _ _ _ _ (by omega) (by omega)
theorem bo_stay {ts : List Tok} {m k : Nat} {os : List (List UInt8)} {acc : List Nd} (hk : k < ts.length) (h1 : ts[k].kind ≠ 1) (h3 : ts[k].kind ≠ 3) (hl : closedL os ts[k].name < os.length) : bo ts (m + 1) k os acc = (acc, k, closedL os ts[k].name) := by
  rw [bo, dif_pos hk, if_neg h1, if_neg h3, if_pos hl]
theorem bo_deep {ts : List Tok} {m k : Nat} {os : List (List UInt8)} {acc : List Nd} (hk : k < ts.length) (hm : ts.length - k ≤ m) (h1 : ts[k].kind ≠ 1) (h3 : ts[k].kind ≠ 3) (hl : ¬ closedL os ts[k].name < os.length) (h8 : os.length = 8) : bo ts (m + 1) k os acc = bo ts (m + 1) (k + 1) os acc := by
  rw [bo, dif_pos hk, if_neg h1, if_neg h3, if_neg hl, if_pos h8]; exact bo_fuel ts _ _ _ _ _ (by omega) (by omega)
theorem bo_empty {ts : List Tok} {m k : Nat} {os : List (List UInt8)} {acc : List Nd} (hk : k < ts.length) (hm : ts.length - k ≤ m) (h1 : ts[k].kind ≠ 1) (h3 : ts[k].kind ≠ 3) (hl : ¬ closedL os ts[k].name < os.length) (h8 : os.length ≠ 8) (he : emptyN ts[k].name = true) : bo ts (m + 1) k os acc = bo ts (m + 1) (k + 1) os (acc ++ [.mk ts[k].name ts[k].attrs [] []]) := by
  rw [bo, dif_pos hk, if_neg h1, if_neg h3, if_neg hl, if_neg h8, if_pos he]; exact bo_fuel ts _ _ _ _ _ (by omega) (by omega)
theorem bo_el {ts : List Tok} {m k : Nat} {os : List (List UInt8)} {acc : List Nd} (hk : k < ts.length) (hm : ts.length - k ≤ m) (h1 : ts[k].kind ≠ 1) (h3 : ts[k].kind ≠ 3) (hl : ¬ closedL os ts[k].name < os.length) (h8 : os.length ≠ 8) (he : emptyN ts[k].name = false) {r : List Nd × Nat × Nat} (hr : bo ts m (k + 1) (os ++ [ts[k].name]) [] = r) :
    (r.2.2 < os.length → bo ts (m + 1) k os acc = (acc ++ [.mk ts[k].name ts[k].attrs [] r.1], r.2.1, r.2.2)) ∧
    (¬ r.2.2 < os.length → bo ts (m + 1) k os acc = bo ts (m + 1) r.2.1 os (acc ++ [.mk ts[k].name ts[k].attrs [] r.1])) ∧ k + 1 ≤ r.2.1 ∧ r.2.1 ≤ ts.length ∧ r.2.2 ≤ os.length + 1 := by
  have hge := bo_ge ts m (k + 1) (os ++ [ts[k].name]) []
  rw [hr, List.length_append, List.length_singleton] at hge
  rw [bo, dif_pos hk, if_neg h1, if_neg h3, if_neg hl, if_neg h8, if_neg (by rw [he]; decide), hr]
  refine ⟨fun h => by rw [if_pos h], fun h => ?_, hge.1, hge.2.2 (by omega), hge.2.1⟩
  rw [if_neg h]
  exact bo_fuel ts _ _ _ _ _ (by omega) (by omega)
theorem bo_end {ts : List Tok} {m k : Nat} {os : List (List UInt8)} {acc : List Nd} (hk : ¬ k < ts.length) : bo ts (m + 1) k os acc = (acc, k, os.length) := by
  rw [bo, dif_neg hk]
theorem run_append_zeroX {P : Program} (w : World) (t ty e : TypeId) (i : TypeInfo) (ht : P.underlying t = some (.slice e)) (hi : P.info? e = some i) (g n cap : Nat) (hn : n ≤ cap) (a : Option Addr) (c : Nat) :
    (Builtin.append_ #[t, t] ty #[.slice (some ⟨g, 0, none⟩) n cap, .slice a 0 c]).run P w = .ok (.slice (some ⟨g, 0, none⟩) n cap) w := by
  cases a <;> simp [Builtin.append_, run_underlying ht, sizeOf, typeInfo, hi, Builtin.lenOf, Builtin.firstCells, loadCells, loadCellsFrom, hn, storeCells]
theorem run_append_any {P : Program} (w : World) (base : Nat) (t ty e : TypeId) (i : TypeInfo) (z : Value) (size bytes : Nat) (ht : P.underlying t = some (.slice e)) (hi : P.info? e = some i) (hz : i.zero = some z)
    (hsize : i.size = size) (hby : i.bytes = bytes) (hzs : z.cells.size = size) (hsz : 0 < size)
    (v : Value) (n : Nat) (xs : List Value) (hown : w.ownsRow base e size v n xs)
    (va : Value) (m : Nat) (ys : List Value) (hl : Lies w va m size ys) (h1 : ∀ u ∈ ys, u.oneCell' = true)
    (h63 : n + m ≤ maxLen) (hbytes : (n + m) * bytes ≤ 140737488355328) (hbase : base ≤ w.heap.size) :
    ∃ v' w', (Builtin.append_ #[t, t] ty #[v, va]).run P w = .ok v' w' ∧ w'.ownsRow base e size v' (n + m) (xs ++ ys) ∧ w.grownBy w' v.ownBlock ∧ (v'.ownBlock = v.ownBlock ∨ v'.ownBlock = some w.heap.size) := by
  obtain ⟨ao, ac, rfl, _, _⟩ := hl.form
  rcases Nat.eq_zero_or_pos m with h0 | h0
  · subst h0
    have hy : ys = [] := List.eq_nil_of_length_eq_zero (by have := hl.1; omega)
    subst hy
    have hr : (Builtin.append_ #[t, t] ty #[v, .slice ao 0 ac]).run P w = .ok v w := by
      rcases hown.2 with ⟨rfl, rfl⟩ | ⟨g, cap, cur, rfl, _, _, hn, _⟩
      · exact run_append_empty w t ty e i ht hi ao ac
      · exact run_append_zeroX w t ty e i ht hi g n cap hn ao ac
    exact ⟨v, w, hr, by rw [Nat.add_zero, List.append_nil]; exact hown, ⟨rfl, rfl, rfl, Nat.le_refl _, fun _ _ _ => rfl⟩, .inl rfl⟩
  · obtain ⟨g, off, rfl, hc⟩ := hl.addr h0
    obtain ⟨v', w', hr, h2, h3, _, h5⟩ := run_append_own_at (P := P) w base t ty e i z size bytes ht hi hz hsize hby hzs hsz v n xs hown ⟨g, off, none⟩ m ac ys hl.1 (fun j u hj => by rw [Addr.add_lit]; exact hc j u hj) h1 h63 hbytes hbase
    exact ⟨v', w', hr, h2, h3, h5⟩
theorem step_append_any {P : Program} {ops : Array Oper} {o : Oper} {a : Act} {w : World} {K : Act → World → Prop} {Q : Exit → Act → World → Prop} {E : Prop} (hg : o.guard = none) (s x : Operand) (t : TypeId)
    (ho : o.op = .call { callee := .builtin .append, args := #[s, x], argTypes := #[t, t] })
    (base : Nat) (e : TypeId) (i : TypeInfo) (z : Value) (size bytes : Nat) (ht : P.underlying t = some (.slice e)) (hi : P.info? e = some i) (hz : i.zero = some z)
    (hsize : i.size = size) (hby : i.bytes = bytes) (hzs : z.cells.size = size) (hsz : 0 < size)
    (v : Value) (n : Nat) (xs : List Value) (hs : a.eval s = v) (hown : w.ownsRow base e size v n xs)
    (va : Value) (m : Nat) (ys : List Value) (hx : a.eval x = va) (hl : Lies w va m size ys) (h1 : ∀ u ∈ ys, u.oneCell' = true)
    (h63 : n + m ≤ maxLen) (hbytes : (n + m) * bytes ≤ 140737488355328) (hbase : base ≤ w.heap.size)
    (h : ∀ v' w', w'.ownsRow base e size v' (n + m) (xs ++ ys) → w.grownBy w' v.ownBlock → (v'.ownBlock = v.ownBlock ∨ v'.ownBlock = some w.heap.size) → K (a.put o.dst v') w') :
    if Region.wanted o (yielded ops a.tmps) = true then Oper.wp P o a w K Q else E := by
  refine step_is hg ?_
  obtain ⟨v', w', hr, h2, h3, h5⟩ := run_append_any (P := P) w base t o.type e i z size bytes ht hi hz hsize hby hzs hsz v n xs hown va m ys hl h1 h63 hbytes hbase
  unfold Oper.wp execOp
  simp only [ho, resolve, invoke, builtin, Sem.run_bind, Sem.run_pure, Result.andThen_ok, List.map_toArray, List.map_cons, List.map_nil, hs, hx, hr]
  exact h v' w' h2 h3 h5
end Go.Proofs.YtlcljanibjdejaaGreat
