/- An attribute as a function: attrL; a set of names: IsSet. -/
import Derived.Test.YtngojdajamgababGreatAttr
import Derived.Maps.OwnSet
import Derived.Deep.LoopGhost
namespace Go.Proofs.YtngojdajamgababGreat
open Go.RowKit Go.Maps

abbrev Pair := List UInt8 × List UInt8

/-- The attribute that stands at the head, and how many bytes are passed. -/
def attrL (l : List UInt8) : Option (Pair × Nat) :=
  match l with
  | [] => none
  | c :: r =>
    match l.drop (1 + (r.takeWhile attrN).length + ((l.drop (1 + (r.takeWhile attrN).length)).takeWhile whiteB).length) with
    | [] => none
    | d :: q => if d = 61 then
        match valL (q.drop (q.takeWhile whiteB).length) with
        | none => none
        | some (v, m) => some ((lowerL (c :: r.takeWhile attrN), (takeL v).1), 1 + (r.takeWhile attrN).length + ((l.drop (1 + (r.takeWhile attrN).length)).takeWhile whiteB).length + 1 + (q.takeWhile whiteB).length + m)
      else some ((lowerL (c :: r.takeWhile attrN), []), 1 + (r.takeWhile attrN).length + ((l.drop (1 + (r.takeWhile attrN).length)).takeWhile whiteB).length)

theorem drop_drop' (l : List UInt8) (a b : Nat) : (l.drop a).drop b = l.drop (a + b) := List.drop_drop ..

theorem attrL_cons (c : UInt8) (r L W1 : List UInt8) (hL : r.takeWhile attrN = L) (hW1 : ((c :: r).drop (1 + L.length)).takeWhile whiteB = W1) :
    attrL (c :: r) = match (c :: r).drop (1 + L.length + W1.length) with
    | [] => none
    | d :: q => if d = 61 then
        match valL (q.drop (q.takeWhile whiteB).length) with
        | none => none
        | some (v, m) => some ((lowerL (c :: L), (takeL v).1), 1 + L.length + W1.length + 1 + (q.takeWhile whiteB).length + m)
      else some ((lowerL (c :: L), []), 1 + L.length + W1.length) := by
  subst hL
  subst hW1
  rfl

theorem attr_any (r b : Nat) (rawv outv : Value) (s : ByteArray) (k : Nat) (w : World) (hs : s.size ≤ 3000) (hR : IsReader w r b rawv outv) (hT : IsText w b s k) (hlt : k < s.size) :
    Calls Tryz.prog 103 #[.pointer (some ⟨r, 0, none⟩)] w fun e w' =>
      ((∃ n v m, attrL (s.data.toList.drop k) = some ((n, v), m) ∧ e = .returned (.agg #[.string ⟨n.toArray⟩, .string ⟨v.toArray⟩]) ∧ IsText w' b s (k + m)) ∨
       (attrL (s.data.toList.drop k) = none ∧ e = .panicked gave ∧ ∃ j, IsText w' b s j)) ∧ Keeps [b] w w' := by
  have hl := len_size s
  refine (attr_try r b rawv outv s k w hs hR hT hlt _ rfl _ rfl _ rfl _ rfl _ rfl).mono fun e w' h => ⟨?_, h.2⟩
  generalize hL : (s.data.toList.drop (k + 1)).takeWhile attrN = L at h
  generalize hW1 : (s.data.toList.drop (k + 1 + L.length)).takeWhile whiteB = W1 at h
  have e0 : attrL (s.data.toList.drop k) = match s.data.toList.drop (k + (1 + L.length + W1.length)) with
    | [] => none
    | d :: q => if d = 61 then
        match valL (q.drop (q.takeWhile whiteB).length) with
        | none => none
        | some (v, m) => some ((lowerL (byteAt s k :: L), (takeL v).1), 1 + L.length + W1.length + 1 + (q.takeWhile whiteB).length + m)
      else some ((lowerL (byteAt s k :: L), []), 1 + L.length + W1.length) := by
    rw [← drop_drop', drop_byteAt s k hlt]
    refine attrL_cons _ _ L W1 hL ?_
    rw [← drop_byteAt s k hlt, drop_drop', ← Nat.add_assoc]
    exact hW1
  rw [e0]
  have hk2 : k + 1 + L.length + W1.length = k + (1 + L.length + W1.length) := by omega
  rcases h.1 with ⟨h1, he, hT'⟩ | ⟨h1, h2, he, hT'⟩ | ⟨h1, h2, h3, he, hT'⟩ | ⟨h1, h2, v, m, h3, he, hT'⟩
  · exact .inr ⟨by rw [List.drop_eq_nil_of_le (by omega)], he, hT'⟩
  · refine .inl ⟨_, _, _, ?_, he, hT'.at hk2⟩
    rw [← hk2, drop_byteAt s _ h1]
    simp only [if_neg h2]
  · refine .inr ⟨?_, he, hT'⟩
    rw [← hk2, drop_byteAt s _ h1]
    simp only [if_pos h2]
    rw [drop_drop', h3]
  · refine .inl ⟨_, _, 1 + L.length + W1.length + 1 + ((s.data.toList.drop (k + 1 + L.length + W1.length + 1)).takeWhile whiteB).length + m, ?_, he, hT'.at ?_⟩
    · rw [← hk2, drop_byteAt s _ h1]
      simp only [if_pos h2]
      rw [drop_drop', h3]
    · omega

theorem attrL_pos {l : List UInt8} {p : Pair} {m : Nat} (h : attrL l = some (p, m)) : 1 ≤ m := by
  unfold attrL at h
  split at h
  · simp at h
  · split at h
    · simp at h
    · split at h
      · split at h
        · simp at h
        · simp only [Option.some.injEq, Prod.mk.injEq] at h
          omega
      · simp only [Option.some.injEq, Prod.mk.injEq] at h
        omega

theorem valL_len {l v : List UInt8} {m : Nat} (h : valL l = some (v, m)) : m ≤ l.length := by
  unfold valL at h
  split at h
  · simp at h
  · rename_i c r
    split at h
    · split at h
      · simp only [Option.some.injEq, Prod.mk.injEq] at h
        simp; omega
      · simp at h
    · simp only [Option.some.injEq, Prod.mk.injEq] at h
      rw [← h.2]
      exact (List.takeWhile_sublist _).length_le

theorem attrL_len {l : List UInt8} {p : Pair} {m : Nat} (h : attrL l = some (p, m)) : m ≤ l.length ∧ p.1.length ≤ l.length := by
  unfold attrL at h
  split at h
  · simp at h
  · rename_i c r
    have h1 := (List.takeWhile_sublist (l := r) (p := attrN)).length_le
    generalize r.takeWhile attrN = L at *
    generalize ((c :: r).drop (1 + L.length)).takeWhile whiteB = W1 at *
    split at h
    · simp at h
    · rename_i d q hd
      have h2 := congrArg List.length hd
      simp only [List.length_drop, List.length_cons] at h2
      have h3 := (List.takeWhile_sublist (l := q) (p := whiteB)).length_le
      split at h
      · split at h
        · simp at h
        · rename_i v m' hv
          have h4 := valL_len hv
          rw [List.length_drop] at h4
          simp only [Option.some.injEq, Prod.mk.injEq] at h
          rw [← h.1]
          simp [lowerL]; omega
      · simp only [Option.some.injEq, Prod.mk.injEq] at h
        rw [← h.1]
        simp [lowerL]; omega

/-- Attributes from a place on, up to the > of their tag. -/
def attrsAt (l : List UInt8) : Nat → Nat → List Pair → Option (List Pair × Nat)
  | 0, _, _ => none
  | f + 1, k, acc =>
    match l.drop (k + ((l.drop k).takeWhile skipB).length) with
    | [] => none
    | d :: q => if d = 62 then some (acc, k + ((l.drop k).takeWhile skipB).length) else
      match attrL (d :: q) with
      | none => none
      | some (p, m) => attrsAt l f (k + ((l.drop k).takeWhile skipB).length + m) (if p.1 ∈ acc.map (·.1) ∨ isNameL p.1 = false then acc else acc ++ [p])

/-! ### A set of names -/

theorem key9 : Keyed Tryz.prog 9 := string_keyed Tryz.underlying9
theorem zero83 (w : World) : (zeroValue 99).run Tryz.prog w = .ok (.agg #[]) w := by kernel_rfl

/-- A set of names lies in block g. -/
def IsSet (w : World) (g : Nat) (met : List (List UInt8)) : Prop :=
  ∃ D : DataW Unit, w.ownsMap Tryz.prog 9 unitElem g met.length D ∧ ∀ n : List UInt8, has D (.string n) = decide (n ∈ met)

theorem IsSet.lt {w : World} {g : Nat} {met : List (List UInt8)} (h : IsSet w g met) : g < w.heap.size := by
  obtain ⟨D, h, _⟩ := h
  exact h.lt

theorem IsSet.keeps {S : List Nat} {w w' : World} {g : Nat} {met : List (List UInt8)} (h : IsSet w g met) (hk : Keeps S w w') (hg : g ∉ S) : IsSet w' g met := by
  have hlt := h.lt
  obtain ⟨D, ⟨es, c, hb, F, hz, hD⟩, hh⟩ := h
  exact ⟨D, ⟨es, c, by rw [hk.block g hlt hg]; exact hb, F, hz, hD⟩, hh⟩

theorem IsSet.made (w : World) : IsSet (w.alloc (.map #[] 0)) w.heap.size [] :=
  ⟨_, World.ownsMap_made w _ _ _, fun n => by simp [Maps.has]⟩

theorem IsSet.look {w : World} {g : Nat} {met : List (List UInt8)} (h : IsSet w g met) (n : List UInt8) (hn : n.length ≤ maxLen) :
    (Instr.lookup 110 (.map (some g)) (.string ⟨n.toArray⟩) true).run Tryz.prog w = .ok (.tuple #[.agg #[], .bool (decide (n ∈ met))]) w := by
  obtain ⟨D, ho, hh⟩ := h
  obtain ⟨v, ps, hr, hv⟩ := ho.look_ok key9 Tryz.underlying110 (zero83 w) unitElem_mk (WideMaps.keyOf_string_mk Tryz.underlying9 (s := ⟨n.toArray⟩) hn)
  obtain ⟨rfl, _⟩ := unitElem_inv hv
  rw [hr, hh]

theorem IsSet.add {w : World} {g : Nat} {met : List (List UInt8)} (h : IsSet w g met) (n : List UInt8) (hn : n.length ≤ maxLen) (hm : met.length < maxLen) :
    ∃ w', (Instr.mapUpdate 110 (.map (some g)) (.string ⟨n.toArray⟩) (.agg #[])).run Tryz.prog w = .ok () w' ∧ IsSet w' g (met ++ [n]) ∧ Keeps [g] w w' := by
  obtain ⟨D, ho, hh⟩ := h
  obtain ⟨w', hr, ho', hg⟩ := ho.update key9 Tryz.underlying110 hm (WideMaps.keyOf_string_mk Tryz.underlying9 (s := ⟨n.toArray⟩) hn) unitElem_mk
  refine ⟨w', hr, ⟨_, by simpa using ho', fun n' => ?_⟩, keeps_row hg⟩
  by_cases hnn : n' = n
  · subst hnn
    rw [has_put_same ho.isMap (by exact trivial)]
    simp
  · rw [has_put_other (by simpa using hnn), hh]
    simp [hnn]
end Go.Proofs.YtngojdajamgababGreat
