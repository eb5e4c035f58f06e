/- page, treeBegun. Trees: what is built is right, and built of its own tokens again it is the same; walls. -/
import Derived.Test.YtlcljanibjdejaaGreatSo11
namespace Go.Proofs.YtlcljanibjdejaaGreat
open Go.RowKit Go.Maps
theorem HasMax.pos {w : World} (h : HasMax w) : 0 < w.heap.size := by
  unfold HasMax World.cell? at h
  rcases Nat.eq_zero_or_pos w.heap.size with h0 | h0
  · rw [Array.getElem?_eq_none (by simp [h0])] at h
    simp at h
  · exact h0
end Go.Proofs.YtlcljanibjdejaaGreat
namespace Go.Proofs.YtlcljanibjdejaaGreat
open Go.RowKit
/-- Nodes are right that stand in elements of these names; prev: a text stands ahead of them. -/
def Rt : List (List UInt8) → Bool → List Nd → Prop
  | _, _, [] => True
  | ar, prev, .mk n a t k :: r =>
    if n = [] then t ≠ [] ∧ a = [] ∧ k = [] ∧ prev = false ∧ Rt ar true r
    else isNameL n = true ∧ t = [] ∧ chkA a [] = 0 ∧ (emptyN n = true → k = []) ∧ ar.length ≤ closedL ar n ∧ ar.length < 8 ∧ Rt (ar ++ [n]) false k ∧ Rt ar false r
theorem Rt_text (ar : List (List UInt8)) (prev : Bool) (n : Nd) (r : List Nd) (h : n.name = []) : Rt ar prev (n :: r) ↔ n.text ≠ [] ∧ n.attrs = [] ∧ n.kids = [] ∧ prev = false ∧ Rt ar true r := by
  obtain ⟨m, a, t, k⟩ := n
  have h : m = [] := h
  rw [Rt, if_pos h]
  rfl
theorem Rt_el (ar : List (List UInt8)) (prev : Bool) (n : Nd) (r : List Nd) (h : n.name ≠ []) : Rt ar prev (n :: r) ↔ isNameL n.name = true ∧ n.text = [] ∧ chkA n.attrs [] = 0 ∧ (emptyN n.name = true → n.kids = []) ∧ ar.length ≤ closedL ar n.name ∧ ar.length < 8 ∧ Rt (ar ++ [n.name]) false n.kids ∧ Rt ar false r := by
  obtain ⟨m, a, t, k⟩ := n
  have h : m ≠ [] := h
  rw [Rt, if_neg h]
  rfl
theorem Rt_nil (ar : List (List UInt8)) (prev : Bool) : Rt ar prev [] := by rw [Rt]; trivial
theorem name_some {n : List UInt8} (h : isNameL n = true) : n ≠ [] := by
  rintro rfl
  simp [isNameL] at h
/-- An element that may stand there. -/
def ElOk (ar : List (List UInt8)) (n : Nd) : Prop := isNameL n.name = true ∧ n.text = [] ∧ chkA n.attrs [] = 0 ∧ (emptyN n.name = true → n.kids = []) ∧ ar.length ≤ closedL ar n.name ∧ ar.length < 8 ∧ Rt (ar ++ [n.name]) false n.kids
/-- Is the last one a text? -/
def endsText (l : List Nd) : Bool := l.getLast?.map Nd.name == some []
theorem Rt_snoc_el : ∀ (l : List Nd) (ar : List (List UInt8)) (prev : Bool) (n : Nd), Rt ar prev l → ElOk ar n → Rt ar prev (l ++ [n])
  | [], ar, prev, n, _, h => (Rt_el ar prev n [] (name_some h.1)).2 ⟨h.1, h.2.1, h.2.2.1, h.2.2.2.1, h.2.2.2.2.1, h.2.2.2.2.2.1, h.2.2.2.2.2.2, Rt_nil _ _⟩
  | m :: l, ar, prev, n, hl, h => by
    rw [List.cons_append]
    by_cases hm : m.name = []
    · rw [Rt_text _ _ _ _ hm] at hl ⊢
      exact ⟨hl.1, hl.2.1, hl.2.2.1, hl.2.2.2.1, Rt_snoc_el l ar true n hl.2.2.2.2 h⟩
    · rw [Rt_el _ _ _ _ hm] at hl ⊢
      obtain ⟨h1, h2, h3, h4, h5, h6, h7, h8⟩ := hl
      exact ⟨h1, h2, h3, h4, h5, h6, h7, Rt_snoc_el l ar false n h8 h⟩
theorem endsText_cons (m n : Nd) (l : List Nd) : endsText (m :: n :: l) = endsText (n :: l) := by simp [endsText]
theorem Rt_snoc_text : ∀ (l : List Nd) (ar : List (List UInt8)) (prev : Bool) (t : List UInt8), Rt ar prev l → t ≠ [] → (l = [] → prev = false) → endsText l = false → Rt ar prev (l ++ [textN t])
  | [], ar, prev, t, _, ht, hp, _ => (Rt_text ar prev (textN t) [] rfl).2 ⟨ht, rfl, rfl, hp rfl, Rt_nil _ _⟩
  | m :: l, ar, prev, t, hl, ht, _, he => by
    rw [List.cons_append]
    have he2 : l ≠ [] → endsText l = false := fun h => by
      cases l with
      | nil => exact absurd rfl h
      | cons n l => rwa [endsText_cons] at he
    have he3 : endsText l = false := by
      cases l with
      | nil => rfl
      | cons n l => exact he2 (by simp)
    by_cases hm : m.name = []
    · rw [Rt_text _ _ _ _ hm] at hl ⊢
      refine ⟨hl.1, hl.2.1, hl.2.2.1, hl.2.2.2.1, Rt_snoc_text l ar true t hl.2.2.2.2 ht (fun h => ?_) he3⟩
      subst h
      simp [endsText, hm] at he
    · rw [Rt_el _ _ _ _ hm] at hl ⊢
      obtain ⟨h1, h2, h3, h4, h5, h6, h7, h8⟩ := hl
      exact ⟨h1, h2, h3, h4, h5, h6, h7, Rt_snoc_text l ar false t h8 ht (fun _ => rfl) he3⟩
theorem endsText_snoc (l : List Nd) (n : Nd) : endsText (l ++ [n]) = (n.name == []) := by simp [endsText]
theorem getElem_mid {α : Type} (pre : List α) (n : α) (r : List α) : (pre ++ n :: r)[pre.length]? = some n := by simp
theorem prev_mid (pre : List Nd) (r : List Nd) : prevText (pre ++ r) pre.length = endsText pre := by
  unfold prevText endsText
  rcases List.eq_nil_or_concat pre with rfl | ⟨l, m, rfl⟩
  · rfl
  · simp [List.concat_eq_append]
theorem chk_one (n : List UInt8) (a : List Pair) (t : List UInt8) : chkL [⟨2, n, a, t⟩] = if t ≠ [] ∨ isNameL n = false then 1 else chkA a [] := by
  simp only [chkL, chkFrom, chkT]
  simp
  split <;> simp_all
/-- Nodes are right but for how deep and how many they are. -/
def Rn : List (List UInt8) → Bool → List Nd → Prop
  | _, _, [] => True
  | ar, prev, .mk n a t k :: r =>
    if n = [] then t ≠ [] ∧ a = [] ∧ k = [] ∧ prev = false ∧ Rn ar true r
    else isNameL n = true ∧ t = [] ∧ chkA a [] = 0 ∧ (emptyN n = true → k = []) ∧ ar.length ≤ closedL ar n ∧ Rn (ar ++ [n]) false k ∧ Rn ar false r
theorem Rn_nil (ar : List (List UInt8)) (prev : Bool) : Rn ar prev [] := by rw [Rn]; trivial
theorem nodeF_walk : ∀ (r pre : List Nd) (ar : List Nd), ((walkL nodeF (pre ++ r) r pre.length ar 0) = (0, true) ∧ Rn (ar.map Nd.name) (endsText pre) r) ∨ ((walkL nodeF (pre ++ r) r pre.length ar 0).2 = false ∧ (walkL nodeF (pre ++ r) r pre.length ar 0).1 ≠ 0 ∧ ¬ Rn (ar.map Nd.name) (endsText pre) r)
  | [], pre, ar => .inl ⟨by rw [walkL], Rn_nil _ _⟩
  | .mk n a t k :: r, pre, ar => by
    have ihk := nodeF_walk k [] (ar ++ [.mk n a t k])
    have ihr := nodeF_walk r (pre ++ [.mk n a t k]) ar
    simp only [List.append_assoc, List.singleton_append, List.length_append, List.length_singleton, List.nil_append, List.length_nil, endsText_snoc, List.map_append, List.map_cons, List.map_nil] at ihk ihr
    have hk0 : endsText ([] : List Nd) = false := rfl
    rw [hk0] at ihk
    have hchk : chkNode (pre ++ .mk n a t k :: r) pre.length ar = chkNodeOf (.mk n a t k) (pre ++ .mk n a t k :: r) pre.length ar := by unfold chkNode; rw [getElem_mid]
    rw [walkL]
    have hR : Rn (ar.map Nd.name) (endsText pre) (.mk n a t k :: r) ↔ if n = [] then t ≠ [] ∧ a = [] ∧ k = [] ∧ endsText pre = false ∧ Rn (ar.map Nd.name) true r else isNameL n = true ∧ t = [] ∧ chkA a [] = 0 ∧ (emptyN n = true → k = []) ∧ (ar.map Nd.name).length ≤ closedL (ar.map Nd.name) n ∧ Rn (ar.map Nd.name ++ [n]) false k ∧ Rn (ar.map Nd.name) false r := by rw [Rn]
    rw [hR]
    clear hR
    simp only [nodeF, hchk]
    by_cases hn : n = []
    · subst hn
      have hcn : chkNodeOf (.mk [] a t k) (pre ++ .mk [] a t k :: r) pre.length ar = chkTextOf t a k (endsText pre) := by
        simp only [chkNodeOf, Nd.name, List.isEmpty_nil, if_true, chkText]
        rw [getElem_mid, prev_mid]
        rfl
      rw [hcn, if_pos rfl]
      have hname : (Nd.name (.mk [] a t k) == []) = true := rfl
      rw [hname] at ihr
      by_cases hbad : t.isEmpty = true ∨ 0 < a.length ∨ 0 < k.length
      · right
        rw [show chkTextOf t a k (endsText pre) = 1 from by unfold chkTextOf; rw [if_pos hbad]]
        refine ⟨rfl, by simp, fun h => ?_⟩
        rcases hbad with h1 | h1 | h1
        · simp at h1; exact h.1 h1
        · rw [h.2.1] at h1; simp at h1
        · rw [h.2.2.1] at h1; simp at h1
      · have hb2 : t ≠ [] ∧ a = [] ∧ k = [] := by
          simp only [not_or, List.isEmpty_iff] at hbad
          exact ⟨hbad.1, List.eq_nil_of_length_eq_zero (by omega), List.eq_nil_of_length_eq_zero (by omega)⟩
        obtain ⟨ht, rfl, rfl⟩ := hb2
        cases hp : endsText pre
        · rw [show chkTextOf t [] [] false = 0 from by unfold chkTextOf; rw [if_neg hbad, if_neg (by simp)]]
          have hw : walkL nodeF [] [] 0 (ar ++ [.mk [] [] t []]) 0 = (0, true) := by rw [walkL]
          simp only [hw, beq_self_eq_true, if_true]
          rcases ihr with ⟨h1, h2⟩ | ⟨h1, h2, h3⟩
          · exact .inl ⟨h1, ht, trivial, trivial, trivial, h2⟩
          · exact .inr ⟨h1, h2, fun h => h3 h.2.2.2.2⟩
        · rw [show chkTextOf t [] [] true = 4 from by unfold chkTextOf; rw [if_neg hbad, if_pos rfl]]
          exact .inr ⟨rfl, by simp, fun h => by simp at h⟩
    · have hie : n.isEmpty = false := by simpa using hn
      have hname : (Nd.name (.mk n a t k) == []) = false := by simpa [Nd.name] using hn
      rw [hname] at ihr
      have hnm : Nd.name (.mk n a t k) = n := rfl
      rw [hnm] at ihk
      have hcn : chkNodeOf (.mk n a t k) (pre ++ .mk n a t k :: r) pre.length ar = if (emptyN n && decide (0 < k.length)) = true then 1 else if (if t ≠ [] ∨ isNameL n = false then 1 else chkA a []) ≠ 0 then (if t ≠ [] ∨ isNameL n = false then 1 else chkA a []) else if closedL (ar.map Nd.name) n < ar.length then 4 else 0 := by
        unfold chkNodeOf
        simp only [Nd.name, Nd.attrs, Nd.text, Nd.kids, hie, chk_one]
        rfl
      rw [hcn, if_neg hn]
      by_cases h1 : (emptyN n && decide (0 < k.length)) = true
      · right
        rw [if_pos h1]
        refine ⟨rfl, by simp, fun h => ?_⟩
        simp at h1
        have := h.2.2.2.1 h1.1
        rw [this] at h1
        simp at h1
      · rw [if_neg h1]
        have h1' : emptyN n = true → k = [] := fun h => by
          simp [h] at h1
          exact h1
        by_cases h2 : t ≠ [] ∨ isNameL n = false
        · right
          rw [if_pos h2]
          refine ⟨rfl, by simp, fun h => ?_⟩
          rcases h2 with h2 | h2
          · exact h2 h.2.1
          · rw [h.1] at h2; simp at h2
        · rw [if_neg h2]
          have h2' : t = [] ∧ isNameL n = true := by
            simp only [not_or, Decidable.not_not, Bool.not_eq_false] at h2
            exact h2
          by_cases h3 : chkA a [] ≠ 0
          · right
            rw [if_pos h3]
            have hb : (chkA a [] == 0) = false := by simpa using h3
            rw [hb]
            exact ⟨rfl, h3, fun h => h3 h.2.2.1⟩
          · rw [if_neg h3]
            have h3' : chkA a [] = 0 := Decidable.not_not.1 h3
            by_cases h4 : closedL (ar.map Nd.name) n < ar.length
            · right
              rw [if_pos h4]
              refine ⟨rfl, by simp, fun h => ?_⟩
              have := h.2.2.2.2.1
              rw [List.length_map] at this
              omega
            · rw [if_neg h4]
              simp only [beq_self_eq_true, if_true]
              rcases ihk with ⟨k1, k2⟩ | ⟨k1, k2, k3⟩
              · rw [k1]
                simp only [if_true]
                rcases ihr with ⟨r1, r2⟩ | ⟨r1, r2, r3⟩
                · exact .inl ⟨r1, h2'.2, h2'.1, h3', h1', by rw [List.length_map]; omega, k2, r2⟩
                · exact .inr ⟨r1, r2, fun h => r3 h.2.2.2.2.2.2⟩
              · rw [if_neg (by rw [k1]; simp)]
                exact .inr ⟨rfl, k2, fun h => k3 h.2.2.2.2.2.1⟩
/-- None is too deep. -/
def Dp : Nat → List Nd → Prop
  | _, [] => True
  | d, .mk n _ _ k :: r => (n = [] ∨ d < 8) ∧ Dp (d + 1) k ∧ Dp d r
theorem Dp_nil (d : Nat) : Dp d [] := by rw [Dp]; trivial
theorem fitsF_walk : ∀ (r pre : List Nd) (ar : List Nd) (c : Nat), c ≤ 3000 → ((walkL fitsF (pre ++ r) r pre.length ar c) = (((c + sizeNs r : Nat) : Int), true) ∧ c + sizeNs r ≤ 3000 ∧ Dp ar.length r) ∨ ((walkL fitsF (pre ++ r) r pre.length ar c).2 = false ∧ ¬ (c + sizeNs r ≤ 3000 ∧ Dp ar.length r))
  | [], pre, ar, c, h => .inl ⟨by rw [walkL]; simp [sizeNs], by simpa [sizeNs] using h, Dp_nil _⟩
  | .mk n a t k :: r, pre, ar, c, h => by
    rw [walkL]
    have hR : Dp ar.length (.mk n a t k :: r) ↔ (n = [] ∨ ar.length < 8) ∧ Dp (ar.length + 1) k ∧ Dp ar.length r := by rw [Dp]
    have hS : sizeNs (.mk n a t k :: r) = 1 + sizeNs k + sizeNs r := by rw [sizeNs]
    rw [hR, hS]
    clear hR hS
    have hw : wrap64 ((c : Int) + 1) = ((c + 1 : Nat) : Int) := by unfold wrap64; omega
    have hf : fitsF c (pre ++ .mk n a t k :: r) pre.length ar = (((c + 1 : Nat) : Int), decide (((c + 1 : Nat) : Int) ≤ 3000) && ((n == []) || decide (ar.length < 8))) := by
      unfold fitsF
      rw [hw, getElem_mid]
      rfl
    rw [hf]
    by_cases h1 : c + 1 ≤ 3000
    · rw [show decide (((c + 1 : Nat) : Int) ≤ 3000) = true from decide_eq_true (by omega)]
      by_cases h2 : n = [] ∨ ar.length < 8
      · have hb : (true && ((n == []) || decide (ar.length < 8))) = true := by
          rcases h2 with rfl | h2
          · rfl
          · simp [h2]
        rw [hb]
        simp only [if_true]
        have ihk := fitsF_walk k [] (ar ++ [.mk n a t k]) (c + 1) h1
        simp only [List.nil_append, List.length_nil, List.length_append, List.length_singleton] at ihk
        rcases ihk with ⟨k1, k2, k3⟩ | ⟨k1, k2⟩
        · rw [k1]
          simp only [if_true]
          have ihr := fitsF_walk r (pre ++ [.mk n a t k]) ar (c + 1 + sizeNs k) k2
          simp only [List.append_assoc, List.singleton_append, List.length_append, List.length_singleton] at ihr
          rcases ihr with ⟨r1, r2, r3⟩ | ⟨r1, r2⟩
          · exact .inl ⟨by rw [r1, show c + 1 + sizeNs k + sizeNs r = c + (1 + sizeNs k + sizeNs r) from by omega], by omega, h2, k3, r3⟩
          · exact .inr ⟨r1, fun h => r2 ⟨by omega, h.2.2.2⟩⟩
        · rw [if_neg (by rw [k1]; simp)]
          exact .inr ⟨rfl, fun h => k2 ⟨by omega, h.2.2.1⟩⟩
      · have hb : (true && ((n == []) || decide (ar.length < 8))) = false := by
          rw [not_or] at h2
          simp [h2.1]
          omega
        rw [hb]
        exact .inr ⟨rfl, fun h => h2 h.2.1⟩
    · rw [show decide (((c + 1 : Nat) : Int) ≤ 3000) = false from decide_eq_false (by omega)]
      exact .inr ⟨rfl, fun h => by omega⟩
theorem Rt_iff : ∀ (r : List Nd) (ar : List (List UInt8)) (prev : Bool), Rt ar prev r ↔ Rn ar prev r ∧ Dp ar.length r
  | [], _, _ => ⟨fun _ => ⟨Rn_nil _ _, Dp_nil _⟩, fun _ => Rt_nil _ _⟩
  | .mk n a t k :: r, ar, prev => by
    have i1 := Rt_iff r ar true
    have i2 := Rt_iff r ar false
    have i3 := Rt_iff k (ar ++ [n]) false
    rw [List.length_append, List.length_singleton] at i3
    rw [Rt, Rn, Dp, i1, i2, i3]
    by_cases hn : n = []
    · simp only [if_pos hn]
      constructor
      · rintro ⟨h1, h2, rfl, h4, h5, h6⟩
        exact ⟨⟨h1, h2, rfl, h4, h5⟩, .inl hn, Dp_nil _, h6⟩
      · rintro ⟨⟨h1, h2, rfl, h4, h5⟩, _, _, h6⟩
        exact ⟨h1, h2, rfl, h4, h5, h6⟩
    · simp only [if_neg hn]
      constructor
      · rintro ⟨h1, h2, h3, h4, h5, h6, ⟨h7, h8⟩, h9, h10⟩
        exact ⟨⟨h1, h2, h3, h4, h5, h7, h9⟩, .inr h6, h8, h10⟩
      · rintro ⟨⟨h1, h2, h3, h4, h5, h7, h9⟩, h6, h8, h10⟩
        exact ⟨h1, h2, h3, h4, h5, h6.resolve_left hn, ⟨h7, h8⟩, h9, h10⟩
/-- Check has nothing against a tree that is right, and against no other. -/
theorem chkTree_ok (ns : List Nd) : chkTree ns = 0 ↔ sizeNs ns ≤ 3000 ∧ Rt [] false ns := by
  have h1 := fitsF_walk ns [] [] 0 (by omega)
  have h2 := nodeF_walk ns [] []
  have h3 := Rt_iff ns [] false
  simp only [List.nil_append, List.length_nil, List.map_nil] at h1 h2 h3
  have he : endsText ([] : List Nd) = false := rfl
  have h0 : ((0 : Nat) : Int) = 0 := rfl
  rw [he] at h2
  rw [h0, Nat.zero_add] at h1
  rw [h3]
  unfold chkTree
  rcases h1 with ⟨a1, a2, a3⟩ | ⟨a1, a2⟩
  · rw [a1]
    simp only [if_true]
    rcases h2 with ⟨b1, b2⟩ | ⟨b1, b2, b3⟩
    · rw [b1]
      exact ⟨fun _ => ⟨a2, b2, a3⟩, fun _ => rfl⟩
    · exact ⟨fun h => absurd h b2, fun h => absurd h.2.1 b3⟩
  · rw [a1, if_neg (by simp)]
    exact ⟨fun h => by simp at h, fun h => absurd ⟨h.1, h.2.2⟩ a2⟩
theorem innerTo_take (is hides : List UInt8 → Bool) (ns : List (List UInt8)) : ∀ (i : Nat), i ≤ ns.length → innerTo is hides ns i = ns.length ∨ (innerTo is hides ns i < i ∧ is (ns.getD (innerTo is hides ns i) []) = true)
  | 0, _ => .inl rfl
  | i + 1, h => by
    unfold innerTo
    split
    · next h1 => exact .inr ⟨by omega, h1⟩
    · split
      · exact .inl rfl
      · rcases innerTo_take is hides ns i (by omega) with h2 | ⟨h2, h3⟩
        · exact .inl h2
        · exact .inr ⟨by omega, h3⟩
theorem innerL_cases (is hides : List UInt8 → Bool) (ns : List (List UInt8)) : innerL is hides ns = ns.length ∨ (innerL is hides ns < ns.length ∧ is (ns.getD (innerL is hides ns) []) = true) := innerTo_take is hides ns ns.length (Nat.le_refl _)
theorem inner_le (is hides : List UInt8 → Bool) (ns : List (List UInt8)) : innerL is hides ns ≤ ns.length := innerTo_le is hides ns _ (Nat.le_refl _)
theorem closed_le (ns : List (List UInt8)) (n : List UInt8) : closedL ns n ≤ ns.length := by
  unfold closedL
  split
  · refine Nat.le_trans (inner_le _ _ _) ?_
    rw [List.length_take]
    omega
  · split
    · exact inner_le _ _ _
    · exact Nat.le_refl _
/-- None of these closes one ahead of it. -/
def Calm (ar : List (List UInt8)) : Prop := ∀ i, i < ar.length → i ≤ closedL (ar.take i) (ar.getD i [])
theorem closedL_p (ns : List (List UInt8)) : closedL ns [112] = innerL (· == [112]) wallN ns := by
  unfold closedL
  rw [if_neg (by decide), if_pos (by decide)]
theorem closedL_li (ns : List (List UInt8)) : closedL ns [108, 105] = innerL (· == [108, 105]) listN (ns.take (innerL (· == [112]) wallN ns)) := by
  unfold closedL
  rw [if_pos rfl, if_pos (by decide)]
theorem take_take_le {α : Type} (l : List α) (a b : Nat) (h : a ≤ b) : (l.take b).take a = l.take a := by rw [List.take_take, Nat.min_eq_left h]
theorem getD_take (l : List (List UInt8)) (j f : Nat) (h : j < f) : (l.take f).getD j [] = l.getD j [] := by
  simp [List.getD_eq_getElem?_getD, h]
theorem calm_p (ar : List (List UInt8)) (h : Calm ar) : innerL (· == [112]) wallN (ar.take (innerL (· == [112]) wallN ar)) = innerL (· == [112]) wallN ar := by
  rcases innerL_cases (· == [112]) wallN ar with h1 | ⟨h1, h2⟩
  · rw [h1, List.take_length, h1]
  · have h3 := h _ h1
    rw [eq_of_beq h2, closedL_p] at h3
    have h4 := inner_le (· == [112]) wallN (ar.take (innerL (· == [112]) wallN ar))
    rw [List.length_take] at h4
    omega
/-- Where a name has closed what it closes, it closes nothing more. -/
theorem closed_done (ar : List (List UInt8)) (n : List UInt8) (h : Calm ar) : closedL ar n ≤ closedL (ar.take (closedL ar n)) n := by
  by_cases hn : n = [108, 105]
  · subst hn
    have hp := calm_p ar h
    have hf := inner_le (· == [112]) wallN ar
    rw [closedL_li ar]
    generalize hF : innerL (· == [112]) wallN ar = f at *
    rcases innerL_cases (· == [108, 105]) listN (ar.take f) with h1 | ⟨h1, h2⟩
    · rw [h1, List.length_take, Nat.min_eq_left hf, closedL_li, hp, take_take_le _ _ _ (Nat.le_refl _), h1, List.length_take, Nat.min_eq_left hf]
      exact Nat.le_refl _
    · rw [List.length_take] at h1
      have h3 := h (innerL (· == [108, 105]) listN (ar.take f)) (by omega)
      rw [getD_take _ _ _ (by omega)] at h2
      rw [eq_of_beq h2] at h3
      exact h3
  · have e : ∀ x, closedL x n = if blockN n = true then innerL (· == [112]) wallN x else x.length := fun x => by unfold closedL; rw [if_neg hn]
    rw [e ar]
    by_cases hb : blockN n = true
    · rw [if_pos hb, e, if_pos hb, calm_p ar h]
      exact Nat.le_refl _
    · rw [if_neg hb, e, if_neg hb, List.take_length]
      exact Nat.le_refl _
/-- The root has no name, and is in nobody's way. -/
theorem innerTo_root (is hides : List UInt8 → Bool) (h1 : is [] = false) (ns : List (List UInt8)) : ∀ i, innerTo is hides ([] :: ns) (i + 1) = innerTo is hides ns i + 1
  | 0 => by
    unfold innerTo
    rw [if_neg (by simp [h1])]
    split
    · simp
    · rfl
  | i + 1 => by
    rw [innerTo, List.getD_cons_succ]
    conv => rhs; rw [innerTo]
    split
    · rfl
    · split
      · simp
      · exact innerTo_root is hides h1 ns i
theorem innerL_root (is hides : List UInt8 → Bool) (h1 : is [] = false) (ns : List (List UInt8)) : innerL is hides ([] :: ns) = innerL is hides ns + 1 := innerTo_root is hides h1 ns ns.length
theorem closedL_root (ns : List (List UInt8)) (n : List UInt8) : closedL ([] :: ns) n = closedL ns n + 1 := by
  unfold closedL
  by_cases hn : n = [108, 105]
  · subst hn
    rw [if_pos rfl, if_pos rfl, if_pos (by decide), if_pos (by decide), innerL_root _ _ (by decide), List.take_succ_cons, innerL_root _ _ (by decide)]
  · rw [if_neg hn, if_neg hn]
    split
    · rw [innerL_root _ _ (by decide)]
    · rfl
/-- Names of what is open, without the root: the innermost one last. -/
def arOf : List Op → List (List UInt8)
  | [] => []
  | [_] => []
  | o :: p :: r => arOf (p :: r) ++ [o.name]
def Ch : List Op → Prop
  | [] => False
  | [o] => o.name = [] ∧ Rt [] false o.kids
  | o :: p :: r => Ch (p :: r) ∧ isNameL o.name = true ∧ chkA o.attrs [] = 0 ∧ emptyN o.name = false ∧ (arOf (p :: r)).length ≤ closedL (arOf (p :: r)) o.name ∧ (arOf (p :: r)).length < 8 ∧ Rt (arOf (p :: r) ++ [o.name]) false o.kids
theorem arOf_len : ∀ c : List Op, (arOf c).length = c.length - 1
  | [] => rfl
  | [_] => rfl
  | o :: p :: r => by rw [arOf, List.length_append, arOf_len (p :: r)]; simp
theorem arOf_names : ∀ c : List Op, Ch c → (c.reverse.map Op.name) = [] :: arOf c
  | [], h => by simp [Ch] at h
  | [o], h => by simp only [Ch] at h; simp [arOf, h.1]
  | o :: p :: r, h => by
    have := arOf_names (p :: r) (by simp only [Ch] at h; exact h.1)
    rw [List.reverse_cons, List.map_append, this, arOf]
    rfl
theorem calm_snoc (ar : List (List UInt8)) (n : List UInt8) (h : Calm ar) (hn : ar.length ≤ closedL ar n) : Calm (ar ++ [n]) := by
  intro i hi
  rw [List.length_append, List.length_singleton] at hi
  rcases Nat.lt_or_ge i ar.length with h1 | h1
  · rw [List.take_append_of_le_length (by omega)]
    have : (ar ++ [n]).getD i [] = ar.getD i [] := by simp [List.getD_eq_getElem?_getD, List.getElem?_append_left h1]
    rw [this]
    exact h i h1
  · obtain rfl : i = ar.length := by omega
    have : (ar ++ [n]).getD ar.length [] = n := by simp [List.getD_eq_getElem?_getD]
    rw [this, List.take_left]
    exact hn
theorem Ch_calm : ∀ c : List Op, Ch c → Calm (arOf c)
  | [], _ => fun i hi => by simp [arOf] at hi
  | [_], _ => fun i hi => by simp [arOf] at hi
  | o :: p :: r, h => by
    simp only [Ch] at h
    rw [arOf]
    exact calm_snoc _ _ (Ch_calm (p :: r) h.1) h.2.2.2.2.1
/-- A builder's state is right. -/
def GoodS (s : St) : Prop := Ch (s.cur :: s.up) ∧ endsText s.cur.kids = false
theorem Ch_put {o : Op} {r : List Op} (h : Ch (o :: r)) (n : Nd) (hn : Rt (arOf (o :: r)) false o.kids → Rt (arOf (o :: r)) false (o.kids ++ [n])) : Ch (o.put n :: r) := by
  cases r with
  | nil =>
    simp only [Ch] at h ⊢
    exact ⟨h.1, hn h.2⟩
  | cons p r =>
    simp only [Ch] at h ⊢
    exact ⟨h.1, h.2.1, h.2.2.1, h.2.2.2.1, h.2.2.2.2.1, h.2.2.2.2.2.1, hn h.2.2.2.2.2.2⟩
theorem Ch_kids : ∀ {o : Op} {r : List Op}, Ch (o :: r) → Rt (arOf (o :: r)) false o.kids
  | _, [], h => by simp only [Ch] at h; exact h.2
  | _, _ :: _, h => by simp only [Ch] at h; rw [arOf]; exact h.2.2.2.2.2.2
/-- Behind the end of a text. -/
theorem good_endText {s : St} (h : GoodS s) : Ch (s.endText.cur :: s.up) := by
  unfold St.endText
  split
  · exact h.1
  · next ht => exact Ch_put h.1 _ (fun hk => Rt_snoc_text _ _ _ _ hk ht (fun _ => rfl) h.2)
theorem endText_name (s : St) : s.endText.cur.name = s.cur.name := by unfold St.endText; split <;> rfl
theorem good_pop {s : St} (h : GoodS s) (hu : s.up ≠ []) : GoodS s.pop := by
  have he := good_endText h
  unfold St.pop
  split
  · next h0 => exact absurd h0 hu
  · next o up h0 =>
    rw [h0] at he
    simp only [Ch] at he
    obtain ⟨h1, h2, h3, h4, h5, h6, h7⟩ := he
    refine ⟨Ch_put h1 _ (fun hk => Rt_snoc_el _ _ _ _ hk ⟨h2, rfl, h3, fun hb => ?_, h5, h6, h7⟩), ?_⟩
    · have hb : emptyN s.endText.cur.name = true := hb
      rw [h4] at hb
      simp at hb
    · simp only [Op.put, endsText_snoc]
      have := name_some h2
      simpa [Op.nd, Nd.name] using this
theorem good_close : ∀ (k : Nat) (s : St), GoodS s → k ≤ s.up.length → GoodS (s.close k)
  | 0, s, h, _ => h
  | k + 1, s, h, hk => by
    have hu : s.up ≠ [] := by intro h0; rw [h0] at hk; simp at hk
    rw [St.close]
    exact good_close k _ (good_pop h hu) (by rw [pop_up, List.length_tail]; omega)
theorem close_names {s : St} (h : GoodS s) (k : Nat) (hk : k ≤ s.up.length) : arOf ((s.close k).cur :: (s.close k).up) = (arOf (s.cur :: s.up)).take (s.up.length - k) := by
  induction k generalizing s with
  | zero =>
    rw [Nat.sub_zero]
    have := arOf_len (s.cur :: s.up)
    rw [List.take_of_length_le (by rw [this]; simp)]
    rfl
  | succ k ih =>
    have hu : s.up ≠ [] := by intro h0; rw [h0] at hk; simp at hk
    rw [St.close, ih (good_pop h hu) (by rw [pop_up, List.length_tail]; omega), pop_up, List.length_tail]
    have e : arOf (s.pop.cur :: s.pop.up) = (arOf (s.cur :: s.up)).take (s.up.length - 1) := by
      unfold St.pop
      split
      · next h0 => exact absurd h0 hu
      · next o up h0 =>
        have hl := arOf_len (o :: up)
        rw [h0]
        rw [show arOf (s.cur :: o :: up) = arOf (o :: up) ++ [s.cur.name] from rfl]
        have e2 : ∀ x, arOf (o.put x :: up) = arOf (o :: up) := fun x => by cases up <;> rfl
        rw [e2, List.take_left' (by rw [hl])]
    rw [pop_up] at e
    rw [e, List.take_take]
    congr 1
    omega
theorem St_names (s : St) (h : GoodS s) : s.names = [] :: arOf (s.cur :: s.up) := by
  rw [← arOf_names _ h.1]
  unfold St.names St.all
  simp
theorem good_openTag {s : St} {t : Tok} (h : GoodS s) (hk : t.kind = 2) (ht : chkT t = 0) : GoodS (s.openTag t) := by
  have hl := arOf_len (s.cur :: s.up)
  rw [List.length_cons, Nat.add_sub_cancel] at hl
  have hle := closed_le (arOf (s.cur :: s.up)) t.name
  have hd := closed_done _ t.name (Ch_calm _ h.1)
  have hcf : s.closeFrom (closedL s.names t.name) = s.close (s.up.length - closedL (arOf (s.cur :: s.up)) t.name) := by
    unfold St.closeFrom
    rw [St_names s h, closedL_root]
    congr 1
    omega
  unfold St.openTag
  rw [hcf]
  clear hcf
  generalize closedL (arOf (s.cur :: s.up)) t.name = c at *
  have hg := good_close _ s h (Nat.sub_le s.up.length c)
  have hn := close_names h _ (Nat.sub_le s.up.length c)
  rw [show s.up.length - (s.up.length - c) = c from by omega] at hn
  rw [← hn] at hd
  have hlen := congrArg List.length hn
  rw [List.length_take] at hlen
  have hl2 := arOf_len ((s.close (s.up.length - c)).cur :: (s.close (s.up.length - c)).up)
  rw [List.length_cons, Nat.add_sub_cancel] at hl2
  generalize s.close (s.up.length - c) = u at *
  have hd : (arOf (u.cur :: u.up)).length ≤ closedL (arOf (u.cur :: u.up)) t.name := by omega
  clear hn hlen hle hl h
  split
  · exact hg
  · next h8 =>
    have ha : isNameL t.name = true ∧ chkA t.attrs [] = 0 := by
      unfold chkT at ht
      rw [hk, if_neg (by decide), if_pos rfl] at ht
      split at ht
      · simp at ht
      · next hc =>
        simp only [not_or, Bool.not_eq_false] at hc
        exact ⟨hc.2, ht⟩
    have he := good_endText hg
    have hae : arOf (u.endText.cur :: u.up) = arOf (u.cur :: u.up) := by
      cases hu : u.up with
      | nil => rfl
      | cons p r => simp only [arOf, endText_name]
    unfold St.openIn
    split
    · next hem =>
      refine ⟨?_, ?_⟩
      · simp only [St.put, endText_up]
        exact Ch_put he _ (fun hk => Rt_snoc_el _ _ _ _ hk ⟨ha.1, rfl, ha.2, fun _ => rfl, by rw [hae]; exact hd, by rw [hae]; omega, Rt_nil _ _⟩)
      · simp only [St.put, Op.put, endsText_snoc, Nd.name]
        simpa using name_some ha.1
    · next hem =>
      refine ⟨?_, rfl⟩
      simp only [Ch]
      exact ⟨he, ha.1, ha.2, by simpa using hem, by rw [hae]; exact hd, by rw [hae]; omega, Rt_nil _ _⟩
theorem innerL_root_pos (n : List UInt8) (hn : n ≠ []) (ns : List (List UInt8)) : 1 ≤ innerL (· == n) (fun _ => false) ([] :: ns) := by
  rw [innerL_root _ _ (by simpa using hn.symm)]
  omega
theorem good_step {s : St} {t : Tok} (h : GoodS s) (ht : chkT t = 0) : GoodS (s.step t) := by
  unfold St.step
  split
  · exact ⟨h.1, h.2⟩
  · next h1 =>
    split
    · next h2 => exact good_openTag h h2 ht
    · next h2 =>
      unfold St.closeTag St.closeFrom
      rw [St_names s h]
      have hn : t.name ≠ [] := by
        unfold chkT at ht
        rw [if_neg h1, if_neg h2] at ht
        split at ht
        · split at ht
          · simp at ht
          · next hc =>
            simp only [not_or, Bool.not_eq_false] at hc
            exact name_some hc.2.2
        · simp at ht
      have := innerL_root_pos t.name hn (arOf (s.cur :: s.up))
      exact good_close _ _ h (by omega)
theorem good_start : GoodS St.start := ⟨by simp only [St.start, Ch]; exact ⟨trivial, Rt_nil _ _⟩, rfl⟩
theorem good_fold (ts : List Tok) (s : St) (h : GoodS s) (ht : ∀ t ∈ ts, chkT t = 0) : GoodS (ts.foldl St.step s) := by
  induction ts generalizing s with
  | nil => exact h
  | cons t ts ih => exact ih _ (good_step h (ht t (by simp))) (fun u hu => ht u (by simp [hu]))
theorem built_right (ts : List Tok) (h : chkL ts = 0) : Rt [] false (buildL ts) := by
  have hg := good_fold ts St.start good_start (chkL_each ts h)
  unfold buildL St.closeFrom
  rw [Nat.add_sub_cancel]
  have hc := good_close _ _ hg (Nat.le_refl _)
  have hu := close_up (ts.foldl St.step St.start).up.length (ts.foldl St.step St.start)
  rw [List.drop_length] at hu
  generalize (ts.foldl St.step St.start).close (ts.foldl St.step St.start).up.length = u at *
  have he := good_endText hc
  rw [hu] at he
  exact Ch_kids he
theorem sizeNs_append (a b : List Nd) : sizeNs (a ++ b) = sizeNs a + sizeNs b := by
  induction a with
  | nil => simp [sizeNs]
  | cons n a ih => rw [List.cons_append, sizeNs_cons, sizeNs_cons, ih]; omega
def St.size (s : St) : Nat := (s.all.map fun o => sizeNs o.kids).sum + s.up.length + if s.text = [] then 0 else 1
theorem size_endText (s : St) : s.endText.size = s.size := by
  unfold St.endText
  split
  · rfl
  · next h => simp [St.size, St.all, Op.put, sizeNs_append, textN, sizeNs, h]; omega
theorem size_pop (s : St) : s.pop.size = s.size := by
  rw [← size_endText s]
  unfold St.pop
  split
  · rfl
  · next o up h =>
    have h1 := endText_up s
    have h2 := endText_text s
    rw [h] at h1
    simp [St.size, St.all, Op.put, sizeNs_append, h1, h2, Op.nd, sizeNs]
    omega
theorem size_close (k : Nat) (s : St) : (s.close k).size = s.size := by
  induction k generalizing s with
  | zero => rfl
  | succ k ih => rw [St.close, ih, size_pop]
theorem size_step (s : St) (t : Tok) : (s.step t).size ≤ s.size + 1 := by
  unfold St.step
  split
  · simp only [St.size, St.all]
    split <;> split <;> omega
  · split
    · unfold St.openTag St.closeFrom
      split
      · rw [size_close]; omega
      · rw [← size_close (s.up.length + 1 - closedL s.names t.name) s]
        generalize s.close (s.up.length + 1 - closedL s.names t.name) = u
        rw [← size_endText u]
        unfold St.openIn
        split
        · simp [St.size, St.all, St.put, Op.put, sizeNs_append, sizeNs, endText_text]
          omega
        · simp [St.size, St.all, endText_up, endText_text, sizeNs]
          omega
    · unfold St.closeTag St.closeFrom
      rw [size_close]
      omega
theorem size_fold (ts : List Tok) (s : St) : (ts.foldl St.step s).size ≤ s.size + ts.length := by
  induction ts generalizing s with
  | nil => simp
  | cons t ts ih => rw [List.foldl_cons, List.length_cons]; have := ih (s.step t); have := size_step s t; omega
theorem size_build (ts : List Tok) : sizeNs (buildL ts) ≤ ts.length := by
  have h1 := size_fold ts St.start
  have h0 : St.start.size = 0 := by simp [St.size, St.all, St.start, sizeNs]
  rw [h0, Nat.zero_add] at h1
  unfold buildL St.closeFrom
  rw [Nat.add_sub_cancel]
  have hu := close_up (ts.foldl St.step St.start).up.length (ts.foldl St.step St.start)
  rw [List.drop_length] at hu
  rw [← size_close (ts.foldl St.step St.start).up.length] at h1
  generalize (ts.foldl St.step St.start).close (ts.foldl St.step St.start).up.length = u at *
  rw [← size_endText] at h1
  have h2 := endText_up u
  rw [hu] at h2
  simp [St.size, St.all, h2, endText_text] at h1
  exact h1
/-- What is built, Check has nothing against. -/
theorem chk_built (ts : List Tok) (h : chkL ts = 0) : chkTree (buildL ts) = 0 := by
  rw [chkTree_ok]
  refine ⟨Nat.le_trans (size_build ts) ?_, built_right ts h⟩
  unfold chkL at h
  split at h
  · simp at h
  · omega
def lastKd : Int → List Tok → Int
  | p, [] => p
  | _, t :: r => lastKd t.kind r
theorem chkFrom_append (a b : List Tok) (p : Int) (h : chkFrom p a = 0) : chkFrom p (a ++ b) = chkFrom (lastKd p a) b := by
  induction a generalizing p with
  | nil => rfl
  | cons t a ih =>
    unfold chkFrom at h
    rw [List.cons_append, chkFrom, lastKd]
    split at h
    · next hc => exact absurd h hc
    · next hc =>
      rw [if_neg hc]
      split at h
      · simp at h
      · next hd =>
        rw [if_neg hd]
        exact ih _ h
theorem flat_right : ∀ (ns : List Nd) (ar : List (List UInt8)) (prev : Bool) (p : Int), Rt ar prev ns → (p = 1 → prev = true) → chkFrom p (flatL ns) = 0
  | [], _, _, _, _, _ => by rw [flatL]; rfl
  | .mk n a t k :: r, ar, prev, p, hR, hp => by
    rw [flatL]
    by_cases h0 : n = []
    · subst h0
      obtain ⟨h1, h2, h3, h4, h5⟩ := (Rt_text ar prev (.mk [] a t k) r rfl).1 hR
      have h1 : t ≠ [] := h1
      rw [if_pos List.isEmpty_nil, List.singleton_append, chkFrom]
      rw [if_neg (by simp [chkT, h1]), if_neg (fun h => by have := hp h.2; rw [h4] at this; simp at this)]
      exact flat_right r ar true 1 h5 (fun _ => rfl)
    · obtain ⟨h1, h2, h3, h4, h5, h6, h7, h8⟩ := (Rt_el ar prev (.mk n a t k) r h0).1 hR
      simp only [Nd.name, Nd.attrs, Nd.text, Nd.kids] at h1 h2 h3 h4 h5 h7
      rw [if_neg (by simpa using h0), List.cons_append, chkFrom]
      rw [if_neg (by simp [chkT, h1, h3]), if_neg (by simp)]
      have hk := flat_right k (ar ++ [n]) false 2 h7 (fun h => by simp at h)
      by_cases hem : emptyN n = true
      · have hk0 := h4 hem
        subst hk0
        rw [if_pos hem, flatL, List.nil_append, List.nil_append]
        exact flat_right r ar false 2 h8 (fun h => by simp at h)
      · rw [if_neg hem, List.append_assoc, chkFrom_append _ _ _ hk, List.singleton_append, chkFrom]
        rw [if_neg (by simp [chkT, h1]), if_neg (by simp)]
        exact flat_right r ar false 3 h8 (fun h => by simp at h)
theorem chk_flat (ns : List Nd) (h : Rt [] false ns) (hl : (flatL ns).length ≤ 3000) : chkL (flatL ns) = 0 := by
  unfold chkL
  rw [if_neg (by omega)]
  exact flat_right ns [] false 0 h (fun h => by simp at h)
theorem innerTo_snoc (is hides : List UInt8 → Bool) (ns : List (List UInt8)) (n : List UInt8) : ∀ i, i ≤ ns.length → (innerTo is hides ns i < ns.length ↔ innerTo is hides (ns ++ [n]) i < ns.length)
  | 0, _ => by simp [innerTo]
  | i + 1, h => by
    have e : (ns ++ [n]).getD i [] = ns.getD i [] := by simp [List.getD_eq_getElem?_getD, List.getElem?_append_left (show i < ns.length from by omega)]
    unfold innerTo
    rw [e]
    split
    · exact Iff.rfl
    · split
      · rw [List.length_append]; simp
      · exact innerTo_snoc is hides ns n i (by omega)
/-- Does one stand open there that is looked for, with nothing within it that hides it? -/
def opens (is hides : List UInt8 → Bool) (ns : List (List UInt8)) : Bool := decide (innerL is hides ns < ns.length)
theorem innerTo_lt (is hides : List UInt8 → Bool) (ns : List (List UInt8)) (n : List UInt8) : ∀ i, i ≤ ns.length → (innerTo is hides (ns ++ [n]) i < ns.length + 1 ↔ innerTo is hides (ns ++ [n]) i < ns.length)
  | 0, _ => by simp [innerTo]
  | i + 1, h => by
    unfold innerTo
    split
    · omega
    · split
      · rw [List.length_append]; simp
      · exact innerTo_lt is hides ns n i (by omega)
theorem opens_snoc (is hides : List UInt8 → Bool) (ns : List (List UInt8)) (n : List UInt8) : opens is hides (ns ++ [n]) = if is n = true then true else if hides n = true then false else opens is hides ns := by
  unfold opens innerL
  rw [List.length_append, List.length_singleton]
  have e : (ns ++ [n]).getD ns.length [] = n := by simp [List.getD_eq_getElem?_getD]
  rw [innerTo, e]
  split
  · simp
  · split
    · rw [List.length_append]; simp
    · rw [decide_eq_decide, innerTo_lt _ _ _ _ _ (Nat.le_refl _), ← innerTo_snoc _ _ _ _ _ (Nat.le_refl _)]
end Go.Proofs.YtlcljanibjdejaaGreat
