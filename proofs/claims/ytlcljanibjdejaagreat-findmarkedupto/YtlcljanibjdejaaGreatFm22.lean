/- Strict trees, as functions: what Read, Check and Print answer; what is printed is read as it was; what is read is right. Strict trees: the bytes and the marks that are read. Strict trees: values. Strict trees: all attributes of a tag. Strict trees: ends, what stands around, kids and elements. Strict trees: what is in an element. Strict trees: kids of an element, and elements whatever is in them. Strict trees: elements whatever is in them, a document, Read. Strict trees: Check. Strict trees: Print. Strict trees: a small document, and xmlBegun. Strict trees: xmlBegun. Strict trees: the law XmlBack, called. escapeBegun answers true. A sign at a place: what the document's loop over digits comes to. row: the bytes of a code point, as the document's answer makes them. signAt: the document's answer at a place where a & stands. TakeOf: the document's answer is what Take answers. FindMarked: the law, called. What every frame of this seat's laws takes: the program's own row of knobs, its heap's layout, a row with a condition whose contract is told the world's shape. -/
import Derived.Test.YtlcljanibjdejaaGreatFm21
import Derived.ProofKit
import Derived.OpenShut
import Derived.ShutString
import Derived.JoinedCond
import Derived.HandedShaped
import Derived.Carry
import Derived.SizedLaws
namespace Go.Proofs.YtlcljanibjdejaaGreat
open Go.RowKit Go.Maps
def whiteX (c : UInt8) : Bool := c == 9 || c == 10 || c == 13 || c == 32
def begX (c : UInt8) : Bool := letterB c || c == 95
def inX (c : UInt8) : Bool := begX c || digB c || c == 45 || c == 46 || c == 58
/-- Is it a TITLE? -/
def isTitleL (l : List UInt8) : Bool := match l with
  | [] => false
  | c :: r => decide (r.length + 1 ≤ 20) && begX c && r.all inX
def notQ (q c : UInt8) : Bool := c != q && c != 60
abbrev Rx (α : Type) := Except Int (α × List UInt8)
def mustX (m l : List UInt8) : Except Int (List UInt8) := if m.isPrefixOf l = true then .ok (l.drop m.length) else .error 1
def titleX (l : List UInt8) : Rx (List UInt8) := if isTitleL (l.takeWhile inX) = true then .ok (l.takeWhile inX, l.dropWhile inX) else .error 1
def toX (m l : List UInt8) : Rx (List UInt8) := match endOf m l with
  | some n => .ok (l.take (n - m.length), l.drop n)
  | none => .error 1
def remX (l : List UInt8) : Option (Rx (List UInt8)) :=
  if [60, 33, 45, 45].isPrefixOf l = true then some (toX [45, 45, 62] (l.drop 4)) else if [60, 63].isPrefixOf l = true then some (toX [63, 62] (l.drop 2)) else none
def strictX (raw r : List UInt8) : Rx (List UInt8) := if (takeL raw).2 = true then .ok ((takeL raw).1, r) else .error 1
def quoteX (l : List UInt8) : UInt8 := if [34].isPrefixOf l = true then 34 else 39
def valueX (l : List UInt8) : Rx (List UInt8) :=
  match mustX [quoteX l] l with
  | .error e => .error e
  | .ok l1 => match mustX [quoteX l] (l1.dropWhile (notQ (quoteX l))) with
    | .error e => .error e
    | .ok l2 => strictX (l1.takeWhile (notQ (quoteX l))) l2
def attrX (l : List UInt8) : Rx Pair :=
  match titleX l with
  | .error e => .error e
  | .ok (n, l1) => match mustX [61] (l1.dropWhile whiteX) with
    | .error e => .error e
    | .ok l2 => match valueX (l2.dropWhile whiteX) with
      | .error e => .error e
      | .ok (v, l3) => .ok ((n, v), l3)
def headX (f : UInt8 → Bool) : List UInt8 → Bool
  | [] => false
  | c :: _ => f c
def attrsX : Nat → List Pair → List UInt8 → Rx (List Pair)
  | 0, met, l => .ok (met, l)
  | f + 1, met, l =>
    if (headX whiteX l && headX begX (l.dropWhile whiteX)) = true then
      match attrX (l.dropWhile whiteX) with
      | .error e => .error e
      | .ok (a, r) => if (met.any fun p => p.1 == a.1) = true then .error 6 else attrsX f (met ++ [a]) r
    else .ok (met, l.dropWhile whiteX)
def endX (n l : List UInt8) : Except Int (List UInt8) :=
  match mustX [60, 47] l with
  | .error e => .error e
  | .ok l1 => match titleX l1 with
    | .error e => .error e
    | .ok (m, l2) => if (m == n) = true then mustX [62] (l2.dropWhile whiteX) else .error 4
def cdata : List UInt8 := [60, 33, 91, 67, 68, 65, 84, 65, 91]
/-- The element's tag: its title, its attributes; a tag of which nothing is in it ends so. -/
def tagX (d : Nat) (l : List UInt8) : Rx (List UInt8 × List Pair × Bool) :=
  match mustX [60] l with
  | .error e => .error e
  | .ok l1 => match titleX l1 with
    | .error e => .error e
    | .ok (n, l2) => if 8 < d then .error 2 else match attrsX (l2.length + 1) [] l2 with
      | .error e => .error e
      | .ok (a, l3) => if [47, 62].isPrefixOf l3 = true then .ok ((n, a, true), l3.drop 2) else match mustX [62] l3 with
        | .error e => .error e
        | .ok l4 => .ok ((n, a, false), l4)
/-- What stands in an element, but for elements: nothing (what is passed), or a text. -/
inductive PieceX where
  | over (r : Except Int (List UInt8))
  | kid
  | said (r : Rx (List UInt8))
def pieceX (l : List UInt8) : PieceX :=
  match l with
  | [] => .over (.error 1)
  | _ :: _ => match remX l with
    | some (.error e) => .over (.error e)
    | some (.ok (_, r)) => .over (.ok r)
    | none => if cdata.isPrefixOf l = true then .said (toX [93, 93, 62] (l.drop 9))
      else if [60].isPrefixOf l = true then .kid
      else .said (strictX (l.takeWhile noLt) (l.dropWhile noLt))
mutual
def elementX : Nat → Nat → List UInt8 → Rx Nd
  | 0, _, _ => .error 1
  | f + 1, d, l => match tagX d l with
    | .error e => .error e
    | .ok ((n, a, true), r) => .ok (.mk n a [] [], r)
    | .ok ((n, a, false), r) => match kidsX f d ⟨[], []⟩ r with
      | .error e => .error e
      | .ok (ks, r2) => match endX n r2 with
        | .error e => .error e
        | .ok r3 => .ok (.mk n a [] ks, r3)
def kidsX : Nat → Nat → Lst → List UInt8 → Rx (List Nd)
  | 0, _, _, _ => .error 1
  | f + 1, d, acc, l => if [60, 47].isPrefixOf l = true then .ok (acc.done, l) else match pieceX l with
    | .over (.error e) => .error e
    | .over (.ok r) => kidsX f d acc r
    | .said (.error e) => .error e
    | .said (.ok (t, r)) => kidsX f d (acc.put (textN t)) r
    | .kid => match elementX f (d + 1) l with
      | .error e => .error e
      | .ok (n, r) => kidsX f d (acc.put n) r
end
def chkAX : List Pair → List (List UInt8) → Int
  | [], _ => 0
  | p :: r, met => if isTitleL p.1 = false then 1 else if p.1 ∈ met then 6 else chkAX r (met ++ [p.1])
/-- Nodes that are right as what is in an element; deep: how deep they may be. -/
def RtX : Nat → Bool → List Nd → Prop
  | _, _, [] => True
  | m, prev, .mk n a t k :: r =>
    if n = [] then t ≠ [] ∧ a = [] ∧ k = [] ∧ prev = false ∧ RtX m true r
    else t = [] ∧ isTitleL n = true ∧ chkAX a [] = 0 ∧ 1 ≤ m ∧ RtX (m - 1) false k ∧ RtX m false r
def endTX : Bool → List Nd → Bool
  | p, [] => p
  | _, .mk n _ _ _ :: r => endTX n.isEmpty r
theorem titleX_all {n : List UInt8} (h : isTitleL n = true) : (∀ x ∈ n, inX x = true) ∧ ∃ c r, n = c :: r ∧ begX c = true := by
  unfold isTitleL at h
  cases n with
  | nil => simp at h
  | cons c r =>
    simp at h
    refine ⟨fun x hx => ?_, c, r, rfl, h.1.2⟩
    rcases List.mem_cons.1 hx with rfl | hx
    · simp [inX, h.1.2]
    · exact h.2 x hx
theorem mustX_ok {m l r : List UInt8} (h : mustX m l = .ok r) : r.length + m.length = l.length := by
  unfold mustX at h
  split at h
  · rename_i hp
    injection h with h
    subst h
    have := (List.isPrefixOf_iff_prefix.1 hp).length_le
    simp; omega
  · injection h
theorem takeDrop_len (f : UInt8 → Bool) (l : List UInt8) : (l.takeWhile f).length + (l.dropWhile f).length = l.length := by
  rw [← List.length_append, List.takeWhile_append_dropWhile]
theorem drop_le (f : UInt8 → Bool) (l : List UInt8) : (l.dropWhile f).length ≤ l.length := by have := takeDrop_len f l; omega
theorem titleX_ok {l n r : List UInt8} (h : titleX l = .ok (n, r)) : isTitleL n = true ∧ 1 ≤ n.length ∧ r.length + n.length = l.length := by
  unfold titleX at h
  split at h
  · rename_i ht
    injection h with h
    injection h with h1 h2
    subst h1 h2
    have := takeDrop_len inX l
    refine ⟨ht, ?_, by omega⟩
    obtain ⟨_, c, r, h9, _⟩ := titleX_all ht
    rw [h9]; simp
  · injection h
theorem strictX_ok {raw r v r2 : List UInt8} (h : strictX raw r = .ok (v, r2)) : v = (takeL raw).1 ∧ r2 = r := by
  unfold strictX at h
  split at h
  · injection h with h
    injection h with h1 h2
    exact ⟨h1.symm, h2.symm⟩
  · injection h
theorem valueX_ok {l v r : List UInt8} (h : valueX l = .ok (v, r)) : r.length ≤ l.length := by
  unfold valueX at h
  split at h
  · injection h
  · rename_i l1 h1
    split at h
    · injection h
    · rename_i l2 h2
      have := (strictX_ok h).2
      subst this
      have a1 := mustX_ok h1
      have a2 := mustX_ok h2
      have a3 := drop_le (notQ (quoteX l)) l1
      omega
theorem attrX_ok {l r : List UInt8} {p : Pair} (h : attrX l = .ok (p, r)) : isTitleL p.1 = true ∧ r.length ≤ l.length := by
  unfold attrX at h
  split at h
  · injection h
  · rename_i n l1 h1
    split at h
    · injection h
    · rename_i l2 h2
      split at h
      · injection h
      · rename_i v l3 h3
        injection h with h
        injection h with h4 h5
        subst h4 h5
        have a1 := titleX_ok h1
        have a2 := mustX_ok h2
        have a3 := valueX_ok h3
        have a4 := drop_le whiteX l1
        have a5 := drop_le whiteX l2
        exact ⟨a1.1, by omega⟩
theorem chkAX_snoc (p : Pair) (l : List Pair) : ∀ met, chkAX l met = 0 → isTitleL p.1 = true → p.1 ∉ met ++ l.map (·.1) → chkAX (l ++ [p]) met = 0 := by
  induction l with
  | nil =>
    intro met _ ht hm
    simp [chkAX, ht] at hm ⊢
    exact hm
  | cons q l ih =>
    intro met h ht hm
    rw [chkAX] at h
    rw [List.cons_append, chkAX]
    split at h
    · simp at h
    · rename_i h1
      split at h
      · simp at h
      · rename_i h2
        rw [if_neg h1, if_neg h2]
        exact ih _ h ht (by simpa using hm)
theorem attrsX_ok : ∀ (f : Nat) (met : List Pair) (l : List UInt8) (a : List Pair) (r : List UInt8), chkAX met [] = 0 → attrsX f met l = .ok (a, r) → chkAX a [] = 0 ∧ r.length ≤ l.length
  | 0, met, l, a, r, hm, h => by
    rw [attrsX] at h
    injection h with h
    injection h with h1 h2
    subst h1 h2
    exact ⟨hm, Nat.le_refl _⟩
  | f + 1, met, l, a, r, hm, h => by
    rw [attrsX] at h
    have a0 := drop_le whiteX l
    split at h
    · split at h
      · injection h
      · rename_i p l2 h2
        have h3 := attrX_ok h2
        split at h
        · injection h
        · rename_i hd
          have := attrsX_ok f _ _ a r (chkAX_snoc p met [] hm h3.1 (by
            intro h9
            apply hd
            rw [List.nil_append] at h9
            obtain ⟨q, hq, he⟩ := List.mem_map.1 h9
            rw [List.any_eq_true]
            exact ⟨q, hq, by simpa using he⟩)) h
          exact ⟨this.1, by omega⟩
    · injection h with h
      injection h with h1 h2
      subst h1 h2
      exact ⟨hm, a0⟩
theorem tagX_ok {d : Nat} {l r n : List UInt8} {a : List Pair} {e : Bool} (h : tagX d l = .ok ((n, a, e), r)) : isTitleL n = true ∧ chkAX a [] = 0 ∧ d ≤ 8 ∧ r.length + 3 ≤ l.length := by
  unfold tagX at h
  split at h
  · injection h
  · rename_i l1 h1
    split at h
    · injection h
    · rename_i m l2 h2
      split at h
      · injection h
      · rename_i hd
        split at h
        · injection h
        · rename_i b l3 h3
          have a1 := mustX_ok h1
          have a2 := titleX_ok h2
          have a3 := attrsX_ok _ _ _ _ _ (by rfl) h3
          simp at a1
          split at h
          · rename_i hp
            injection h with h
            injection h with h4 h5
            injection h4 with h6 h7
            injection h7 with h8 h9
            subst h5 h6 h8
            have := (List.isPrefixOf_iff_prefix.1 hp).length_le
            simp at this
            exact ⟨a2.1, a3.1, by omega, by simp; omega⟩
          · split at h
            · injection h
            · rename_i l4 h4
              have a4 := mustX_ok h4
              simp at a4
              injection h with h
              injection h with h4 h5
              injection h4 with h6 h7
              injection h7 with h8 h9
              subst h5 h6 h8
              exact ⟨a2.1, a3.1, by omega, by omega⟩
theorem endX_ok {n l r : List UInt8} (h : endX n l = .ok r) : r.length ≤ l.length := by
  unfold endX at h
  split at h
  · injection h
  · rename_i l1 h1
    split at h
    · injection h
    · rename_i m l2 h2
      split at h
      · have a1 := mustX_ok h1
        have a2 := titleX_ok h2
        have a3 := mustX_ok h
        have a4 := drop_le whiteX l2
        omega
      · injection h
theorem toX_ok {m l t r : List UInt8} (h : toX m l = .ok (t, r)) : r.length + t.length + m.length = l.length := by
  unfold toX at h
  split at h
  · rename_i n hn
    have := endOf_len hn
    injection h with h
    injection h with h1 h2
    subst h1 h2
    simp
    omega
  · injection h
theorem remX_ok {l t r : List UInt8} (h : remX l = some (.ok (t, r))) : r.length + 1 ≤ l.length := by
  unfold remX at h
  split at h
  · rename_i hp
    injection h with h
    have a1 := toX_ok h
    have := (List.isPrefixOf_iff_prefix.1 hp).length_le
    simp at this a1
    omega
  · split at h
    · rename_i hp
      injection h with h
      have a1 := toX_ok h
      have := (List.isPrefixOf_iff_prefix.1 hp).length_le
      simp at this a1
      omega
    · simp at h
theorem pieceX_over {l r : List UInt8} (h : pieceX l = .over (.ok r)) : r.length + 1 ≤ l.length := by
  unfold pieceX at h
  split at h
  · simp at h
  · split at h
    · simp at h
    · rename_i r1 h1
      injection h with h
      injection h with h
      subst h
      exact remX_ok h1
    · split at h
      · simp at h
      · split at h <;> simp at h
theorem pieceX_said {l t r : List UInt8} (h : pieceX l = .said (.ok (t, r))) : r.length + 1 ≤ l.length := by
  unfold pieceX at h
  split at h
  · simp at h
  · rename_i c l0
    split at h
    · simp at h
    · simp at h
    · split at h
      · rename_i hp
        injection h with h
        have a1 := toX_ok h
        have := (List.isPrefixOf_iff_prefix.1 hp).length_le
        simp [cdata] at this a1
        simp only [List.length_cons]
        omega
      · split at h
        · simp at h
        · rename_i hk
          injection h with h
          have := (strictX_ok h).2
          subst this
          have hc : noLt c = true := by
            unfold noLt
            simp [List.isPrefixOf] at hk
            simpa using fun h => hk h.symm
          have := drop_le noLt l0
          rw [List.dropWhile_cons, if_pos hc]
          simp only [List.length_cons]
          omega
theorem sizeNs_app (a b : List Nd) : sizeNs (a ++ b) = sizeNs a + sizeNs b := by
  induction a with
  | nil => simp [sizeNs]
  | cons n a ih => cases n; simp [sizeNs, ih]; omega
theorem RtX_append (m : Nat) : ∀ (a b : List Nd) (p : Bool), RtX m p (a ++ b) ↔ RtX m p a ∧ RtX m (endTX p a) b
  | [], b, p => by simp [RtX, endTX]
  | .mk n at' t k :: a, b, p => by
    rw [List.cons_append, RtX, RtX, endTX]
    by_cases hn : n = []
    · subst hn
      simp only [if_true, List.isEmpty_nil]
      rw [RtX_append m a b true]
      simp [and_assoc]
    · have : n.isEmpty = false := by simpa using hn
      simp only [if_neg hn, this]
      rw [RtX_append m a b false]
      simp [and_assoc]
theorem endTX_append : ∀ (a b : List Nd) (p : Bool), endTX p (a ++ b) = endTX (endTX p a) b
  | [], b, p => rfl
  | .mk n _ _ _ :: a, b, p => by rw [List.cons_append, endTX, endTX, endTX_append a b]
/-- What has been put is right. -/
def GoodX (m : Nat) (s : Lst) : Prop := RtX m false s.all ∧ endTX false s.all = false
def Lst.count (s : Lst) : Nat := sizeNs s.all + if s.text = [] then 0 else 1
theorem good_done {m : Nat} {s : Lst} (h : GoodX m s) : RtX m false s.done ∧ sizeNs s.done = s.count := by
  unfold Lst.done Lst.count
  cases ht : s.text with
  | nil => simp; exact h.1
  | cons c r =>
    simp only [List.isEmpty_cons, Bool.false_eq_true, if_false]
    rw [RtX_append, h.2, sizeNs_app]
    simp [h.1, RtX, textN, sizeNs]
theorem good_put_text {m : Nat} {s : Lst} (h : GoodX m s) (t : List UInt8) : GoodX m (s.put (textN t)) ∧ (s.put (textN t)).count ≤ s.count + 1 := by
  simp only [Lst.put, textN, Nd.name, Nd.text, List.isEmpty_nil, if_true]
  refine ⟨h, ?_⟩
  unfold Lst.count
  simp only
  split <;> split <;> omega
theorem good_put_el {m : Nat} {s : Lst} (h : GoodX m s) (n : Nd) (hn : n.name ≠ []) (hr : RtX m false [n]) : GoodX m (s.put n) ∧ (s.put n).count = s.count + sizeNs [n] := by
  have hd := good_done h
  have he : n.name.isEmpty = false := by simpa using hn
  simp only [Lst.put, he, Bool.false_eq_true, if_false]
  obtain ⟨nm, a, t, k⟩ := n
  simp only [Nd.name] at hn he
  refine ⟨⟨?_, ?_⟩, ?_⟩
  · simp only
    rw [RtX_append]
    refine ⟨hd.1, ?_⟩
    rw [RtX, if_neg hn] at hr ⊢
    exact hr
  · simp only
    rw [endTX_append]
    simp [endTX, he]
  · unfold Lst.count
    simp only
    rw [sizeNs_app, hd.2]
    simp [Lst.count]
theorem right_all : ∀ f : Nat, (∀ (d : Nat) (l : List UInt8) (n : Nd) (r : List UInt8), elementX f d l = .ok (n, r) → n.name ≠ [] ∧ RtX (9 - d) false [n] ∧ sizeNs [n] + r.length ≤ l.length) ∧
    (∀ (d : Nat) (acc : Lst) (l : List UInt8) (ks : List Nd) (r : List UInt8), kidsX f d acc l = .ok (ks, r) → GoodX (8 - d) acc → RtX (8 - d) false ks ∧ sizeNs ks + r.length ≤ acc.count + l.length) := by
  intro f
  induction f with
  | zero =>
    constructor
    · intro d l n r h; rw [elementX] at h; injection h
    · intro d acc l ks r h; rw [kidsX] at h; injection h
  | succ f ih =>
    constructor
    · intro d l n r h
      rw [elementX] at h
      split at h
      · injection h
      · rename_i nm a r1 h1
        have h2 := tagX_ok h1
        injection h with h
        injection h with h3 h4
        subst h3 h4
        have hn : nm ≠ [] := by rintro rfl; have := h2.1; simp [isTitleL] at this
        refine ⟨hn, ?_, ?_⟩
        · rw [RtX, if_neg hn]
          exact ⟨rfl, h2.1, h2.2.1, by omega, by simp [RtX], by simp [RtX]⟩
        · simp [sizeNs]; omega
      · rename_i nm a r1 h1
        have h2 := tagX_ok h1
        split at h
        · injection h
        · rename_i ks r2 hk
          have h5 := ih.2 d ⟨[], []⟩ r1 ks r2 hk ⟨by simp [RtX], rfl⟩
          split at h
          · injection h
          · rename_i r3 h6
            have h7 := endX_ok h6
            injection h with h
            injection h with h3 h4
            subst h3 h4
            have hn : nm ≠ [] := by rintro rfl; have := h2.1; simp [isTitleL] at this
            refine ⟨hn, ?_, ?_⟩
            · rw [RtX, if_neg hn]
              refine ⟨rfl, h2.1, h2.2.1, by omega, ?_, by simp [RtX]⟩
              rw [show 9 - d - 1 = 8 - d from by omega]
              exact h5.1
            · have := h5.2
              simp [sizeNs, Lst.count] at this ⊢
              omega
    · intro d acc l ks r h hg
      rw [kidsX] at h
      split at h
      · injection h with h
        injection h with h3 h4
        subst h3 h4
        have := good_done hg
        exact ⟨this.1, by omega⟩
      · split at h
        · injection h
        · rename_i r1 h1
          have h2 := pieceX_over h1
          have h3 := ih.2 d acc r1 ks r h hg
          exact ⟨h3.1, by omega⟩
        · injection h
        · rename_i t r1 h1
          have h2 := pieceX_said h1
          have h4 := good_put_text hg t
          have h3 := ih.2 d _ r1 ks r h h4.1
          exact ⟨h3.1, by omega⟩
        · split at h
          · injection h
          · rename_i n r1 h1
            have h2 := ih.1 (d + 1) l n r1 h1
            have h4 := good_put_el hg n h2.1 (by rw [show 8 - d = 9 - (d + 1) from by omega]; exact h2.2.1)
            have h3 := ih.2 d _ r1 ks r h h4.1
            exact ⟨h3.1, by omega⟩
end Go.Proofs.YtlcljanibjdejaaGreat
namespace Go.Proofs.YtlcljanibjdejaaGreat
open Go.RowKit Go.Maps
/-- The text s lies in block b, and what is left of it is l. -/
def Tx (w : World) (b : Nat) (s : ByteArray) (l : List UInt8) : Prop := ∃ k, k ≤ s.size ∧ s.data.toList.drop k = l ∧ IsText w b s k
theorem Tx.keeps {S : List Nat} {w w' : World} {b : Nat} {s : ByteArray} {l : List UInt8} (h : Tx w b s l) (hk : Keeps S w w') (hb : b ∉ S) : Tx w' b s l := by
  obtain ⟨k, h1, h2, h3⟩ := h
  exact ⟨k, h1, h2, h3.keeps hk hb⟩
theorem Tx.len {w : World} {b : Nat} {s : ByteArray} {l : List UInt8} (h : Tx w b s l) : l.length ≤ s.size := by
  obtain ⟨k, h1, rfl, h3⟩ := h
  simp
theorem Tx.lt {w : World} {b : Nat} {s : ByteArray} {l : List UInt8} (h : Tx w b s l) : b < w.heap.size := by
  obtain ⟨k, h1, rfl, h3⟩ := h
  exact h3.lt
/-- A reader in memory. -/
structure Xr (w : World) (r b : Nat) (s : ByteArray) (l : List UInt8) : Prop where
  rd : w.heap[r]? = some (.cells #[.pointer (some ⟨b, 0, none⟩)] 138 (0, 0))
  tx : Tx w b s l
theorem Xr.ne {w : World} {r b : Nat} {s : ByteArray} {l : List UInt8} (h : Xr w r b s l) : r ≠ b := by
  rintro rfl
  obtain ⟨k, _, _, h3⟩ := h.tx
  have h1 := h.rd
  unfold IsText at h3
  rw [h3] at h1
  simp at h1
theorem Xr.lt {w : World} {r b : Nat} {s : ByteArray} {l : List UInt8} (h : Xr w r b s l) : r < w.heap.size := lt_of_block h.rd
theorem Xr.cell {w : World} {r b : Nat} {s : ByteArray} {l : List UInt8} (h : Xr w r b s l) : w.cell? ⟨r, 0, none⟩ = some (.pointer (some ⟨b, 0, none⟩)) := cell_blk h.rd 0
theorem Xr.keeps {S : List Nat} {w w' : World} {r b : Nat} {s : ByteArray} {l : List UInt8} (h : Xr w r b s l) (hk : Keeps S w w') (hr : r ∉ S) (hb : b ∉ S) : Xr w' r b s l :=
  ⟨(hk.block r h.lt hr).trans h.rd, h.tx.keeps hk hb⟩
theorem Xr.keeps0 {w w' : World} {r b : Nat} {s : ByteArray} {l : List UInt8} (h : Xr w r b s l) (hk : Keeps [] w w') : Xr w' r b s l := h.keeps hk List.not_mem_nil List.not_mem_nil
/-- The text was read on. -/
theorem Xr.on {w w' : World} {r b : Nat} {s : ByteArray} {l l' : List UInt8} (h : Xr w r b s l) (hk : Keeps [b] w w') (hT : Tx w' b s l') : Xr w' r b s l' :=
  ⟨(hk.block r h.lt (by simpa using h.ne)).trans h.rd, hT⟩
/-- What comes of reading on, or of giving up. -/
def Gives {α : Type} (x : Except Int α) (P : α → Ending → World → Prop) (e : Ending) (w' : World) : Prop := (∃ a, x = .ok a ∧ P a e w') ∨ (∃ k, x = .error k ∧ e = .panicked (stopped k))
theorem Gives.ok {α : Type} {a : α} {P : α → Ending → World → Prop} {e : Ending} {w' : World} (h : P a e w') : Gives (.ok a) P e w' := .inl ⟨a, rfl, h⟩
theorem Gives.no {α : Type} {k : Int} {P : α → Ending → World → Prop} {w' : World} : Gives (.error k : Except Int α) P (.panicked (stopped k)) w' := .inr ⟨k, rfl, rfl⟩
end Go.Proofs.YtlcljanibjdejaaGreat
namespace Go.Proofs.YtlcljanibjdejaaGreat
open Go.RowKit Go.Maps
set_option maxHeartbeats 400000 in
theorem strict_any (s : ByteArray) (w : World) (hm : s.size ≤ maxLen) :
    Calls Tryz.prog 102 #[.string s] w fun e w' => e = two (strictAns s.data.toList) ∧ Keeps [] w w' := by
  unfold maxLen at hm
  unfold strictAns
  rw [len_size]
  by_cases h : 3000 < s.size
  · rw [if_pos h]
    go_enter Tryz.func102, Tryz.ntmps102
    go_wp2_with fail
    go_ret2
    exact ⟨rfl, Keeps.refl _ _⟩
  · rw [if_neg h]
    generalize hT : takeL s.data.toList = T
    have HT := hide hT
    clear hT
    obtain ⟨a, r⟩ := T
    cases r
    · go_enter Tryz.func102, Tryz.ntmps102
      go_wp2_with fail
      refine (taken_any s _ (by omega)).mono ?_
      rintro e w1 ⟨rfl, hk⟩
      rw [HT.out]
      go_wp2_with fail
      go_ret2
      exact ⟨rfl, hk⟩
    · go_enter Tryz.func102, Tryz.ntmps102
      go_wp2_with fail
      refine (taken_any s _ (by omega)).mono ?_
      rintro e w1 ⟨rfl, hk⟩
      rw [HT.out]
      go_wp2_with fail
      go_ret2
      exact ⟨rfl, hk⟩
end Go.Proofs.YtlcljanibjdejaaGreat
namespace Go.Proofs.YtlcljanibjdejaaGreat
open Go.RowKit Go.Maps
/-- How much of the text is left. -/
def left (b : Nat) (s : ByteArray) (w : World) : Nat := s.size - (intOf ((w.cell? ⟨b, 1, none⟩).getD undef)).toNat
theorem Tx.left {w : World} {b : Nat} {s : ByteArray} {l : List UInt8} (h : Tx w b s l) : left b s w = l.length := by
  obtain ⟨k, h1, rfl, h3⟩ := h
  unfold Go.Proofs.YtlcljanibjdejaaGreat.left
  rw [h3.cell1]
  simp [intOf]
end Go.Proofs.YtlcljanibjdejaaGreat
namespace Go.Proofs.YtlcljanibjdejaaGreat
open Go.RowKit Go.Maps
theorem Ls.past {w w' : World} {B r : Nat} {allv textv : Value} {l : List Pn} {text : List UInt8} {S : List Nat} (h : Ls w B r allv textv l text) (hk : Keeps S w w') (hS : ∀ g, g ∈ S → g < B) : Ls w' B r allv textv l text :=
  ⟨by rw [hk.block r h.lt (fun hm => by have := hS _ hm; have := h.hr; omega)]; exact h.blk, hk.owns h.all (fun g hg hm => by have := hS _ hm; have := (h.all.lt g hg).1; omega), hk.owns h.txt (fun g hg hm => by have := hS _ hm; have := (h.txt.lt g hg).1; omega),
    fun q hq => ⟨(h.done q hq).1.keeps hk (fun g hg hm => by have := hS _ hm; have := hg.1; omega), (h.done q hq).2.keeps hk (fun g hg hm => by have := hS _ hm; have := hg.1; omega)⟩, h.hr, h.pos⟩
theorem LsT.past {w w' : World} {B r : Nat} {s : Lst} {T : List Nat} {S : List Nat} (h : LsT w B r s T) (hk : Keeps S w w') (hS : ∀ g, g ∈ S → g < B) : LsT w' B r s T := by
  obtain ⟨a, t, l, e1, e2, h⟩ := h
  exact ⟨a, t, l, e1, e2, h.past hk hS⟩
end Go.Proofs.YtlcljanibjdejaaGreat
namespace Go.Proofs.YtlcljanibjdejaaGreat
open Go.RowKit Go.Maps
theorem put_text_weight (s : Lst) (t : List UInt8) : (s.put (textN t)).weight = s.weight + t.length := by
  simp [Lst.put, textN, Nd.name, Nd.text, Lst.weight]; omega
theorem put_el_weight (s : Lst) (n : Nd) (hn : n.name ≠ []) : (s.put n).weight ≤ s.weight + 1 := by
  have he : n.name.isEmpty = false := by simpa using hn
  have := s.done_len
  simp only [Lst.put, he, Bool.false_eq_true, if_false, Lst.weight, List.length_append, List.length_cons, List.length_nil] at this ⊢
  omega
/-- The state of kids' loop. -/
structure KSt (w wr : World) (r b : Nat) (s : ByteArray) (R : Rx (List Nd)) (d : Nat) (acc : Lst) (l : List UInt8) (T : List Nat) (f : Nat) : Prop where
  ls : LsT wr w.heap.size w.heap.size acc T
  xr : Xr wr r b s l
  kp : Keeps [b] w wr
  wt : acc.weight + 4 * l.length ≤ 12000
  fl : 2 * l.length + 1 < f
  eq : kidsX f d acc l = R
theorem KSt.over {w wr w' : World} {r b : Nat} {s : ByteArray} {R : Rx (List Nd)} {d : Nat} {acc : Lst} {l l2 : List UInt8} {T : List Nat} {f : Nat} (h : KSt w wr r b s R d acc l T (f + 1)) (hb : b < w.heap.size) (hp : pieceX l = .over (.ok l2)) (hn : [60, 47].isPrefixOf l = false) (hX : Xr w' r b s l2) (hk : Keeps [b] wr w') : KSt w w' r b s R d acc l2 T f := by
  have h1 := pieceX_over hp
  refine ⟨h.ls.past hk (fun g hg => by simp at hg; omega), hX, h.kp.trans hk, by have := h.wt; omega, by have := h.fl; omega, ?_⟩
  have h2 := h.eq
  rw [kidsX, hn, hp] at h2
  simpa using h2
theorem KSt.said {w wr w' w2 : World} {r b : Nat} {s : ByteArray} {R : Rx (List Nd)} {d : Nat} {acc : Lst} {l l2 t : List UInt8} {T T2 : List Nat} {f : Nat} (h : KSt w wr r b s R d acc l T (f + 1)) (hb : b < w.heap.size) (hr : r < w.heap.size) (hp : pieceX l = .said (.ok (t, l2))) (hn : [60, 47].isPrefixOf l = false) (ht : t.length ≤ 4 * (l.length - l2.length)) (hX : Xr w' r b s l2) (hk : Keeps [b] wr w')
    (hl : LsT w2 w.heap.size w.heap.size (acc.put (textN t)) T2) (hs : Stp w' T w2 T2) (hT : LsT w' w.heap.size w.heap.size acc T) : KSt w w2 r b s R d (acc.put (textN t)) l2 T2 f := by
  have h1 := pieceX_said hp
  have hge := hT.ge
  refine ⟨hl, hX.keeps hs.1 (fun hm => by have := (hge.1 _ hm).1; omega) (fun hm => by have := (hge.1 _ hm).1; omega), keeps_on (h.kp.trans hk) hs.1 (fun g hg hlt => by have := (hge.1 _ hg).1; omega), ?_, by have := h.fl; omega, ?_⟩
  · rw [put_text_weight]; have := h.wt; omega
  · have h2 := h.eq
    rw [kidsX, hn, hp] at h2
    simpa using h2
theorem KSt.kid {w wr w' w2 : World} {r b : Nat} {s : ByteArray} {R : Rx (List Nd)} {d : Nat} {acc : Lst} {l l2 : List UInt8} {n : Nd} {T T2 : List Nat} {f : Nat} (h : KSt w wr r b s R d acc l T (f + 1)) (hb : b < w.heap.size) (hr : r < w.heap.size) (hp : pieceX l = .kid) (hn : [60, 47].isPrefixOf l = false) (he : elementX f (d + 1) l = .ok (n, l2)) (hX : Xr w' r b s l2) (hk : Keeps [b] wr w')
    (hl : LsT w2 w.heap.size w.heap.size (acc.put n) T2) (hs : Stp w' T w2 T2) (hT : LsT w' w.heap.size w.heap.size acc T) : KSt w w2 r b s R d (acc.put n) l2 T2 f := by
  have h1 := (right_all f).1 (d + 1) l n l2 he
  have hge := hT.ge
  have h3 : 1 ≤ sizeNs [n] := by cases n; simp [sizeNs]
  refine ⟨hl, hX.keeps hs.1 (fun hm => by have := (hge.1 _ hm).1; omega) (fun hm => by have := (hge.1 _ hm).1; omega), keeps_on (h.kp.trans hk) hs.1 (fun g hg hlt => by have := (hge.1 _ hg).1; omega), ?_, by have := h.fl; omega, ?_⟩
  · have := put_el_weight acc n h1.1
    have := h.wt
    omega
  · have h2 := h.eq
    rw [kidsX, hn, hp, he] at h2
    simpa using h2
end Go.Proofs.YtlcljanibjdejaaGreat
namespace Go.Proofs.YtlcljanibjdejaaGreat
open Go.RowKit Go.Maps
theorem KSt.same {w wr w' : World} {r b : Nat} {s : ByteArray} {R : Rx (List Nd)} {d : Nat} {acc : Lst} {l : List UInt8} {T : List Nat} {f : Nat} (h : KSt w wr r b s R d acc l T f) (hk : Keeps [b] wr w') (hb : b < w.heap.size) (hX : Xr w' r b s l) : KSt w w' r b s R d acc l T f :=
  ⟨h.ls.past hk (fun g hg => by simp at hg; omega), hX, h.kp.trans hk, h.wt, h.fl, h.eq⟩
theorem KSt.nil {w wr w' : World} {r b : Nat} {s : ByteArray} {R : Rx (List Nd)} {d : Nat} {acc : Lst} {l : List UInt8} {T : List Nat} {f : Nat} (h : KSt w wr r b s R d acc l T f) (hk : Keeps [] wr w') : KSt w w' r b s R d acc l T f :=
  ⟨h.ls.keepsNil hk, h.xr.keeps0 hk, h.kp.trans (hk.to (by simp)), h.wt, h.fl, h.eq⟩
end Go.Proofs.YtlcljanibjdejaaGreat
namespace Go.Proofs.YtlcljanibjdejaaGreat
open Go.RowKit Go.Maps
/-- What document comes to. -/
def DocOut (w : World) (n : Nd) (v : Value) (w' : World) : Prop :=
  ∃ oa ca ok ck, v = .agg #[.string ⟨n.name.toArray⟩, .slice oa n.attrs.length ca, .string ⟨n.text.toArray⟩, .slice ok n.kids.length ck] ∧ LiesP w' (fun g => w.heap.size ≤ g) (.slice oa n.attrs.length ca) n.attrs.length 2 (pairCells n.attrs) ∧ Ns w' (fun g => w.heap.size ≤ g) (.slice ok n.kids.length ck) n.kids
end Go.Proofs.YtlcljanibjdejaaGreat
namespace Go.Proofs.YtlcljanibjdejaaGreat
open Go.RowKit Go.Maps
def IsFnX (w : World) (b : Nat) : Prop := w.heap[b]? = some (.cells #[.func (.func 184) #[] #[]] 129 (0, 0))
theorem IsFnX.keeps {S : List Nat} {w w' : World} {b : Nat} (h : IsFnX w b) (hk : Keeps S w w') (hb : b ∉ S) : IsFnX w' b := by
  unfold IsFnX at *
  rw [hk.block b (lt_of_block h) hb]; exact h
/-- A node by itself, as an argument. -/
def NdVal (w : World) (P : Nat → Prop) (n : Nd) (v : Value) : Prop :=
  ∃ oa ca ok ck, v = .agg #[.string ⟨n.name.toArray⟩, .slice oa n.attrs.length ca, .string ⟨n.text.toArray⟩, .slice ok n.kids.length ck] ∧ LiesP w P (.slice oa n.attrs.length ca) n.attrs.length 2 (pairCells n.attrs) ∧ Ns w P (.slice ok n.kids.length ck) n.kids
theorem NdVal.keeps {w w' : World} {P : Nat → Prop} {n : Nd} {v : Value} {S : List Nat} (h : NdVal w P n v) (hk : Keeps S w w') (hS : ∀ g, P g → g ∉ S) : NdVal w' P n v := by
  obtain ⟨oa, ca, ok, ck, h1, h2, h3⟩ := h
  exact ⟨oa, ca, ok, ck, h1, h2.keeps hk hS, h3.keeps hk hS⟩
theorem NdVal.keeps0 {w w' : World} {P : Nat → Prop} {n : Nd} {v : Value} (h : NdVal w P n v) (hk : Keeps [] w w') : NdVal w' P n v := h.keeps hk (fun _ _ => List.not_mem_nil)
theorem NdVal.mono {w : World} {P Q : Nat → Prop} {n : Nd} {v : Value} (h : NdVal w P n v) (hPQ : ∀ g, g < w.heap.size → P g → Q g) : NdVal w Q n v := by
  obtain ⟨oa, ca, ok, ck, h1, h2, h3⟩ := h
  exact ⟨oa, ca, ok, ck, h1, h2.mono hPQ, h3.mono hPQ⟩
theorem DocOut.val {w w' : World} {n : Nd} {v : Value} (h : DocOut w n v w') : NdVal w' (fun g => w.heap.size ≤ g) n v := h
end Go.Proofs.YtlcljanibjdejaaGreat
namespace Go.Proofs.YtlcljanibjdejaaGreat
open Go.RowKit Go.Maps
theorem KeepsB.node {B b : Nat} {w w' : World} {g : Nat} {cs : Array Value} {ty : TypeId} (h : KeepsB B b w w') (ht : w.heap[g]? = some (.cells cs ty (0, 0))) (hty : ty ≠ 5) (hg : g ≠ b) : w'.heap[g]? = some (.cells cs ty (0, 0)) := by
  rw [h.block g (lt_of_block ht) hg (.inr (fun cs f e => by rw [ht] at e; simp at e; exact hty e.2.1))]; exact ht
end Go.Proofs.YtlcljanibjdejaaGreat
namespace Go.Proofs.YtlcljanibjdejaaGreat
open Go.RowKit Go.Maps
def docN : Nd := .mk [114] [([97], [60, 38])] [] [.mk [] [] [120] [], .mk [110, 58, 101] [] [] []]
end Go.Proofs.YtlcljanibjdejaaGreat
namespace Go.Proofs.YtlcljanibjdejaaGreat
open Go.RowKit Go.Maps
theorem cell_all {w w' : World} (hk : Keeps [] w w') {g : Nat} {cs : Array Value} {ty : TypeId} (h : w.heap[g]? = some (.cells cs ty (0, 0))) (j : Nat) : w'.cell? ⟨g, j, none⟩ = cs[j]? := cell_blk ((hk.block _ (lt_of_block h) List.not_mem_nil).trans h) j
/-- Behind xmlBegun's reading: what was read lies where it lay. -/
@[reducible] def SX (W6 : World) (g : Nat) (oa : Option Addr) (ca : Nat) (ok : Option Addr) (ck : Nat) (w' : World) : Prop :=
  Keeps [] W6 w' ∧ w'.cell? ⟨g, 0, none⟩ = some (.string ⟨docN.name.toArray⟩) ∧ w'.cell? ⟨g, 1, none⟩ = some (.slice oa docN.attrs.length ca) ∧ w'.cell? ⟨g, 2, none⟩ = some (.string ⟨docN.text.toArray⟩) ∧ w'.cell? ⟨g, 3, none⟩ = some (.slice ok docN.kids.length ck)
theorem SX.of {W6 w' : World} {g : Nat} {oa ok : Option Addr} {ca ck : Nat} (hb : W6.heap[g]? = some (.cells #[.string ⟨docN.name.toArray⟩, .slice oa docN.attrs.length ca, .string ⟨docN.text.toArray⟩, .slice ok docN.kids.length ck] 45 (0, 0))) (hk : Keeps [] W6 w') : SX W6 g oa ca ok ck w' :=
  ⟨hk, cell_all hk hb 0, cell_all hk hb 1, cell_all hk hb 2, cell_all hk hb 3⟩
end Go.Proofs.YtlcljanibjdejaaGreat
namespace Go.Proofs.YtlcljanibjdejaaGreat
open Go.RowKit Go.Maps
theorem NdVal.all {w : World} {P : Nat → Prop} {n : Nd} {v : Value} (h : NdVal w P n v) : NdVal w (fun _ => True) n v := h.mono (fun _ _ _ => trivial)
end Go.Proofs.YtlcljanibjdejaaGreat
namespace Go.Proofs.YtlcljanibjdejaaGreat
open Go.RowKit
theorem escBegun_put (w : World) : Calls Tryz.prog 32 #[.string ⟨#[60, 97, 32, 38, 32, 39, 98, 39, 62]⟩] w fun e w' =>
    e = .returned (.tuple #[.string ⟨#[38, 108, 116, 59, 97, 32, 38, 97, 109, 112, 59, 32, 39, 98, 39, 38, 103, 116, 59]⟩, .int .i64 0]) ∧ Keeps [] w w' :=
  (put_any _ w (by show (9 : Nat) ≤ maxLen; unfold maxLen; omega)).mono fun _ _ ⟨he, hk⟩ => ⟨he.trans (by kernel_rfl), hk⟩
theorem escBegun_take (w : World) : Calls Tryz.prog 101 #[.string ⟨#[38, 108, 116, 59, 38, 35, 54, 53, 59, 38, 35, 120, 50, 48, 97, 67, 59, 38, 97, 109, 112, 59, 38, 110, 111, 59, 38, 35, 48, 59]⟩] w fun e w' =>
    e = .returned (.tuple #[.string ⟨#[60, 65, 226, 130, 172, 38, 38, 110, 111, 59, 239, 191, 189]⟩, .int .i64 0]) ∧ Keeps [] w w' :=
  (take_any _ w (by show (30 : Nat) ≤ maxLen; unfold maxLen; omega)).mono fun _ _ ⟨he, hk⟩ => ⟨he.trans (by kernel_rfl), hk⟩
theorem escBegun_no (w : World) : Calls Tryz.prog 102 #[.string ⟨#[38, 110, 111, 59]⟩] w fun e w' =>
    e = .returned (.tuple #[.string ⟨#[]⟩, .int .i64 1]) ∧ Keeps [] w w' :=
  (strict_any _ w (by show (4 : Nat) ≤ maxLen; unfold maxLen; omega)).mono fun _ _ ⟨he, hk⟩ => ⟨he.trans (by kernel_rfl), hk⟩
theorem escBegun_apos (w : World) : Calls Tryz.prog 102 #[.string ⟨#[38, 97, 112, 111, 115, 59]⟩] w fun e w' =>
    e = .returned (.tuple #[.string ⟨#[39]⟩, .int .i64 0]) ∧ Keeps [] w w' :=
  (strict_any _ w (by show (6 : Nat) ≤ maxLen; unfold maxLen; omega)).mono fun _ _ ⟨he, hk⟩ => ⟨he.trans (by kernel_rfl), hk⟩
set_option maxRecDepth 100000 in
set_option maxHeartbeats 1000000 in
theorem escBegun_any (w : World) : Calls Tryz.prog 31 #[] w fun e w' => e = .returned (.bool true) ∧ Keeps [] w w' := by
  go_enter Tryz.func31, Tryz.ntmps31
  go_wp2_with fail
  refine (escBegun_put _).mono ?_
  rintro e w1 ⟨rfl, hk1⟩
  go_wp2_with fail
  refine (escBegun_take _).mono ?_
  rintro e w2 ⟨rfl, hk2⟩
  go_wp2_with fail
  refine (escBegun_no _).mono ?_
  rintro e w3 ⟨rfl, hk3⟩
  go_wp2_with fail
  refine (escBegun_apos _).mono ?_
  rintro e w4 ⟨rfl, hk4⟩
  go_wp2_with fail
  go_ret
  exact ⟨rfl, ((hk1.trans hk2).trans hk3).trans hk4⟩
end Go.Proofs.YtlcljanibjdejaaGreat
namespace Go.Proofs.YtlcljanibjdejaaGreat
end Go.Proofs.YtlcljanibjdejaaGreat
namespace Go.Proofs.YtlcljanibjdejaaGreat
open Go.RowKit
theorem app_str (a b : ByteArray) : (a ++ b).data.toList = a.data.toList ++ b.data.toList := by simp
theorem app_eq (l : List UInt8) (t : ByteArray) (r : List UInt8) (h : r = l ++ t.data.toList) : Value.string ((⟨l.toArray⟩ : ByteArray) ++ t) = Value.string ⟨r.toArray⟩ := by
  have : (⟨l.toArray⟩ : ByteArray) ++ t = ⟨r.toArray⟩ := WideShapes.bytes_inj (by rw [app_str, h])
  rw [this]
theorem one_byte (s : ByteArray) (k : Nat) (hk : k < s.size) : (s.extract k (k + 1)).data.toList = [s[k]] := by
  have hl : k < s.data.toList.length := by simpa using hk
  rw [Lib.extract_data, Nat.add_sub_cancel_left, List.drop_eq_getElem_cons hl]
  simp
  rfl
set_option maxHeartbeats 2000000 in
theorem putOf_any (s : ByteArray) (w : World) (hs : s.size ≤ 2000000) :
    Calls Tryz.prog 63 #[.string s] w fun e w' => e = .returned (.string ⟨(putL s.data.toList).toArray⟩) ∧ w' = w := by
  rw [← putTo_all]
  go_enter Tryz.func63, Tryz.ntmps63
  go_wp2_with fail
  go_loop [3, 4] (fun o i => ∃ k : Nat, k ≤ s.size ∧ i = .int .i64 k ∧ o = .string ⟨(putTo s k).toArray⟩) (fun _ i => s.size - (intOf i).toNat)
  case atStart => exact ⟨0, Nat.zero_le _, rfl, by rw [putTo_zero]⟩
  case round =>
    obtain ⟨k, hk, rfl, rfl⟩ := hrel
    have hlen := putTo_len s k
    have hlen2 : (⟨(putTo s k).toArray⟩ : ByteArray).size = (putTo s k).length := by simp [ByteArray.size]
    by_cases hlt : k < s.size
    · have HS := hide (putTo_succ s k hlt)
      by_cases h1 : s[k] = 38
      · have h1' : (s[k].toNat : Int) = 38 := by rw [h1]; rfl
        have HB := hide (show putB s[k] = putB 38 from by rw [h1])
        clear h1
        go_wp2
        go_round
        case rel => exact ⟨k + 1, by omega, by go_num, app_eq _ _ _ (by rw [HS.out, HB.out]; rfl)⟩
        case measure => simp [intOf]; omega
      by_cases h2 : s[k] = 60
      · have h2' : (s[k].toNat : Int) = 60 := by rw [h2]; rfl
        have HB := hide (show putB s[k] = putB 60 from by rw [h2])
        clear h1 h2
        go_wp2
        go_round
        case rel => exact ⟨k + 1, by omega, by go_num, app_eq _ _ _ (by rw [HS.out, HB.out]; rfl)⟩
        case measure => simp [intOf]; omega
      by_cases h3 : s[k] = 62
      · have h3' : (s[k].toNat : Int) = 62 := by rw [h3]; rfl
        have HB := hide (show putB s[k] = putB 62 from by rw [h3])
        clear h1 h2 h3
        go_wp2
        go_round
        case rel => exact ⟨k + 1, by omega, by go_num, app_eq _ _ _ (by rw [HS.out, HB.out]; rfl)⟩
        case measure => simp [intOf]; omega
      by_cases h4 : s[k] = 34
      · have h4' : (s[k].toNat : Int) = 34 := by rw [h4]; rfl
        have HB := hide (show putB s[k] = putB 34 from by rw [h4])
        clear h1 h2 h3 h4
        go_wp2
        go_round
        case rel => exact ⟨k + 1, by omega, by go_num, app_eq _ _ _ (by rw [HS.out, HB.out]; rfl)⟩
        case measure => simp [intOf]; omega
      have e1 : ((s[k].toNat : Int) == 38) = false := byte_no (d := 38) rfl h1
      have e2 : ((s[k].toNat : Int) == 60) = false := byte_no (d := 60) rfl h2
      have e3 : ((s[k].toNat : Int) == 62) = false := byte_no (d := 62) rfl h3
      have e4 : ((s[k].toNat : Int) == 34) = false := byte_no (d := 34) rfl h4
      have HB := hide (show putB s[k] = [s[k]] from by simp [putB, h1, h2, h3, h4])
      clear h1 h2 h3 h4
      go_wp2
      go_round
      case rel => exact ⟨k + 1, by omega, by go_num, app_eq _ _ _ (by rw [HS.out, HB.out, one_byte s k hlt])⟩
      case measure => simp [intOf]; omega
    · have he : k = s.size := by omega
      subst he
      go_wp2
      go_ret
      exact ⟨rfl, rfl⟩
end Go.Proofs.YtlcljanibjdejaaGreat
namespace Go.Proofs.YtlcljanibjdejaaGreat
open Go.RowKit
end Go.Proofs.YtlcljanibjdejaaGreat
namespace Go.Proofs.YtlcljanibjdejaaGreat
open Go.RowKit
end Go.Proofs.YtlcljanibjdejaaGreat
namespace Go.Proofs.YtlcljanibjdejaaGreat
open Go.RowKit Go.Maps
def bT : List Tok := [⟨2, [98], [], []⟩, textTok [120], ⟨3, [98], [], []⟩, textTok [121]]
def bL : List Nd := [.mk [98] [] [] [textN [120]], textN [121]]
def pT : List Tok := [⟨2, [112], [], []⟩, textTok [97, 32, 32, 98], ⟨3, [112], [], []⟩, textTok [99], ⟨2, [98, 114], [], []⟩, textTok [100], ⟨2, [98], [], []⟩, textTok [101], ⟨3, [98], [], []⟩]
def bS : List UInt8 := [60, 98, 62, 120, 60, 47, 98, 62, 121]
def pS : List UInt8 := [60, 112, 62, 97, 32, 32, 98, 60, 47, 112, 62, 99, 60, 98, 114, 62, 100, 60, 98, 62, 101, 60, 47, 98, 62]
theorem b_name : isNameL [98] = true ∧ isNameL [112] = true ∧ isNameL [98, 114] = true := by decide
theorem b_read : readL bS = bT := by
  have h := read_printed bT (by simp [bT, chkL, chkFrom, chkT, chkA, textTok, b_name])
  rwa [show toksP bT = bS from by decide] at h
theorem p_read : readL pS = pT := by
  have h := read_printed pT (by simp [pT, chkL, chkFrom, chkT, chkA, textTok, b_name])
  rwa [show toksP pT = pS from by decide] at h
theorem b_build : buildL bT = bL := by
  have c1 : closedL [[]] [98] = 1 := by decide
  have i1 : innerL (· == [98]) (fun _ => false) [[], [98]] = 1 := by decide
  have e1 : emptyN [98] = false := by decide
  simp [bT, bL, buildL, St.step, textTok, St.start, St.openTag, St.openIn, St.closeTag, St.names, St.all, St.closeFrom, St.close, St.pop, St.endText, Op.put, Op.nd, textN, c1, i1, e1]
theorem p_spell : spellL (buildL pT) = [32, 97, 32, 32, 98, 32, 99, 32, 32, 100, 101] := by
  have c1 : closedL [[]] [98] = 1 := by decide
  have c2 : closedL [[]] [112] = 1 := by decide
  have c3 : closedL [[]] [98, 114] = 1 := by decide
  have i1 : innerL (· == [98]) (fun _ => false) [[], [98]] = 1 := by decide
  have i2 : innerL (· == [112]) (fun _ => false) [[], [112]] = 1 := by decide
  have e1 : emptyN [98] = false := by decide
  have e2 : emptyN [112] = false := by decide
  have e3 : emptyN [98, 114] = true := by decide
  simp [pT, buildL, St.step, textTok, St.start, St.openTag, St.openIn, St.closeTag, St.names, St.all, St.closeFrom, St.close, St.pop, St.endText, St.put, Op.put, Op.nd, textN, spellL, blankN, partsN, c1, c2, c3, i1, i2, e1, e2, e3]
theorem b_words : wordsS bS = [120, 121] := by
  unfold wordsS
  rw [b_read, b_build, words_norm, show spellL bL = [120, 121] from by simp [bL, spellL, blankN, partsN, textN]]
  decide
theorem p_words : wordsS pS = [97, 32, 98, 32, 99, 32, 100, 101] := by
  unfold wordsS
  rw [p_read, p_spell, words_norm]
  decide
theorem none_read : readL [] = [] := read_printed [] rfl
theorem none_build : buildL [] = [] := by simp [buildL, St.start, St.closeFrom, St.close, St.endText]
theorem none_words : wordsS [] = [] := by
  unfold wordsS
  rw [none_read, none_build, words_norm]
  simp [spellL, normF, fieldsF, joinF]
theorem b_clean : cleanS bS = true := by
  unfold cleanS
  rw [b_read, b_build, show flatL bL = bT from by simp [bL, bT, flatL, textN, emptyN, textTok], show toksP bT = bS from by decide, show isE bL = 0 from (isE_stands bL).2 (by simp [bL, AllSt, standE, attrsE, allowedN, textN])]
  simp
theorem none_clean : cleanS [] = true := by
  unfold cleanS
  rw [none_read, none_build]
  simp [isE, flatL, toksP]
def rack0 : En := ⟨[98], [78, 101, 119], [], 9, bS⟩
def rack1 : En := ⟨[97], [], [], 5, []⟩
theorem rack_eq : rackS = ⟨[rack0, rack1], [[97]]⟩ := rfl
theorem rack0_chk : chkEn rack0 = 0 := by simp [chkEn, rack0, b_clean]; simp [bS]
theorem rack1_chk : chkEn rack1 = 0 := by simp [chkEn, rack1, none_clean]
theorem rack_chk : chkSh rackS = 0 := by
  rw [rack_eq]
  simp [chkSh, chkEs, rack0_chk, rack1_chk, backE, chkRead, notUp]
  simp [rack0, rack1, ordE, cmpI]
theorem rack_fit : ∀ x ∈ rackS.es, FitE x := by
  intro x hx
  rw [rack_eq] at hx
  simp only [List.mem_cons, List.not_mem_nil, or_false] at hx
  rcases hx with rfl | rfl <;> simp [FitE, maxLen, rack0, rack1, bS]
theorem rack0_new : hasW rack0 [110, 101, 119] = true := by
  unfold hasW
  rw [show standsW [110, 101, 119] rack0.title = true from by decide]
  rfl
theorem rack1_new : hasW rack1 [110, 101, 119] = false := by
  unfold hasW
  rw [show wordsS rack1.html = [] from none_words]
  decide
theorem rack0_xy : hasW rack0 [88, 89] = true := by
  unfold hasW
  rw [show wordsS rack0.html = [120, 121] from b_words]
  decide
theorem rack_facts : chkSh rackS = 0 ∧ (∀ x ∈ rackS.es, FitE x) ∧ wordsS pS = [97, 32, 98, 32, 99, 32, 100, 101] ∧ chkWord [110, 101, 119] = 0 ∧ hasAns rack0 [88, 89] = true ∧ chkHas rack0 [88, 89] = 0 ∧ haveW rackS.es [110, 101, 119] = [[98]] := by
  have hh : chkHas rack0 [88, 89] = 0 := by simp [chkHas, rack0_chk, chkWord]
  refine ⟨rack_chk, rack_fit, p_words, by decide, by simp [hasAns, hh, rack0_xy], hh, ?_⟩
  rw [rack_eq]
  simp [haveW, rack0_new, rack1_new]
  rfl
theorem field64 (a b : Value) (w : World) : (Instr.field 64 (.agg #[a, b]) 0).run Tryz.prog w = .ok a w := by kernel_rfl
set_option maxRecDepth 4000 in
set_option maxHeartbeats 4000000 in
theorem findBegun_any (w : World) (hM : HasMax w) : Calls Tryz.prog 62 #[] w fun e w' => e = .returned (.bool true) ∧ Keeps [] w w' := by
  have nn : ∀ g, g ∉ ([] : List Nat) := fun _ => List.not_mem_nil
  obtain ⟨r0, r1, r2, r4, r5, r6, r7⟩ := rack_facts
  have hfd := field64
  have hf1 := hide (find57_all pS w hM (by decide))
  rw [r2] at hf1
  unfold pS at hf1
  have hrk := hide (fun w => rack_any w)
  have hhas := hide (fun w1 (hk : Keeps [] w w1) => has58_any rack0 [88, 89] w1 (hM.keeps hk (nn _)) (r1 _ (by simp [rack_eq])) (by simp [maxLen]))
  rw [r5, r6] at hhas
  have hall := hide (fun w1 (hk : Keeps [] w w1) ev rv he hr => all_loop w1 ev rv rackS [110, 101, 119] he hr (hM.keeps hk (nn _)) r0 r4 r1)
  rw [r7] at hall
  have hsm := hide (fun w1 va vb ha hb => sameTexts_any w1 va vb [[98]] [[98]] ha hb)
  clear r0 r1 r2 r4 r5 r6 r7 hM
  go_enter Tryz.func62, Tryz.ntmps62
  go_wp2_with fail
  refine hf1.out.mono ?_
  rintro e w1 ⟨rfl, hk1⟩
  have HK1 := hide hk1
  clear hk1
  go_wp2_with fail
  refine (hrk.out w1).mono ?_
  rintro e w2 ⟨g2, h2, rfl, hl2, hr2, hk2⟩
  have HK2 := hide (HK1.out.trans hk2)
  obtain ⟨_, _, e9, hc2⟩ := hl2.addr (by omega)
  injection e9 with e9
  injection e9 with e91 e92 e93
  subst e91 e92
  obtain ⟨a0, a1, a2, a3, a4⟩ := lies_en hc2 0 (by simp [rackS])
  simp only [Nat.zero_mul, Nat.zero_add] at a0 a1 a2 a3 a4
  clear hl2 hr2 hc2 hk2
  go_wp2_with fail
  refine (hhas.out w2 HK2.out).mono ?_
  rintro e w3 ⟨rfl, hk3⟩
  have HK3 := hide (HK2.out.trans hk3)
  clear hk3 a0 a1 a2 a3 a4
  go_wp2_with fail
  refine (hrk.out w3).mono ?_
  rintro e w4 ⟨g4, h4, rfl, hl4, hr4, hk4⟩
  have HK4 := hide (HK3.out.trans hk4)
  have HA := hide (hall.out w4 HK4.out _ _ hl4 hr4)
  clear hl4 hr4 hk4
  go_wp2_with fail
  refine HA.out.mono ?_
  rintro e w5 ⟨v5, rfl, ho5, hk5⟩
  obtain ⟨o5, c5, rfl⟩ := row_form ho5
  have HK5 := hide (HK4.out.trans hk5)
  have HL5 := hide (Lies.of_row ho5)
  clear hk5 ho5
  simp only [List.length_cons, List.length_nil, Nat.zero_add] at *
  obtain ⟨W6, hW6⟩ : ∃ W, w5.alloc (.cells #[.string ⟨#[98]⟩] 9) = W := ⟨_, rfl⟩
  have hk6 : Keeps [] w5 W6 := by rw [← hW6]; exact (Keeps.refl [] w5).alloc _
  have hl6 : Lies W6 (.slice (some ⟨w5.heap.size, 0, none⟩) 1 1) 1 1 (idCs [[98]]) := lies_lit (z := 1) rfl (by unfold maxLen; omega) hW6
  have HC6 := hide (hsm.out W6 _ _ (HL5.out.keeps hk6) hl6)
  have HK6 := hide (HK5.out.trans hk6)
  have HW6 := hide hW6
  clear hl6 hk6 hW6
  go_wp2_with fail
  rw [HW6.out]
  refine HC6.out.mono ?_
  rintro e w7 ⟨rfl, hk7⟩
  go_wp2_with fail
  go_ret
  exact ⟨rfl, HK6.out.trans hk7⟩
set_option maxRecDepth 8000 in
set_option maxHeartbeats 8000000 in
theorem findMarked_law (a b : List UInt8) (w : World) (hab : a.length + b.length ≤ 3000000) (hM : HasMax w) :
    Calls Tryz.prog 14 #[.string ⟨a.toArray⟩, .string ⟨b.toArray⟩] w fun e w' => e = .returned (.bool true) ∧ Keeps [] w w' := by
  have nn : ∀ g, g ∉ ([] : List Nat) := fun _ => List.not_mem_nil
  have hbg := hide (findBegun_any w hM)
  have hM := hide hM
  have za := str_size a
  have zb := str_size b
  have ww : wrap64 ((a.length : Int) + (b.length : Int)) = (a.length : Int) + (b.length : Int) := by unfold wrap64; omega
  by_cases h2 : 200 < a.length + b.length
  · have d : decide ((200 : Int) < (a.length : Int) + (b.length : Int)) = true := by simp; omega
    clear h2
    go_enter Tryz.func14, Tryz.ntmps14
    go_wp2_with fail
    refine hbg.out.mono ?_
    rintro e w1 ⟨rfl, hk1⟩
    have HK1 := hide hk1
    clear hk1
    go_wp2_with fail
    refine (escBegun_any w1).mono ?_
    rintro e w2 ⟨rfl, hk2⟩
    have HK2 := hide (HK1.out.trans hk2)
    clear hk2
    go_wp2_with fail
    go_ret
    exact ⟨rfl, HK2.out⟩
  · have d : decide ((200 : Int) < (a.length : Int) + (b.length : Int)) = false := by simp; omega
    have hna := norm_size (a ++ b)
    rw [List.length_append] at hna
    have pa := putL_le a
    have pb := putL_le b
    have px := putL_le (normF (a ++ b))
    have hpa := hide (fun w => putOf_any ⟨a.toArray⟩ w (by rw [str_size]; omega))
    have hpb := hide (fun w => putOf_any ⟨b.toArray⟩ w (by rw [str_size]; omega))
    have hpx := hide (fun w => putOf_any ⟨(normF (a ++ b)).toArray⟩ w (by rw [str_size]; omega))
    rw [str_list] at hpa hpb hpx
    have wx := hide (fun w1 (hk : Keeps [] w w1) => find57_all (putL a ++ putL b) w1 (hM.out.keeps hk (nn _)) (by simp; omega))
    have wy := hide (fun w1 (hk : Keeps [] w w1) => find57_all ([60, 98, 62] ++ putL a ++ [60, 47, 98, 62, 60, 97, 62] ++ putL b ++ [60, 47, 97, 62]) w1 (hM.out.keeps hk (nn _)) (by simp; omega))
    have wz := hide (fun w1 (hk : Keeps [] w w1) => find57_all ([32, 60, 101, 109, 62] ++ putL a ++ putL b ++ [60, 47, 101, 109, 62, 10]) w1 (hM.out.keeps hk (nn _)) (by simp; omega))
    have ww' := hide (fun w1 (hk : Keeps [] w w1) => find57_all (putL (normF (a ++ b))) w1 (hM.out.keeps hk (nn _)) (by omega))
    have ez : wordsS ([32, 60, 101, 109, 62] ++ putL a ++ putL b ++ [60, 47, 101, 109, 62, 10]) = normF (a ++ b) := by
      have := words_em (a ++ b)
      rw [putL_append] at this
      simpa using this
    rw [← putL_append, words_put] at wx
    rw [putL_append] at wx
    rw [words_bold] at wy
    rw [ez] at wz
    rw [words_put, normF_again] at ww'
    have c0 := app2 (putL a) (putL b)
    have y0 := app2 [60, 98, 62] (putL a)
    have y1 := app2 ([60, 98, 62] ++ putL a) [60, 47, 98, 62, 60, 97, 62]
    have y2 := app2 ([60, 98, 62] ++ putL a ++ [60, 47, 98, 62, 60, 97, 62]) (putL b)
    have y3 := app2 ([60, 98, 62] ++ putL a ++ [60, 47, 98, 62, 60, 97, 62] ++ putL b) [60, 47, 97, 62]
    have q0 := app2 [32, 60, 101, 109, 62] (putL a)
    have q1 := app2 ([32, 60, 101, 109, 62] ++ putL a) (putL b)
    have q2 := app2 ([32, 60, 101, 109, 62] ++ putL a ++ putL b) [60, 47, 101, 109, 62, 10]
    obtain ⟨C0, e0⟩ : ∃ S, (⟨(putL a).toArray⟩ : ByteArray) ++ ⟨(putL b).toArray⟩ = S := ⟨_, rfl⟩
    obtain ⟨Y0, i0⟩ : ∃ S, (⟨#[60, 98, 62]⟩ : ByteArray) ++ ⟨(putL a).toArray⟩ = S := ⟨_, rfl⟩
    obtain ⟨Y1, i1⟩ : ∃ S, Y0 ++ ⟨#[60, 47, 98, 62, 60, 97, 62]⟩ = S := ⟨_, rfl⟩
    obtain ⟨Y2, i2⟩ : ∃ S, Y1 ++ ⟨(putL b).toArray⟩ = S := ⟨_, rfl⟩
    obtain ⟨Y3, i3⟩ : ∃ S, Y2 ++ ⟨#[60, 47, 97, 62]⟩ = S := ⟨_, rfl⟩
    obtain ⟨Q0, j0⟩ : ∃ S, (⟨#[32, 60, 101, 109, 62]⟩ : ByteArray) ++ ⟨(putL a).toArray⟩ = S := ⟨_, rfl⟩
    obtain ⟨Q1, j1⟩ : ∃ S, Q0 ++ ⟨(putL b).toArray⟩ = S := ⟨_, rfl⟩
    obtain ⟨Q2, j2⟩ : ∃ S, Q1 ++ ⟨#[60, 47, 101, 109, 62, 10]⟩ = S := ⟨_, rfl⟩
    have f0 : C0 = ⟨(putL a ++ putL b).toArray⟩ := by rw [← e0]; exact c0
    have g0 : Y0 = ⟨([60, 98, 62] ++ putL a).toArray⟩ := by rw [← i0]; exact y0
    have g1 : Y1 = ⟨([60, 98, 62] ++ putL a ++ [60, 47, 98, 62, 60, 97, 62]).toArray⟩ := by rw [← i1, g0]; exact y1
    have g2 : Y2 = ⟨([60, 98, 62] ++ putL a ++ [60, 47, 98, 62, 60, 97, 62] ++ putL b).toArray⟩ := by rw [← i2, g1]; exact y2
    have g3 : Y3 = ⟨([60, 98, 62] ++ putL a ++ [60, 47, 98, 62, 60, 97, 62] ++ putL b ++ [60, 47, 97, 62]).toArray⟩ := by rw [← i3, g2]; exact y3
    have k0 : Q0 = ⟨([32, 60, 101, 109, 62] ++ putL a).toArray⟩ := by rw [← j0]; exact q0
    have k1 : Q1 = ⟨([32, 60, 101, 109, 62] ++ putL a ++ putL b).toArray⟩ := by rw [← j1, k0]; exact q1
    have k2 : Q2 = ⟨([32, 60, 101, 109, 62] ++ putL a ++ putL b ++ [60, 47, 101, 109, 62, 10]).toArray⟩ := by rw [← j2, k1]; exact q2
    rw [← f0] at wx
    rw [← g3] at wy
    rw [← k2] at wz
    have s0 : Y0.size = 3 + (putL a).length := by rw [g0, str_size]; simp; omega
    have s1 : Y1.size = 10 + (putL a).length := by rw [g1, str_size]; simp; omega
    have s2 : Y2.size = 10 + (putL a).length + (putL b).length := by rw [g2, str_size]; simp; omega
    have t0 : Q0.size = 5 + (putL a).length := by rw [k0, str_size]; simp; omega
    have t1 : Q1.size = 5 + (putL a).length + (putL b).length := by rw [k1, str_size]; simp; omega
    have spa := str_size (putL a)
    have spb := str_size (putL b)
    have hnn := strEq (normF (a ++ b)) (normF (a ++ b))
    rw [decide_eq_true rfl] at hnn
    generalize normF (a ++ b) = X at *
    generalize putL a = PA at *
    generalize putL b = PB at *
    clear c0 y0 y1 y2 y3 q0 q1 q2 f0 g0 g1 g2 g3 k0 k1 k2 h2 ez
    have v0 : ¬ 9223372036854775807 < PA.length + PB.length := by omega
    have v1 : ¬ 9223372036854775807 < 3 + PA.length := by omega
    have v2 : ¬ 9223372036854775807 < 3 + PA.length + 7 := by omega
    have v3 : ¬ 9223372036854775807 < 10 + PA.length + PB.length := by omega
    have v4 : ¬ 9223372036854775807 < 10 + PA.length + PB.length + 4 := by omega
    have v5 : ¬ 9223372036854775807 < 5 + PA.length := by omega
    have v6 : ¬ 9223372036854775807 < 5 + PA.length + PB.length := by omega
    have v7 : ¬ 9223372036854775807 < 5 + PA.length + PB.length + 6 := by omega
    go_enter Tryz.func14, Tryz.ntmps14
    go_wp2_with fail
    refine hbg.out.mono ?_
    rintro e w1 ⟨rfl, hk1⟩
    have HK1 := hide hk1
    clear hk1
    go_wp2_with fail
    refine (escBegun_any w1).mono ?_
    rintro e w2 ⟨rfl, hk2⟩
    have HK2 := hide (HK1.out.trans hk2)
    clear hk2
    go_wp2_with fail
    refine (hpa.out w2).mono ?_
    rintro e w3 ⟨rfl, h9⟩
    subst h9
    go_wp2_with fail
    refine (hpb.out _).mono ?_
    rintro e w4 ⟨rfl, h9⟩
    subst h9
    go_wp2_with fail
    refine (wx.out _ HK2.out).mono ?_
    rintro e w5 ⟨rfl, hk5⟩
    have HK5 := hide (HK2.out.trans hk5)
    clear hk5
    go_wp2_with fail
    refine (wy.out _ HK5.out).mono ?_
    rintro e w6 ⟨rfl, hk6⟩
    have HK6 := hide (HK5.out.trans hk6)
    clear hk6
    go_wp2_with fail
    refine (wz.out _ HK6.out).mono ?_
    rintro e w7 ⟨rfl, hk7⟩
    have HK7 := hide (HK6.out.trans hk7)
    clear hk7
    go_wp2_with fail
    refine (hpx.out w7).mono ?_
    rintro e w8 ⟨rfl, h9⟩
    subst h9
    go_wp2_with fail
    refine (ww'.out _ HK7.out).mono ?_
    rintro e w9 ⟨rfl, hk9⟩
    have HK9 := hide (HK7.out.trans hk9)
    clear hk9
    go_wp2_with fail
    go_ret
    exact ⟨rfl, HK9.out⟩
end Go.Proofs.YtlcljanibjdejaaGreat
namespace Go.Proofs.YtlcljanibjdejaaGreat
open Go.RowKit Go.Maps
open Go.ChangeShapes Go.WideShapes Go.ChangeAt
open Go.ChangeMaps (open_string shut_string)
theorem knob_own : ownKnob Tryz.prog.godebug = none := by kernel_rfl
theorem laid_out : laidOutB Tryz.prog = true := by kernel_rfl
theorem prog_maps : mapsRowed Tryz.prog = true := by kernel_rfl
theorem prog_plain : (true == Tryz.prog.plainKeys) = true := by kernel_rfl
theorem prog_heard : Tryz.prog.stopsHeard = true := by kernel_rfl
theorem prog_enter : Tryz.prog.mayEnter = true := by kernel_rfl
theorem prog_lifted : (false == Tryz.prog.liftsFinal) = true := by kernel_rfl
theorem prog_make : (Tryz.prog.make == some .cut) = true := by kernel_rfl
theorem max_shaped (W : World) (h : W.ShapedOpen Tryz.prog) : HasMax W := Tryz.laysM143.s1_3 W h
/-- A row with a condition, whose contract is told the world's shape too. -/
theorem of_cond_shaped {H : Type} {enc : TypeId × Value → H} {a : Assume} {C : Checked} {os : Os} {f : FuncId} {fn : Func} {s : OpenSpec} {k : (H : Type) → List (DataW H) → Bool} (hk : s.cond = some k) {F : Stop.Interp} {conds : List PathCond} {apart fresh handsOn again : Bool}
    (own : ownKnob C.prog.godebug = none) (started : os.Started) (noInit : C.prog.inits.idxOf? f = none) (hfn : C.prog.funcs[f]? = some fn)
    (witness : ∃ (w : World) (tape : Tape) (i : Input), w.os = os ∧ (w.forCall tape i).Shaped C.prog ∧ i.vars = [] ∧ Input.okWide C.prog (w.forCall tape i) .any w.heap.size f i ∧
      s.pre6 enc C.prog fn conds apart (w.forCall tape i).memory i.args ∧ a.holds C.prog (lone (Frame.enter C.prog f i.args .normal) [] (w.forCall tape i)))
    (contract : ∀ (W : World) (base : Nat) (args : Array Value) (ds gs : List (DataW H)) (before : List MemPlace),
      (∀ (j : Nat) t v, fn.params[j]? = some t → args[j]? = some v → Value.okWide C.prog W .any base t v) →
      DataW.Whole enc C.prog fn.params.toList s.vars apart W args.toList ds gs before →
      k H (ds ++ gs) = true → W.ShapedOpen C.prog →
      Calls C.prog f args W fun e W' => ∃ v, e = .returned v ∧ (s.at F).post enc C.prog fn apart fresh handsOn again W args v W') :
    ReturnsInHanded a C os f .any (s.pre6 enc C.prog fn conds apart) ((s.at F).post enc C.prog fn apart fresh handsOn again) := by
  refine returnsInHanded_of_calls own started noInit witness ?_
  intro w tape i _ hsh _ hok hpre hholds
  obtain ⟨_, _, _, fn', hfn', _, _, _, _, hval⟩ := hok
  have e : fn' = fn := Option.some.inj (hfn'.symm.trans hfn)
  subst e
  obtain ⟨ds, gs, before, hw, hc, hkk⟩ := (OpenSpec.pre_some hk conds apart _ _).1 hpre.1
  have hw' := DataW.Whole.of_heap (w' := w.forCall tape i) (by rfl) hw
  refine (contract (w.forCall tape i) w.heap.size i.args ds gs before hval hw' hkk hsh).mono fun e W' ⟨v, he, hp⟩ => ?_
  subst he
  exact ChangeSpec.post_blind hp
end Go.Proofs.YtlcljanibjdejaaGreat
