/- Take as a function on lists of bytes. -/
import Derived.Test.YtngojdajamgababGreatMath
namespace Go.Proofs.YtngojdajamgababGreat

/-- Take, with as many steps as are allowed. -/
def takeF : Nat → List UInt8 → List UInt8 × Bool
  | 0, _ => ([], true)
  | _ + 1, [] => ([], true)
  | f + 1, c :: l =>
    if c = 38 then ((takeOne (c :: l)).1 ++ (takeF f ((c :: l).drop (takeOne (c :: l)).2.1)).1, (takeOne (c :: l)).2.2 && (takeF f ((c :: l).drop (takeOne (c :: l)).2.1)).2)
    else (c :: (takeF f l).1, (takeF f l).2)

/-- Take: the text, and whether Strict answers it. -/
def takeL (l : List UInt8) : List UInt8 × Bool := takeF l.length l

theorem takeF_more : ∀ (f g : Nat) (l : List UInt8), l.length ≤ f → l.length ≤ g → takeF f l = takeF g l
  | 0, g, l, h1, _ => by
    have : l = [] := List.eq_nil_of_length_eq_zero (by omega)
    subst this
    cases g <;> rfl
  | f + 1, 0, l, _, h2 => by
    have : l = [] := List.eq_nil_of_length_eq_zero (by omega)
    subst this
    rfl
  | f + 1, g + 1, [], _, _ => rfl
  | f + 1, g + 1, c :: l, h1, h2 => by
    simp only [List.length_cons] at h1 h2
    have hle := takeOne_le (c :: l) (by simp)
    simp only [List.length_cons] at hle
    have ha := takeF_more f g ((c :: l).drop (takeOne (c :: l)).2.1) (by simp only [List.length_drop, List.length_cons]; omega) (by simp only [List.length_drop, List.length_cons]; omega)
    have hb := takeF_more f g l (by omega) (by omega)
    simp only [takeF, ha, hb]

theorem takeL_nil : takeL [] = ([], true) := rfl

theorem takeL_and (c : UInt8) (l : List UInt8) (h : c = 38) :
    takeL (c :: l) = ((takeOne (c :: l)).1 ++ (takeL ((c :: l).drop (takeOne (c :: l)).2.1)).1, (takeOne (c :: l)).2.2 && (takeL ((c :: l).drop (takeOne (c :: l)).2.1)).2) := by
  have hle := takeOne_le (c :: l) (by simp)
  simp only [List.length_cons] at hle
  have e : takeL ((c :: l).drop (takeOne (c :: l)).2.1) = takeF l.length ((c :: l).drop (takeOne (c :: l)).2.1) :=
    takeF_more _ _ _ (Nat.le_refl _) (by simp only [List.length_drop, List.length_cons]; omega)
  rw [e]
  unfold takeL
  rw [List.length_cons, takeF, if_pos h]

theorem takeL_other (c : UInt8) (l : List UInt8) (h : c ≠ 38) : takeL (c :: l) = (c :: (takeL l).1, (takeL l).2) := by
  unfold takeL
  rw [List.length_cons, takeF, if_neg h]

theorem takeL_pass : ∀ l : List UInt8, takeL l = (l.takeWhile noAnd ++ (takeL (l.drop (l.takeWhile noAnd).length)).1, (takeL (l.drop (l.takeWhile noAnd).length)).2)
  | [] => by simp [takeL_nil]
  | c :: l => by
    by_cases h : c = 38
    · have : noAnd c = false := by simp [noAnd, h]
      simp [this]
    · have hn : noAnd c = true := by simp [noAnd, h]
      rw [takeL_other c l h]
      have ih := takeL_pass l
      rw [ih]
      simp [hn]

/-- A text without & is taken as it is. -/
theorem takeL_plain (l : List UInt8) (h : ∀ c ∈ l, c ≠ 38) : takeL l = (l, true) := by
  induction l with
  | nil => rfl
  | cons c l ih =>
    rw [takeL_other c l (h c (by simp)), ih fun d hd => h d (by simp [hd])]

/-- What is put is taken as it was. -/
theorem take_amp (l : List UInt8) : takeOne (38 :: 97 :: 109 :: 112 :: 59 :: l) = ([38], 5, true) := by
  simp [takeOne, signL, inName, toldL, standsL, Lib.encodeRune, Lib.encodeRuneZ]
theorem take_lt (l : List UInt8) : takeOne (38 :: 108 :: 116 :: 59 :: l) = ([60], 4, true) := by
  simp [takeOne, signL, inName, toldL, standsL, Lib.encodeRune, Lib.encodeRuneZ]
theorem take_gt (l : List UInt8) : takeOne (38 :: 103 :: 116 :: 59 :: l) = ([62], 4, true) := by
  simp [takeOne, signL, inName, toldL, standsL, Lib.encodeRune, Lib.encodeRuneZ]
theorem take_quot (l : List UInt8) : takeOne (38 :: 113 :: 117 :: 111 :: 116 :: 59 :: l) = ([34], 6, true) := by
  simp [takeOne, signL, inName, toldL, standsL, Lib.encodeRune, Lib.encodeRuneZ]

theorem takeL_putB (c : UInt8) (l : List UInt8) : takeL (putB c ++ l) = (c :: (takeL l).1, (takeL l).2) := by
  unfold putB
  split
  · rename_i h; subst h
    simp only [List.cons_append, List.nil_append]
    rw [takeL_and _ _ rfl, take_amp]
    simp
  · split
    · rename_i h; subst h
      simp only [List.cons_append, List.nil_append]
      rw [takeL_and _ _ rfl, take_lt]
      simp
    · split
      · rename_i h; subst h
        simp only [List.cons_append, List.nil_append]
        rw [takeL_and _ _ rfl, take_gt]
        simp
      · split
        · rename_i h; subst h
          simp only [List.cons_append, List.nil_append]
          rw [takeL_and _ _ rfl, take_quot]
          simp
        · rename_i h _ _ _
          exact takeL_other c l h

theorem takeL_putL : ∀ l : List UInt8, takeL (putL l) = (l, true)
  | [] => rfl
  | c :: l => by
    have := takeL_putL l
    simp only [putL, List.flatMap_cons] at this ⊢
    rw [takeL_putB, this]
end Go.Proofs.YtngojdajamgababGreat
