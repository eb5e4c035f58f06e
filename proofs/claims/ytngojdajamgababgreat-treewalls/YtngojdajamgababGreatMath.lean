/- Signs that are told, as functions on lists of bytes: what Put, Take and Strict answer. -/
import Derived.Lib.RuneBytes
namespace Go.Proofs.YtngojdajamgababGreat

/-- What Put makes of one byte. -/
def putB (c : UInt8) : List UInt8 :=
  if c = 38 then [38, 97, 109, 112, 59]
  else if c = 60 then [38, 108, 116, 59]
  else if c = 62 then [38, 103, 116, 59]
  else if c = 34 then [38, 113, 117, 111, 116, 59]
  else [c]

/-- Put. -/
def putL (l : List UInt8) : List UInt8 := l.flatMap putB

theorem putB_le (c : UInt8) : (putB c).length ≤ 6 := by
  unfold putB
  repeat' split
  all_goals simp

theorem putL_le : ∀ l : List UInt8, (putL l).length ≤ 6 * l.length
  | [] => by simp [putL]
  | c :: l => by
    have h1 := putB_le c
    have h2 := putL_le l
    simp only [putL, List.flatMap_cons, List.length_append, List.length_cons] at h2 ⊢
    omega

theorem putL_append (a b : List UInt8) : putL (a ++ b) = putL a ++ putL b := by simp [putL]

/-- The digit that a byte tells; 16: none. -/
def digV (c : UInt8) : Nat :=
  if 48 ≤ c.toNat ∧ c.toNat ≤ 57 then c.toNat - 48
  else if 97 ≤ c.toNat ∧ c.toNat ≤ 102 then c.toNat - 97 + 10
  else if 65 ≤ c.toNat ∧ c.toNat ≤ 70 then c.toNat - 65 + 10
  else 16

theorem digV_le (c : UInt8) : digV c ≤ 16 := by
  unfold digV
  repeat' split
  all_goals omega

/-- Digits by a base, behind a number. -/
def numF (base : Nat) : Nat → List UInt8 → Option Nat
  | n, [] => some n
  | n, c :: l => if base ≤ digV c then none else numF base (n * base + digV c) l

def numL (base most : Nat) (l : List UInt8) : Option Nat := if l.length < 1 ∨ most < l.length then none else numF base 0 l

/-- The code point that stands between & and ; as a name. -/
def toldL (l : List UInt8) : Option Nat :=
  if l = [97, 109, 112] then some 38
  else if l = [108, 116] then some 60
  else if l = [103, 116] then some 62
  else if l = [113, 117, 111, 116] then some 34
  else if l = [97, 112, 111, 115] then some 39
  else if List.isPrefixOf [35, 120] l then numL 16 6 (l.drop 2)
  else if List.isPrefixOf [35] l then numL 10 7 (l.drop 1)
  else none

def inName (c : UInt8) : Bool := c != 59 && c != 38
def noAnd (c : UInt8) : Bool := c != 38

/-- What stands behind a &: the code point that is told, and how many bytes of it tell that. -/
def signL (l : List UInt8) : Option (Nat × Nat) :=
  if l[(l.takeWhile inName).length]? = some 59 then (toldL (l.takeWhile inName)).map fun n => (n, (l.takeWhile inName).length + 1) else none

def standsL (n : Nat) : Bool := decide (0 < n) && decide (n ≤ 1114111) && !(decide (55296 ≤ n) && decide (n ≤ 57343))

theorem numF_lt (base : Nat) : ∀ (l : List UInt8) (n k : Nat), numF base n l = some k → k < (n + 1) * base ^ l.length
  | [], n, k, h => by simp [numF] at h; subst h; simp
  | c :: l, n, k, h => by
    simp only [numF] at h
    split at h
    · simp at h
    · have := numF_lt base l _ _ h
      have h1 : (n * base + digV c + 1) ≤ (n + 1) * base := by rw [Nat.add_mul]; omega
      calc k < (n * base + digV c + 1) * base ^ l.length := this
        _ ≤ (n + 1) * base * base ^ l.length := Nat.mul_le_mul_right _ h1
        _ = (n + 1) * base ^ (c :: l).length := by rw [List.length_cons, Nat.pow_succ, Nat.mul_assoc, Nat.mul_comm base]

theorem numL_le {base most : Nat} (hb : 1 ≤ base) {l : List UInt8} {k : Nat} (h : numL base most l = some k) : k < base ^ most := by
  unfold numL at h
  split at h
  · simp at h
  · have := numF_lt base l 0 k h
    have h2 : base ^ l.length ≤ base ^ most := Nat.pow_le_pow_right hb (by omega)
    simp at this
    omega

theorem toldL_le {l : List UInt8} {n : Nat} (h : toldL l = some n) : n ≤ 16777216 := by
  unfold toldL at h
  repeat' split at h
  all_goals first
    | (simp at h; done)
    | (simp at h; omega)
    | (have := numL_le (by omega) h; omega)

/-- What is taken where a & stands: the bytes, how many bytes are passed, and whether Strict lets it. -/
def takeOne (l : List UInt8) : List UInt8 × Nat × Bool :=
  match signL (l.drop 1) with
  | some (n, m) => if standsL n then (Lib.encodeRune n, 1 + m, true) else (Lib.encodeRune 65533, 1 + m, false)
  | none => (l.take 1, 1, false)

theorem signL_le {l : List UInt8} {n m : Nat} (h : signL l = some (n, m)) : m ≤ l.length ∧ 1 ≤ m ∧ n ≤ 16777216 := by
  unfold signL at h
  split at h
  · rename_i hg
    have h1 := (List.getElem?_eq_some_iff.1 hg).1
    cases ht : toldL (l.takeWhile inName) with
    | none => rw [ht] at h; simp at h
    | some x =>
      rw [ht] at h
      simp at h
      have := toldL_le ht
      omega
  · simp at h

theorem encodeRune_len (r : Int) : 1 ≤ (Lib.encodeRune r).length ∧ (Lib.encodeRune r).length ≤ 4 := by
  have := Lib.encodeRuneZ_length r
  simpa [Lib.encodeRune] using this

theorem takeOne_le (l : List UInt8) (h : 1 ≤ l.length) : 1 ≤ (takeOne l).2.1 ∧ (takeOne l).2.1 ≤ l.length ∧ (takeOne l).1.length ≤ 4 := by
  unfold takeOne
  split
  · rename_i n m hs
    have := signL_le hs
    simp only [List.length_drop] at this
    split
    · have := encodeRune_len n; simp only; omega
    · have := encodeRune_len 65533; simp only; omega
  · simp; omega
end Go.Proofs.YtngojdajamgababGreat
