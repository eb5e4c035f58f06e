/- A sign at a place: what the document's loop over digits comes to. row: the bytes of a code point, as the document's answer makes them. signAt: the document's answer at a place where a & stands. TakeOf: the document's answer is what Take answers. -/
import Derived.Test.YtaeblkmkpfklkaaRef
import Derived.Test.YtaeblkmkpfklkaaTaken
import Derived.Laws.BytesArg
namespace Go.Proofs.Ytaeblkmkpfklkaa

/-- What signAt answers, of what stands behind the &. -/
def refT (l : List UInt8) : List UInt8 × Nat × Bool :=
  match signL l with
  | some (n, m) => if standsL n then (Lib.encodeRune n, 1 + m, true) else ([239, 191, 189], 1 + m, false)
  | none => ([], 0, false)

theorem stAt_and (s : ByteArray) (k : Nat) (hk : k < s.size) (hc : byteAt s k = 38) (p : List UInt8) : stAt s k (38 :: p) = p.isPrefixOf (s.data.toList.drop (k + 1)) := by
  rw [stAt, drop_byteAt s k hk, hc]
  simp

theorem refT_named {l p : List UInt8} {n : Nat} (h : (p ++ [59]).isPrefixOf l = true) (hp : ∀ c ∈ p, inName c = true) (ht : toldL p = some n) (hs : standsL n = true) : refT l = (Lib.encodeRune n, p.length + 2, true) := by
  obtain ⟨r, rfl⟩ := List.isPrefixOf_iff_prefix.1 h
  unfold refT
  rw [List.append_assoc, List.singleton_append, signL_named hp ht]
  simp [hs]
  omega

theorem refT_none {l : List UInt8} (h : signL l = none) : refT l = ([], 0, false) := by
  unfold refT; rw [h]

/-- A number by a base begins at a place. -/
def NumAt (s : ByteArray) (k fr base most : Nat) : Prop :=
  ∃ pre, s.data.toList.drop (k + 1) = pre ++ s.data.toList.drop fr ∧ (∀ c ∈ pre, inName c = true) ∧ fr = k + 1 + pre.length ∧ base ≤ 16 ∧
    toldL (pre ++ nm (s.data.toList.drop fr)) = numL base most (nm (s.data.toList.drop fr)) ∧ ∀ j, toldL (pre ++ (s.data.toList.drop fr).take j) = numL base most ((s.data.toList.drop fr).take j)

theorem num16 (s : ByteArray) (k : Nat) (h : List.isPrefixOf [35, 120] (s.data.toList.drop (k + 1)) = true) : NumAt s k (k + 3) 16 6 := by
  obtain ⟨r, hr⟩ := List.isPrefixOf_iff_prefix.1 h
  have e : s.data.toList.drop (k + 3) = r := by
    have : s.data.toList.drop (k + 3) = (s.data.toList.drop (k + 1)).drop 2 := by rw [List.drop_drop]
    rw [this, ← hr]; simp
  refine ⟨[35, 120], by rw [e, hr], by decide, rfl, by omega, told16 _, fun j => told16 _⟩

theorem head_take (l : List UInt8) (h : l.head? ≠ some 120) (j : Nat) : (l.take j).head? ≠ some 120 := by
  cases l with
  | nil => simp
  | cons c l => cases j <;> simp_all

theorem head_nm (l : List UInt8) (h : l.head? ≠ some 120) : (nm l).head? ≠ some 120 := by
  cases l with
  | nil => simp [nm]
  | cons c l =>
    unfold nm
    rw [List.takeWhile_cons]
    split
    · simpa using h
    · simp

theorem num10 (s : ByteArray) (k : Nat) (h : List.isPrefixOf [35] (s.data.toList.drop (k + 1)) = true) (h2 : List.isPrefixOf [35, 120] (s.data.toList.drop (k + 1)) = false) : NumAt s k (k + 2) 10 7 := by
  obtain ⟨r, hr⟩ := List.isPrefixOf_iff_prefix.1 h
  have e : s.data.toList.drop (k + 2) = r := by
    have : s.data.toList.drop (k + 2) = (s.data.toList.drop (k + 1)).drop 1 := by rw [List.drop_drop]
    rw [this, ← hr]; simp
  have hh : r.head? ≠ some 120 := by
    cases r with
    | nil => simp
    | cons c r =>
      rw [← hr] at h2
      intro hc
      simp at hc
      subst hc
      simp at h2
  refine ⟨[35], by rw [e, hr], by decide, rfl, by omega, ?_, fun j => ?_⟩
  · rw [e]; exact told10 _ (head_nm r hh)
  · rw [e]; exact told10 _ (head_take r hh j)

/-- What has been read of a number, behind j digits. -/
def digits (s : ByteArray) (fr base j : Nat) : Option Nat := numF base 0 ((s.data.toList.drop fr).take j)

theorem digits_succ (s : ByteArray) (fr base j m : Nat) (hk : fr + j < s.size) (h : digits s fr base j = some m) (hd : ¬ base ≤ digV s[fr + j]) : digits s fr base (j + 1) = some (m * base + digV s[fr + j]) := by
  have hl : j < (s.data.toList.drop fr).length := by rw [List.length_drop]; have := len_size s; omega
  unfold digits at h ⊢
  rw [List.take_succ_eq_append_getElem hl, numF_snoc, h, Option.bind_some]
  have e : (s.data.toList.drop fr)[j] = s[fr + j] := by simp; rfl
  rw [e, if_neg hd]

theorem digits_lt {s : ByteArray} {fr base j m most : Nat} (hb : 1 ≤ base) (hj : j ≤ most) (h : digits s fr base j = some m) : m < base ^ most := by
  have := numF_lt base _ _ _ h
  have h2 : base ^ ((s.data.toList.drop fr).take j).length ≤ base ^ most := Nat.pow_le_pow_right hb (by rw [List.length_take]; omega)
  simp at this
  simp at h2
  omega

theorem num_bad {s : ByteArray} {k fr base most j m : Nat} (hN : NumAt s k fr base most) (hm : digits s fr base j = some m) (hj : fr + j ≤ s.size)
    (hexit : s.size ≤ fr + j ∨ base ≤ digV (byteAt s (fr + j)) ∨ most < j) (hbad : j = 0 ∨ most < j ∨ s.size ≤ fr + j ∨ byteAt s (fr + j) ≠ 59) : refT (s.data.toList.drop (k + 1)) = ([], 0, false) := by
  obtain ⟨pre, h1, h2, h3, h4, h5, h6⟩ := hN
  have hl := len_size s
  refine refT_none ?_
  rw [h1]
  have e : s.data.toList.drop fr = (s.data.toList.drop fr).take j ++ (s.data.toList.drop fr).drop j := (List.take_append_drop j _).symm
  have ed : (s.data.toList.drop fr).drop j = s.data.toList.drop (fr + j) := List.drop_drop
  have el : ((s.data.toList.drop fr).take j).length = j := by rw [List.length_take, List.length_drop]; omega
  rw [e]
  refine signL_nonum (base := base) (most := most) (n := m) h2 h4 hm (by rw [← e]; exact h5) ?_ ?_
  · rw [ed, el]
    by_cases hz : s.size ≤ fr + j
    · exact .inl (List.drop_eq_nil_of_le (by omega))
    · rcases hexit with h | h | h
      · omega
      · exact .inr (.inl ⟨_, _, drop_byteAt s (fr + j) (by omega), h⟩)
      · exact .inr (.inr h)
  · rw [ed, el]
    rcases hbad with h | h | h | h
    · subst h; exact .inl (by simp)
    · exact .inr (.inl h)
    · exact .inr (.inr (.inl (List.drop_eq_nil_of_le (by omega))))
    · by_cases hz : s.size ≤ fr + j
      · exact .inr (.inr (.inl (List.drop_eq_nil_of_le (by omega))))
      · exact .inr (.inr (.inr ⟨_, _, drop_byteAt s (fr + j) (by omega), h⟩))

theorem num_good {s : ByteArray} {k fr base most j m : Nat} (hN : NumAt s k fr base most) (hm : digits s fr base j = some m) (hj : fr + j < s.size) (h0 : 1 ≤ j) (hmost : j ≤ most) (hc : byteAt s (fr + j) = 59) :
    signL (s.data.toList.drop (k + 1)) = some (m, fr + j - k) := by
  obtain ⟨pre, h1, h2, h3, h4, h5, h6⟩ := hN
  have hl := len_size s
  have el : ((s.data.toList.drop fr).take j).length = j := by rw [List.length_take, List.length_drop]; omega
  have e : s.data.toList.drop fr = (s.data.toList.drop fr).take j ++ 59 :: s.data.toList.drop (fr + j + 1) := by
    conv => lhs; rw [← List.take_append_drop j (s.data.toList.drop fr), List.drop_drop, drop_byteAt s (fr + j) hj, hc]
  rw [h1, e, signL_num (base := base) (most := most) (n := m) h2 h4 hm (by omega) (by omega) (h6 j), el]
  simp
  omega

theorem refT_good {s : ByteArray} {k m c : Nat} (h : signL (s.data.toList.drop (k + 1)) = some (m, c)) : refT (s.data.toList.drop (k + 1)) = if standsL m then (Lib.encodeRune m, 1 + c, true) else ([239, 191, 189], 1 + c, false) := by
  unfold refT; rw [h]
end Go.Proofs.Ytaeblkmkpfklkaa

namespace Go.Proofs.Ytaeblkmkpfklkaa
open Go.RowKit

theorem conv_new (W : World) (g : Nat) (hg : g = W.heap.size) (xs : List Int) :
    (convert 44 9 (.slice (some ⟨g, 0, none⟩) xs.length xs.length)).run Try.prog (W.alloc (.cells (xs.map (Value.int .u8)).toArray 5)) = .ok (.string (strOfNums xs)) (W.alloc (.cells (xs.map (Value.int .u8)).toArray 5)) := by
  subst hg
  refine run_convert_bytes_arg _ 44 5 Try.underlying44 Try.underlying5 W.heap.size 0 xs.length xs.length xs rfl ?_ 9 Try.underlying9
  intro i hi
  unfold World.cell?
  rw [show (⟨W.heap.size, 0 + i, none⟩ : Addr).block = W.heap.size from rfl, heap_alloc_new W (.cells (xs.map (Value.int .u8)).toArray 5)]
  simp [hi]

set_option maxHeartbeats 1000000 in
theorem row_one (n : Nat) (h0 : 1 ≤ n) (h1 : n < 128) (w : World) :
    Calls Try.prog 56 #[.int .i64 n] w fun e w' => e = .returned (.string (strOfNums [(n : Int)])) ∧ Keeps [] w w' := by
  have hc := fun x0 => conv_new w (w.heap.size) rfl [x0]
  simp only [List.map_cons, List.map_nil, List.length_cons, List.length_nil, Nat.zero_add] at hc
  have b1 : decide ((128 : Int) ≤ (n : Int)) = false := by simp; omega
  have b2 : decide ((2048 : Int) ≤ (n : Int)) = false := by simp; omega
  have b3 : decide ((65536 : Int) ≤ (n : Int)) = false := by simp; omega
  go_enter Try.func56, Try.ntmps56
  go_wp2
  go_ret
  exact ⟨rfl, ((Keeps.refl [] w).alloc _)⟩

set_option maxHeartbeats 1000000 in
theorem row_two (n : Nat) (h0 : 128 ≤ n) (h1 : n < 2048) (w : World) :
    Calls Try.prog 56 #[.int .i64 n] w fun e w' => e = .returned (.string (strOfNums [192 + (n : Int) / 64, 128 + (n : Int) % 64])) ∧ Keeps [] w w' := by
  have hc := fun (o1 : Obj) x0 x1 => conv_new (w.alloc o1) (w.heap.size + 1) (by simp) [x0, x1]
  simp only [List.map_cons, List.map_nil, List.length_cons, List.length_nil, Nat.zero_add, Nat.reduceAdd] at hc
  have b1 : decide ((128 : Int) ≤ (n : Int)) = true := by simp; omega
  have b2 : decide ((2048 : Int) ≤ (n : Int)) = false := by simp; omega
  have b3 : decide ((65536 : Int) ≤ (n : Int)) = false := by simp; omega
  go_enter Try.func56, Try.ntmps56
  go_wp2
  go_ret
  exact ⟨rfl, (((Keeps.refl [] w).alloc _).alloc _)⟩

set_option maxHeartbeats 1000000 in
theorem row_three (n : Nat) (h0 : 2048 ≤ n) (h1 : n < 65536) (w : World) :
    Calls Try.prog 56 #[.int .i64 n] w fun e w' => e = .returned (.string (strOfNums [224 + (n : Int) / 4096, 128 + (n : Int) / 64 % 64, 128 + (n : Int) % 64])) ∧ Keeps [] w w' := by
  have hc := fun (o1 : Obj) (o2 : Obj) x0 x1 x2 => conv_new ((w.alloc o1).alloc o2) (w.heap.size + 2) (by simp) [x0, x1, x2]
  simp only [List.map_cons, List.map_nil, List.length_cons, List.length_nil, Nat.zero_add, Nat.reduceAdd] at hc
  have b1 : decide ((128 : Int) ≤ (n : Int)) = true := by simp; omega
  have b2 : decide ((2048 : Int) ≤ (n : Int)) = true := by simp; omega
  have b3 : decide ((65536 : Int) ≤ (n : Int)) = false := by simp; omega
  go_enter Try.func56, Try.ntmps56
  go_wp2
  go_ret
  exact ⟨rfl, ((((Keeps.refl [] w).alloc _).alloc _).alloc _)⟩

set_option maxHeartbeats 1000000 in
theorem row_four (n : Nat) (h0 : 65536 ≤ n) (h1 : n < 1114112) (w : World) :
    Calls Try.prog 56 #[.int .i64 n] w fun e w' => e = .returned (.string (strOfNums [240 + (n : Int) / 262144, 128 + (n : Int) / 4096 % 64, 128 + (n : Int) / 64 % 64, 128 + (n : Int) % 64])) ∧ Keeps [] w w' := by
  have hc := fun (o1 : Obj) (o2 : Obj) (o3 : Obj) x0 x1 x2 x3 => conv_new (((w.alloc o1).alloc o2).alloc o3) (w.heap.size + 3) (by simp) [x0, x1, x2, x3]
  simp only [List.map_cons, List.map_nil, List.length_cons, List.length_nil, Nat.zero_add, Nat.reduceAdd] at hc
  have b1 : decide ((128 : Int) ≤ (n : Int)) = true := by simp; omega
  have b2 : decide ((2048 : Int) ≤ (n : Int)) = true := by simp; omega
  have b3 : decide ((65536 : Int) ≤ (n : Int)) = true := by simp; omega
  go_enter Try.func56, Try.ntmps56
  go_wp2
  go_ret
  exact ⟨rfl, (((((Keeps.refl [] w).alloc _).alloc _).alloc _).alloc _)⟩

theorem rune_str (r : Int) : strOfNums (Lib.encodeRuneZ r) = ⟨(Lib.encodeRune r).toArray⟩ := rfl

theorem row_any (n : Nat) (h : standsL n = true) (w : World) :
    Calls Try.prog 56 #[.int .i64 n] w fun e w' => e = .returned (.string ⟨(Lib.encodeRune n).toArray⟩) ∧ Keeps [] w w' := by
  have hs : 0 < n ∧ n ≤ 1114111 ∧ ¬ (55296 ≤ n ∧ n ≤ 57343) := by
    simp only [standsL, Bool.and_eq_true, decide_eq_true_eq, Bool.not_eq_true', Bool.and_eq_false_iff, decide_eq_false_iff_not] at h
    omega
  rw [← rune_str]
  rcases (show n < 128 ∨ (128 ≤ n ∧ n < 2048) ∨ (2048 ≤ n ∧ n < 65536) ∨ 65536 ≤ n from by omega) with h1 | h1 | h1 | h1
  · rw [Lib.encodeRuneZ_one (by omega) (by omega)]
    exact row_one n (by omega) h1 w
  · rw [Lib.encodeRuneZ_two (by omega) (by omega)]
    exact row_two n h1.1 h1.2 w
  · rw [Lib.encodeRuneZ_three (by omega)]
    exact row_three n h1.1 h1.2 w
  · rw [Lib.encodeRuneZ_four (by omega) (by omega)]
    exact row_four n h1 (by omega) w

theorem app_str (a b : ByteArray) : (a ++ b).data.toList = a.data.toList ++ b.data.toList := by simp

theorem app_eq (l : List UInt8) (t : ByteArray) (r : List UInt8) (h : r = l ++ t.data.toList) : Value.string ((⟨l.toArray⟩ : ByteArray) ++ t) = Value.string ⟨r.toArray⟩ := by
  have : (⟨l.toArray⟩ : ByteArray) ++ t = ⟨r.toArray⟩ := WideShapes.bytes_inj (by rw [app_str, h])
  rw [this]

theorem one_byte (s : ByteArray) (k : Nat) (hk : k < s.size) : (s.extract k (k + 1)).data.toList = [s[k]] := by
  have hl : k < s.data.toList.length := by simpa using hk
  rw [Lib.extract_data, Nat.add_sub_cancel_left, List.drop_eq_getElem_cons hl]
  simp
  rfl

set_option maxHeartbeats 2000000 in
theorem putOf_any (s : ByteArray) (w : World) (hs : s.size ≤ 2000000) :
    Calls Try.prog 13 #[.string s] w fun e w' => e = .returned (.string ⟨(putL s.data.toList).toArray⟩) ∧ w' = w := by
  rw [← putTo_all]
  go_enter Try.func13, Try.ntmps13
  go_wp2_with fail
  go_loop [3, 4] (fun o i => ∃ k : Nat, k ≤ s.size ∧ i = .int .i64 k ∧ o = .string ⟨(putTo s k).toArray⟩) (fun _ i => s.size - (intOf i).toNat)
  case atStart => exact ⟨0, Nat.zero_le _, rfl, by rw [putTo_zero]⟩
  case round =>
    obtain ⟨k, hk, rfl, rfl⟩ := hrel
    have hlen := putTo_len s k
    have hlen2 : (⟨(putTo s k).toArray⟩ : ByteArray).size = (putTo s k).length := by simp [ByteArray.size]
    by_cases hlt : k < s.size
    · have HS := hide (putTo_succ s k hlt)
      by_cases h1 : s[k] = 38
      · have h1' : (s[k].toNat : Int) = 38 := by rw [h1]; rfl
        have HB := hide (show putB s[k] = putB 38 from by rw [h1])
        clear h1
        go_wp2
        go_round
        case rel => exact ⟨k + 1, by omega, by go_num, app_eq _ _ _ (by rw [HS.out, HB.out]; rfl)⟩
        case measure => simp [intOf]; omega
      by_cases h2 : s[k] = 60
      · have h2' : (s[k].toNat : Int) = 60 := by rw [h2]; rfl
        have HB := hide (show putB s[k] = putB 60 from by rw [h2])
        clear h1 h2
        go_wp2
        go_round
        case rel => exact ⟨k + 1, by omega, by go_num, app_eq _ _ _ (by rw [HS.out, HB.out]; rfl)⟩
        case measure => simp [intOf]; omega
      by_cases h3 : s[k] = 62
      · have h3' : (s[k].toNat : Int) = 62 := by rw [h3]; rfl
        have HB := hide (show putB s[k] = putB 62 from by rw [h3])
        clear h1 h2 h3
        go_wp2
        go_round
        case rel => exact ⟨k + 1, by omega, by go_num, app_eq _ _ _ (by rw [HS.out, HB.out]; rfl)⟩
        case measure => simp [intOf]; omega
      by_cases h4 : s[k] = 34
      · have h4' : (s[k].toNat : Int) = 34 := by rw [h4]; rfl
        have HB := hide (show putB s[k] = putB 34 from by rw [h4])
        clear h1 h2 h3 h4
        go_wp2
        go_round
        case rel => exact ⟨k + 1, by omega, by go_num, app_eq _ _ _ (by rw [HS.out, HB.out]; rfl)⟩
        case measure => simp [intOf]; omega
      have e1 : ((s[k].toNat : Int) == 38) = false := byte_no (d := 38) rfl h1
      have e2 : ((s[k].toNat : Int) == 60) = false := byte_no (d := 60) rfl h2
      have e3 : ((s[k].toNat : Int) == 62) = false := byte_no (d := 62) rfl h3
      have e4 : ((s[k].toNat : Int) == 34) = false := byte_no (d := 34) rfl h4
      have HB := hide (show putB s[k] = [s[k]] from by simp [putB, h1, h2, h3, h4])
      clear h1 h2 h3 h4
      go_wp2
      go_round
      case rel => exact ⟨k + 1, by omega, by go_num, app_eq _ _ _ (by rw [HS.out, HB.out, one_byte s k hlt])⟩
      case measure => simp [intOf]; omega
    · have he : k = s.size := by omega
      subst he
      go_wp2
      go_ret
      exact ⟨rfl, rfl⟩
end Go.Proofs.Ytaeblkmkpfklkaa

namespace Go.Proofs.Ytaeblkmkpfklkaa
open Go.RowKit

/-- What signAt answers, as a call answers it. -/
def three (a : List UInt8 × Nat × Bool) : Ending := .returned (.tuple #[.string ⟨a.1.toArray⟩, .int .i64 a.2.1, .bool a.2.2])

set_option maxHeartbeats 1000000 in
theorem sign_c1 (s : ByteArray) (k : Nat) (hs : s.size ≤ 3000) (hk : k < s.size) (b1 : stAt s k [38, 97, 109, 112, 59] = true) (w : World) :
    Calls Try.prog 26 #[.string s, .int .i64 k] w fun e w' => e = three ([38], 5, true) ∧ Keeps [] w w' := by
  go_enter Try.func26, Try.ntmps26
  go_wp2_with (go_at_call 42; refine (startsAt_any s k _ hs (by omega) (Nat.le_of_ble_eq_true rfl) _).mono ?_; rintro e w' ⟨rfl, rfl⟩)
  go_ret3
  exact ⟨rfl, Keeps.refl _ _⟩

set_option maxHeartbeats 1000000 in
theorem sign_c2 (s : ByteArray) (k : Nat) (hs : s.size ≤ 3000) (hk : k < s.size) (b1 : stAt s k [38, 97, 109, 112, 59] = false) (b2 : stAt s k [38, 108, 116, 59] = true) (w : World) :
    Calls Try.prog 26 #[.string s, .int .i64 k] w fun e w' => e = three ([60], 4, true) ∧ Keeps [] w w' := by
  go_enter Try.func26, Try.ntmps26
  go_wp2_with (go_at_call 42; refine (startsAt_any s k _ hs (by omega) (Nat.le_of_ble_eq_true rfl) _).mono ?_; rintro e w' ⟨rfl, rfl⟩)
  go_ret3
  exact ⟨rfl, Keeps.refl _ _⟩

set_option maxHeartbeats 1000000 in
theorem sign_c3 (s : ByteArray) (k : Nat) (hs : s.size ≤ 3000) (hk : k < s.size) (b1 : stAt s k [38, 97, 109, 112, 59] = false) (b2 : stAt s k [38, 108, 116, 59] = false) (b3 : stAt s k [38, 103, 116, 59] = true) (w : World) :
    Calls Try.prog 26 #[.string s, .int .i64 k] w fun e w' => e = three ([62], 4, true) ∧ Keeps [] w w' := by
  go_enter Try.func26, Try.ntmps26
  go_wp2_with (go_at_call 42; refine (startsAt_any s k _ hs (by omega) (Nat.le_of_ble_eq_true rfl) _).mono ?_; rintro e w' ⟨rfl, rfl⟩)
  go_ret3
  exact ⟨rfl, Keeps.refl _ _⟩

set_option maxHeartbeats 1000000 in
theorem sign_c4 (s : ByteArray) (k : Nat) (hs : s.size ≤ 3000) (hk : k < s.size) (b1 : stAt s k [38, 97, 109, 112, 59] = false) (b2 : stAt s k [38, 108, 116, 59] = false) (b3 : stAt s k [38, 103, 116, 59] = false) (b4 : stAt s k [38, 113, 117, 111, 116, 59] = true) (w : World) :
    Calls Try.prog 26 #[.string s, .int .i64 k] w fun e w' => e = three ([34], 6, true) ∧ Keeps [] w w' := by
  go_enter Try.func26, Try.ntmps26
  go_wp2_with (go_at_call 42; refine (startsAt_any s k _ hs (by omega) (Nat.le_of_ble_eq_true rfl) _).mono ?_; rintro e w' ⟨rfl, rfl⟩)
  go_ret3
  exact ⟨rfl, Keeps.refl _ _⟩

set_option maxHeartbeats 1000000 in
theorem sign_c5 (s : ByteArray) (k : Nat) (hs : s.size ≤ 3000) (hk : k < s.size) (b1 : stAt s k [38, 97, 109, 112, 59] = false) (b2 : stAt s k [38, 108, 116, 59] = false) (b3 : stAt s k [38, 103, 116, 59] = false) (b4 : stAt s k [38, 113, 117, 111, 116, 59] = false) (b5 : stAt s k [38, 97, 112, 111, 115, 59] = true) (w : World) :
    Calls Try.prog 26 #[.string s, .int .i64 k] w fun e w' => e = three ([39], 6, true) ∧ Keeps [] w w' := by
  go_enter Try.func26, Try.ntmps26
  go_wp2_with (go_at_call 42; refine (startsAt_any s k _ hs (by omega) (Nat.le_of_ble_eq_true rfl) _).mono ?_; rintro e w' ⟨rfl, rfl⟩)
  go_ret3
  exact ⟨rfl, Keeps.refl _ _⟩

set_option maxHeartbeats 1000000 in
theorem sign_c6 (s : ByteArray) (k : Nat) (hs : s.size ≤ 3000) (hk : k < s.size) (b1 : stAt s k [38, 97, 109, 112, 59] = false) (b2 : stAt s k [38, 108, 116, 59] = false) (b3 : stAt s k [38, 103, 116, 59] = false) (b4 : stAt s k [38, 113, 117, 111, 116, 59] = false) (b5 : stAt s k [38, 97, 112, 111, 115, 59] = false) (b6 : stAt s k [38, 35] = false) (w : World) :
    Calls Try.prog 26 #[.string s, .int .i64 k] w fun e w' => e = three ([], 0, false) ∧ Keeps [] w w' := by
  go_enter Try.func26, Try.ntmps26
  go_wp2_with (go_at_call 42; refine (startsAt_any s k _ hs (by omega) (Nat.le_of_ble_eq_true rfl) _).mono ?_; rintro e w' ⟨rfl, rfl⟩)
  go_ret3
  exact ⟨rfl, Keeps.refl _ _⟩

theorem rdigit_no (c : UInt8) (base : Nat) (hb : base = 10 ∨ base = 16) (h : base ≤ digV c) (w : World) :
    Calls Try.prog 55 #[.int .u8 c.toNat, .int .i64 base] w fun e w' => e = .returned (.int .i64 (-1)) ∧ w' = w :=
  (rdigit_any c base hb w).mono fun _ _ ⟨he, hw⟩ => ⟨he.trans (by rw [if_pos h]), hw⟩
theorem rdigit_yes (c : UInt8) (base : Nat) (hb : base = 10 ∨ base = 16) (h : ¬ base ≤ digV c) (w : World) :
    Calls Try.prog 55 #[.int .u8 c.toNat, .int .i64 base] w fun e w' => e = .returned (.int .i64 (digV c)) ∧ w' = w :=
  (rdigit_any c base hb w).mono fun _ _ ⟨he, hw⟩ => ⟨he.trans (by rw [if_neg h]), hw⟩

theorem ret_three {a : ByteArray} {x y : Int} {b : Bool} (h : x = y) : Ending.returned (.tuple #[.string a, .int .i64 x, .bool b]) = .returned (.tuple #[.string a, .int .i64 y, .bool b]) := by rw [h]

theorem between_is (n a b : Int) (r : Bool) (h : (decide (a ≤ n) && decide (n ≤ b)) = r) (w : World) :
    Calls Try.prog 37 #[.int .i64 n, .int .i64 a, .int .i64 b] w fun e w' => e = .returned (.bool r) ∧ w' = w := h ▸ between_any n a b w

set_option maxHeartbeats 4000000 in
theorem sign_n16 (s : ByteArray) (k : Nat) (hs : s.size ≤ 3000) (b1 : stAt s k [38, 97, 109, 112, 59] = false) (b2 : stAt s k [38, 108, 116, 59] = false) (b3 : stAt s k [38, 103, 116, 59] = false) (b4 : stAt s k [38, 113, 117, 111, 116, 59] = false) (b5 : stAt s k [38, 97, 112, 111, 115, 59] = false) (b6 : stAt s k [38, 35] = true) (b7 : stAt s k [38, 35, 120] = true) (hz : k + 3 ≤ s.size) (hN : Hid (NumAt s k (k + 3) 16 6)) (R : List UInt8 × Nat × Bool) (hR : Hid (refT (s.data.toList.drop (k + 1)) = R)) (w : World) :
    Calls Try.prog 26 #[.string s, .int .i64 k] w fun e w' => e = three R ∧ Keeps [] w w' := by
  go_enter Try.func26, Try.ntmps26
  go_wp2_with (go_at_call 42; refine (startsAt_any s k _ hs (by omega) (Nat.le_of_ble_eq_true rfl) _).mono ?_; rintro e w' ⟨rfl, rfl⟩)
  clear b1 b2 b3 b4 b5 b6 b7
  go_loop [10, 11] (fun n t => ∃ j m : Nat, j ≤ 6 + 1 ∧ k + 3 + j ≤ s.size ∧ t = .int .i64 ((k + 3 + j : Nat) : Int) ∧ n = .int .i64 (m : Nat) ∧ Hid (digits s (k + 3) 16 j = some m)) (fun _ t => s.size - (intOf t).toNat)
  case atStart => exact ⟨0, 0, by omega, by omega, by go_num, rfl, by simp [Hid, digits, numF]⟩
  case round =>
    obtain ⟨j, m, hj, hjs, rfl, rfl, hm⟩ := hrel
    have hlt : m < 268435456 := digits_lt (by omega) hj hm.out
    by_cases hin : k + 3 + j < s.size
    · by_cases hd : 16 ≤ digV s[k + 3 + j]
      · have hdig := hide (fun w => rdigit_no s[k + 3 + j] 16 (by simp) hd w)
        have hdb : 16 ≤ digV (byteAt s (k + 3 + j)) := by rw [byteAt_eq s _ hin]; exact hd
        by_cases hgood : 1 ≤ j ∧ j ≤ 6 ∧ byteAt s (k + 3 + j) = 59
        · obtain ⟨g1, g2, g3⟩ := hgood
          have hc : ((s[k + 3 + j].toNat : Int) != 59) = false := by rw [← byteAt_eq s _ hin, g3]; rfl
          have hc2 : ((s[k + 3 + j].toNat : Int) == 59) = true := by rw [← byteAt_eq s _ hin, g3]; rfl
          have t1 : (((k : Int) + 3 + (j : Int)) == (k : Int) + 3) = false := by simp; omega
          have t2 : (((k : Int) + 3 + (j : Int)) == (s.size : Int)) = false := by simp; omega
          have hg := num_good hN.out hm.out hin g1 g2 g3
          have e1 := hR.out.symm.trans (refT_good hg)
          clear hg hd hdb g3 hR hm hN
          cases hst : standsL m
          · rw [hst] at e1
            have HR : Hid (R = ([239, 191, 189], 1 + (k + 3 + j - k), false)) := e1
            clear e1
            rcases (show m < 1 ∨ (1 ≤ m ∧ 55296 ≤ m ∧ m ≤ 57343) ∨ 1114111 < m from by
              simp only [standsL, Bool.and_eq_false_iff, decide_eq_false_iff_not, Bool.not_eq_false', Bool.and_eq_true, decide_eq_true_eq] at hst
              omega) with q | q | q
            · clear hst
              go_wp2_with (go_at_call 55; refine (hdig.out _).mono ?_; rintro e w' ⟨rfl, rfl⟩)
              go_ret3
              rw [HR.out]
              exact ⟨ret_three (by dsimp only; omega), Keeps.refl _ _⟩
            · clear hst
              have hbt := hide (fun w => between_is (m : Int) 55296 57343 true (by simp; omega) w)
              go_wp2_with (first | (go_at_call 55; refine (hdig.out _).mono ?_; rintro e w' ⟨rfl, rfl⟩) | (go_at_call 37; refine (hbt.out _).mono ?_; rintro e w' ⟨rfl, rfl⟩))
              go_ret3
              rw [HR.out]
              exact ⟨ret_three (by dsimp only; omega), Keeps.refl _ _⟩
            · clear hst
              have hbt := hide (fun w => between_is (m : Int) 55296 57343 false (by simp; omega) w)
              have hbig : decide ((1114111 : Int) < (m : Int)) = true := by simp; omega
              go_wp2_with (first | (go_at_call 55; refine (hdig.out _).mono ?_; rintro e w' ⟨rfl, rfl⟩) | (go_at_call 37; refine (hbt.out _).mono ?_; rintro e w' ⟨rfl, rfl⟩))
              go_ret3
              rw [HR.out]
              exact ⟨ret_three (by dsimp only; omega), Keeps.refl _ _⟩
          · rw [hst] at e1
            have HR : Hid (R = (Lib.encodeRune m, 1 + (k + 3 + j - k), true)) := e1
            clear e1
            have q : 1 ≤ m ∧ m ≤ 1114111 ∧ ¬ (55296 ≤ m ∧ m ≤ 57343) := by
              simp only [standsL, Bool.and_eq_true, decide_eq_true_eq, Bool.not_eq_true', Bool.and_eq_false_iff, decide_eq_false_iff_not] at hst
              omega
            have hrow := hide (fun w => row_any m hst w)
            clear hst
            have hbt := hide (fun w => between_is (m : Int) 55296 57343 false (by simp; omega) w)
            have hbig : decide ((1114111 : Int) < (m : Int)) = false := by simp; omega
            have hm0 : ((m : Int) == 0) = false := by simp; omega
            clear q
            go_wp2_with (first | (go_at_call 55; refine (hdig.out _).mono ?_; rintro e w' ⟨rfl, rfl⟩) | (go_at_call 37; refine (hbt.out _).mono ?_; rintro e w' ⟨rfl, rfl⟩))
            refine (hrow.out _).mono ?_
            rintro e w1 ⟨rfl, hk1⟩
            go_wp2_with fail
            go_ret3
            rw [HR.out]
            exact ⟨ret_three (by dsimp only; omega), hk1⟩
        · have hq : j < 1 ∨ 6 < j ∨ 1 ≤ j ∧ j ≤ 6 ∧ byteAt s (k + 3 + j) ≠ 59 := by
            by_cases q1 : j < 1
            · exact .inl q1
            · by_cases q2 : 6 < j
              · exact .inr (.inl q2)
              · exact .inr (.inr ⟨by omega, by omega, fun q3 => hgood ⟨by omega, by omega, q3⟩⟩)
          have HR := hide (hR.out.symm.trans (num_bad hN.out hm.out hjs (.inr (.inl hdb)) (by
            rcases hq with q | q | q
            · exact .inl (by omega)
            · exact .inr (.inl q)
            · exact .inr (.inr (.inr q.2.2)))))
          clear hd hdb hR hm hN hgood
          rcases hq with q | q | ⟨q1, q2, q3⟩
          · go_wp2_with (go_at_call 55; refine (hdig.out _).mono ?_; rintro e w' ⟨rfl, rfl⟩)
            go_ret3
            rw [HR.out]
            exact ⟨rfl, Keeps.refl _ _⟩
          · go_wp2_with (go_at_call 55; refine (hdig.out _).mono ?_; rintro e w' ⟨rfl, rfl⟩)
            go_ret3
            rw [HR.out]
            exact ⟨rfl, Keeps.refl _ _⟩
          · have hc : ((s[k + 3 + j].toNat : Int) != 59) = true := by
              rw [← byteAt_eq s _ hin]
              have := byte_bne (byteAt s (k + 3 + j)) 59
              rw [show ((59 : UInt8).toNat : Int) = 59 from rfl] at this
              rw [this]; simpa using q3
            clear q3
            go_wp2_with (go_at_call 55; refine (hdig.out _).mono ?_; rintro e w' ⟨rfl, rfl⟩)
            go_ret3
            rw [HR.out]
            exact ⟨rfl, Keeps.refl _ _⟩
      · have hdig := hide (fun w => rdigit_yes s[k + 3 + j] 16 (by simp) hd w)
        have hdl := digV_le s[k + 3 + j]
        by_cases hmost : j ≤ 6
        · have hnext := hide (digits_succ s (k + 3) 16 j m hin hm.out hd)
          clear hd hR hN hm
          go_wp2_with (go_at_call 55; refine (hdig.out _).mono ?_; rintro e w' ⟨rfl, rfl⟩)
          go_round
          case rel => exact ⟨j + 1, m * 16 + digV s[k + 3 + j], by omega, by omega, by go_num, by go_num, hnext⟩
          case measure => simp [intOf]; omega
        · have HR := hide (hR.out.symm.trans (num_bad hN.out hm.out hjs (.inr (.inr (by omega))) (.inr (.inl (by omega)))))
          clear hd hR hm hN
          go_wp2_with (go_at_call 55; refine (hdig.out _).mono ?_; rintro e w' ⟨rfl, rfl⟩)
          go_ret3
          rw [HR.out]
          exact ⟨rfl, Keeps.refl _ _⟩
    · have HR := hide (hR.out.symm.trans (num_bad hN.out hm.out hjs (.inl (by omega)) (.inr (.inr (.inl (by omega))))))
      clear hR hm hN
      go_wp2
      all_goals
        go_ret3
        rw [HR.out]
        exact ⟨rfl, Keeps.refl _ _⟩

set_option maxHeartbeats 4000000 in
theorem sign_n10 (s : ByteArray) (k : Nat) (hs : s.size ≤ 3000) (b1 : stAt s k [38, 97, 109, 112, 59] = false) (b2 : stAt s k [38, 108, 116, 59] = false) (b3 : stAt s k [38, 103, 116, 59] = false) (b4 : stAt s k [38, 113, 117, 111, 116, 59] = false) (b5 : stAt s k [38, 97, 112, 111, 115, 59] = false) (b6 : stAt s k [38, 35] = true) (b7 : stAt s k [38, 35, 120] = false) (hz : k + 2 ≤ s.size) (hN : Hid (NumAt s k (k + 2) 10 7)) (R : List UInt8 × Nat × Bool) (hR : Hid (refT (s.data.toList.drop (k + 1)) = R)) (w : World) :
    Calls Try.prog 26 #[.string s, .int .i64 k] w fun e w' => e = three R ∧ Keeps [] w w' := by
  go_enter Try.func26, Try.ntmps26
  go_wp2_with (go_at_call 42; refine (startsAt_any s k _ hs (by omega) (Nat.le_of_ble_eq_true rfl) _).mono ?_; rintro e w' ⟨rfl, rfl⟩)
  clear b1 b2 b3 b4 b5 b6 b7
  go_loop [10, 11] (fun n t => ∃ j m : Nat, j ≤ 7 + 1 ∧ k + 2 + j ≤ s.size ∧ t = .int .i64 ((k + 2 + j : Nat) : Int) ∧ n = .int .i64 (m : Nat) ∧ Hid (digits s (k + 2) 10 j = some m)) (fun _ t => s.size - (intOf t).toNat)
  case atStart => exact ⟨0, 0, by omega, by omega, by go_num, rfl, by simp [Hid, digits, numF]⟩
  case round =>
    obtain ⟨j, m, hj, hjs, rfl, rfl, hm⟩ := hrel
    have hlt : m < 100000000 := digits_lt (by omega) hj hm.out
    by_cases hin : k + 2 + j < s.size
    · by_cases hd : 10 ≤ digV s[k + 2 + j]
      · have hdig := hide (fun w => rdigit_no s[k + 2 + j] 10 (by simp) hd w)
        have hdb : 10 ≤ digV (byteAt s (k + 2 + j)) := by rw [byteAt_eq s _ hin]; exact hd
        by_cases hgood : 1 ≤ j ∧ j ≤ 7 ∧ byteAt s (k + 2 + j) = 59
        · obtain ⟨g1, g2, g3⟩ := hgood
          have hc : ((s[k + 2 + j].toNat : Int) != 59) = false := by rw [← byteAt_eq s _ hin, g3]; rfl
          have hc2 : ((s[k + 2 + j].toNat : Int) == 59) = true := by rw [← byteAt_eq s _ hin, g3]; rfl
          have t1 : (((k : Int) + 2 + (j : Int)) == (k : Int) + 2) = false := by simp; omega
          have t2 : (((k : Int) + 2 + (j : Int)) == (s.size : Int)) = false := by simp; omega
          have hg := num_good hN.out hm.out hin g1 g2 g3
          have e1 := hR.out.symm.trans (refT_good hg)
          clear hg hd hdb g3 hR hm hN
          cases hst : standsL m
          · rw [hst] at e1
            have HR : Hid (R = ([239, 191, 189], 1 + (k + 2 + j - k), false)) := e1
            clear e1
            rcases (show m < 1 ∨ (1 ≤ m ∧ 55296 ≤ m ∧ m ≤ 57343) ∨ 1114111 < m from by
              simp only [standsL, Bool.and_eq_false_iff, decide_eq_false_iff_not, Bool.not_eq_false', Bool.and_eq_true, decide_eq_true_eq] at hst
              omega) with q | q | q
            · clear hst
              go_wp2_with (go_at_call 55; refine (hdig.out _).mono ?_; rintro e w' ⟨rfl, rfl⟩)
              go_ret3
              rw [HR.out]
              exact ⟨ret_three (by dsimp only; omega), Keeps.refl _ _⟩
            · clear hst
              have hbt := hide (fun w => between_is (m : Int) 55296 57343 true (by simp; omega) w)
              go_wp2_with (first | (go_at_call 55; refine (hdig.out _).mono ?_; rintro e w' ⟨rfl, rfl⟩) | (go_at_call 37; refine (hbt.out _).mono ?_; rintro e w' ⟨rfl, rfl⟩))
              go_ret3
              rw [HR.out]
              exact ⟨ret_three (by dsimp only; omega), Keeps.refl _ _⟩
            · clear hst
              have hbt := hide (fun w => between_is (m : Int) 55296 57343 false (by simp; omega) w)
              have hbig : decide ((1114111 : Int) < (m : Int)) = true := by simp; omega
              go_wp2_with (first | (go_at_call 55; refine (hdig.out _).mono ?_; rintro e w' ⟨rfl, rfl⟩) | (go_at_call 37; refine (hbt.out _).mono ?_; rintro e w' ⟨rfl, rfl⟩))
              go_ret3
              rw [HR.out]
              exact ⟨ret_three (by dsimp only; omega), Keeps.refl _ _⟩
          · rw [hst] at e1
            have HR : Hid (R = (Lib.encodeRune m, 1 + (k + 2 + j - k), true)) := e1
            clear e1
            have q : 1 ≤ m ∧ m ≤ 1114111 ∧ ¬ (55296 ≤ m ∧ m ≤ 57343) := by
              simp only [standsL, Bool.and_eq_true, decide_eq_true_eq, Bool.not_eq_true', Bool.and_eq_false_iff, decide_eq_false_iff_not] at hst
              omega
            have hrow := hide (fun w => row_any m hst w)
            clear hst
            have hbt := hide (fun w => between_is (m : Int) 55296 57343 false (by simp; omega) w)
            have hbig : decide ((1114111 : Int) < (m : Int)) = false := by simp; omega
            have hm0 : ((m : Int) == 0) = false := by simp; omega
            clear q
            go_wp2_with (first | (go_at_call 55; refine (hdig.out _).mono ?_; rintro e w' ⟨rfl, rfl⟩) | (go_at_call 37; refine (hbt.out _).mono ?_; rintro e w' ⟨rfl, rfl⟩))
            refine (hrow.out _).mono ?_
            rintro e w1 ⟨rfl, hk1⟩
            go_wp2_with fail
            go_ret3
            rw [HR.out]
            exact ⟨ret_three (by dsimp only; omega), hk1⟩
        · have hq : j < 1 ∨ 7 < j ∨ 1 ≤ j ∧ j ≤ 7 ∧ byteAt s (k + 2 + j) ≠ 59 := by
            by_cases q1 : j < 1
            · exact .inl q1
            · by_cases q2 : 7 < j
              · exact .inr (.inl q2)
              · exact .inr (.inr ⟨by omega, by omega, fun q3 => hgood ⟨by omega, by omega, q3⟩⟩)
          have HR := hide (hR.out.symm.trans (num_bad hN.out hm.out hjs (.inr (.inl hdb)) (by
            rcases hq with q | q | q
            · exact .inl (by omega)
            · exact .inr (.inl q)
            · exact .inr (.inr (.inr q.2.2)))))
          clear hd hdb hR hm hN hgood
          rcases hq with q | q | ⟨q1, q2, q3⟩
          · go_wp2_with (go_at_call 55; refine (hdig.out _).mono ?_; rintro e w' ⟨rfl, rfl⟩)
            go_ret3
            rw [HR.out]
            exact ⟨rfl, Keeps.refl _ _⟩
          · go_wp2_with (go_at_call 55; refine (hdig.out _).mono ?_; rintro e w' ⟨rfl, rfl⟩)
            go_ret3
            rw [HR.out]
            exact ⟨rfl, Keeps.refl _ _⟩
          · have hc : ((s[k + 2 + j].toNat : Int) != 59) = true := by
              rw [← byteAt_eq s _ hin]
              have := byte_bne (byteAt s (k + 2 + j)) 59
              rw [show ((59 : UInt8).toNat : Int) = 59 from rfl] at this
              rw [this]; simpa using q3
            clear q3
            go_wp2_with (go_at_call 55; refine (hdig.out _).mono ?_; rintro e w' ⟨rfl, rfl⟩)
            go_ret3
            rw [HR.out]
            exact ⟨rfl, Keeps.refl _ _⟩
      · have hdig := hide (fun w => rdigit_yes s[k + 2 + j] 10 (by simp) hd w)
        have hdl := digV_le s[k + 2 + j]
        by_cases hmost : j ≤ 7
        · have hnext := hide (digits_succ s (k + 2) 10 j m hin hm.out hd)
          clear hd hR hN hm
          go_wp2_with (go_at_call 55; refine (hdig.out _).mono ?_; rintro e w' ⟨rfl, rfl⟩)
          go_round
          case rel => exact ⟨j + 1, m * 10 + digV s[k + 2 + j], by omega, by omega, by go_num, by go_num, hnext⟩
          case measure => simp [intOf]; omega
        · have HR := hide (hR.out.symm.trans (num_bad hN.out hm.out hjs (.inr (.inr (by omega))) (.inr (.inl (by omega)))))
          clear hd hR hm hN
          go_wp2_with (go_at_call 55; refine (hdig.out _).mono ?_; rintro e w' ⟨rfl, rfl⟩)
          go_ret3
          rw [HR.out]
          exact ⟨rfl, Keeps.refl _ _⟩
    · have HR := hide (hR.out.symm.trans (num_bad hN.out hm.out hjs (.inl (by omega)) (.inr (.inr (.inl (by omega))))))
      clear hR hm hN
      go_wp2
      all_goals
        go_ret3
        rw [HR.out]
        exact ⟨rfl, Keeps.refl _ _⟩

end Go.Proofs.Ytaeblkmkpfklkaa

namespace Go.Proofs.Ytaeblkmkpfklkaa
open Go.RowKit

theorem signAt_any (s : ByteArray) (k : Nat) (hs : s.size ≤ 3000) (hk : k < s.size) (hc : byteAt s k = 38) (w : World) :
    Calls Try.prog 26 #[.string s, .int .i64 k] w fun e w' => e = three (refT (s.data.toList.drop (k + 1))) ∧ Keeps [] w w' := by
  have e1 := stAt_and s k hk hc [97, 109, 112, 59]
  have e2 := stAt_and s k hk hc [108, 116, 59]
  have e3 := stAt_and s k hk hc [103, 116, 59]
  have e4 := stAt_and s k hk hc [113, 117, 111, 116, 59]
  have e5 := stAt_and s k hk hc [97, 112, 111, 115, 59]
  have e6 := stAt_and s k hk hc [35]
  have e7 := stAt_and s k hk hc [35, 120]
  cases b1 : stAt s k [38, 97, 109, 112, 59] with
  | true =>
    rw [e1] at b1
    rw [refT_named (p := [97, 109, 112]) (n := 38) b1 (by decide) (by decide) (by decide)]
    rw [← e1] at b1
    exact sign_c1 s k hs hk b1 w
  | false =>
  cases b2 : stAt s k [38, 108, 116, 59] with
  | true =>
    rw [e2] at b2
    rw [refT_named (p := [108, 116]) (n := 60) b2 (by decide) (by decide) (by decide)]
    rw [← e2] at b2
    exact sign_c2 s k hs hk b1 b2 w
  | false =>
  cases b3 : stAt s k [38, 103, 116, 59] with
  | true =>
    rw [e3] at b3
    rw [refT_named (p := [103, 116]) (n := 62) b3 (by decide) (by decide) (by decide)]
    rw [← e3] at b3
    exact sign_c3 s k hs hk b1 b2 b3 w
  | false =>
  cases b4 : stAt s k [38, 113, 117, 111, 116, 59] with
  | true =>
    rw [e4] at b4
    rw [refT_named (p := [113, 117, 111, 116]) (n := 34) b4 (by decide) (by decide) (by decide)]
    rw [← e4] at b4
    exact sign_c4 s k hs hk b1 b2 b3 b4 w
  | false =>
  cases b5 : stAt s k [38, 97, 112, 111, 115, 59] with
  | true =>
    rw [e5] at b5
    rw [refT_named (p := [97, 112, 111, 115]) (n := 39) b5 (by decide) (by decide) (by decide)]
    rw [← e5] at b5
    exact sign_c5 s k hs hk b1 b2 b3 b4 b5 w
  | false =>
  cases b6 : stAt s k [38, 35] with
  | false =>
    rw [refT_none (signL_none (e1 ▸ b1) (e2 ▸ b2) (e3 ▸ b3) (e4 ▸ b4) (e5 ▸ b5) (e6 ▸ b6))]
    exact sign_c6 s k hs hk b1 b2 b3 b4 b5 b6 w
  | true =>
  cases b7 : stAt s k [38, 35, 120] with
  | true =>
    have hz : k + 3 ≤ s.size := by
      have := (List.isPrefixOf_iff_prefix.1 b7).length_le
      rw [List.length_drop, len_size] at this
      simp at this
      omega
    exact sign_n16 s k hs b1 b2 b3 b4 b5 b6 b7 hz (num16 s k (e7 ▸ b7)) _ rfl w
  | false =>
    have hz : k + 2 ≤ s.size := by
      have := (List.isPrefixOf_iff_prefix.1 b6).length_le
      rw [List.length_drop, len_size] at this
      simp at this
      omega
    exact sign_n10 s k hs b1 b2 b3 b4 b5 b6 b7 hz (num10 s k (e6 ▸ b6) (e7 ▸ b7)) _ rfl w

theorem done_other {s : ByteArray} {k : Nat} {o : List UInt8} {r : Bool} (h : Done s k o r) (hk : k < s.size) (hc : byteAt s k ≠ 38) : Done s (k + 1) (o ++ [s[k]]) r := by
  have e := takeL_other (byteAt s k) (s.data.toList.drop (k + 1)) hc
  rw [← drop_byteAt s k hk] at e
  refine ⟨?_, ?_⟩
  · rw [h.1, e, byteAt_eq s k hk]
    simp
  · have := h.2
    simp only [List.length_append, List.length_cons, List.length_nil]
    omega

theorem takeOne_ref {s : ByteArray} {k : Nat} (hk : k < s.size) (hc : byteAt s k = 38) :
    takeOne (s.data.toList.drop k) = if (refT (s.data.toList.drop (k + 1))).2.1 = 0 then ([38], 1, false) else refT (s.data.toList.drop (k + 1)) := by
  unfold takeOne refT
  rw [List.drop_drop]
  cases hs : signL (s.data.toList.drop (k + 1)) with
  | none => simp; rw [drop_byteAt s k hk, hc]; simp
  | some x =>
    obtain ⟨n, m⟩ := x
    have e : Lib.encodeRune 65533 = [239, 191, 189] := by decide
    cases hst : standsL n
    · simp [hst, e]
    · simp [hst]

theorem refT_zero (l : List UInt8) (h : (refT l).2.1 = 0) : (refT l).2.2 = false := by
  unfold refT at h ⊢
  cases hs : signL l with
  | none => rfl
  | some x =>
    obtain ⟨n, m⟩ := x
    rw [hs] at h
    cases hst : standsL n <;> simp [hst] at h

set_option maxHeartbeats 2000000 in
theorem takeOf_any (s : ByteArray) (w : World) (hs : s.size ≤ 3000) :
    Calls Try.prog 14 #[.string s] w fun e w' => e = .returned (.tuple #[.string ⟨(takeL s.data.toList).1.toArray⟩, .bool (takeL s.data.toList).2]) ∧ Keeps [] w w' := by
  obtain ⟨T, hTk⟩ : ∃ T, takeL s.data.toList = T := ⟨_, rfl⟩
  rw [hTk]
  have HT := hide hTk
  clear hTk
  go_enter Try.func14, Try.ntmps14
  go_wp2_with fail
  go_loopw [4, 5, 6] (fun u v t wr => ∃ (k : Nat) (o : List UInt8) (rt : Bool), k ≤ s.size ∧ u = .string ⟨o.toArray⟩ ∧ v = .bool rt ∧ t = .int .i64 k ∧ Keeps [] w wr ∧ Hid (Done s k o rt))
    (fun _ _ t _ => s.size - (intOf t).toNat)
  case atStart => exact ⟨0, [], true, Nat.zero_le _, rfl, rfl, rfl, Keeps.refl _ _, done_start s⟩
  case round =>
    obtain ⟨k, o, rt, hk, rfl, rfl, rfl, hkp, hD⟩ := hrel
    have hol : (⟨o.toArray⟩ : ByteArray).size = o.length := by simp [ByteArray.size]
    have hon : o.length ≤ 100000 := by have := hD.out.2; omega
    by_cases hlt : k < s.size
    · by_cases hc : byteAt s k = 38
      · have HS := done_sign hD.out hlt hc
        rw [takeOne_ref hlt hc] at HS
        have hc' : ((s[k].toNat : Int) != 38) = false := by rw [← byteAt_eq s k hlt, hc]; rfl
        have hsig := hide (fun w => signAt_any s k hs hlt hc w)
        have hzero := refT_zero (s.data.toList.drop (k + 1))
        clear hD hc
        generalize refT (s.data.toList.drop (k + 1)) = R at *
        obtain ⟨t, c, ok⟩ := R
        have htl : (⟨t.toArray⟩ : ByteArray).size = t.length := by simp [ByteArray.size]
        by_cases h0 : c = 0
        · subst h0
          have hok : ok = false := hzero rfl
          subst hok
          clear hzero
          simp only [if_true] at HS
          obtain ⟨HD0, hp1, hp2⟩ := HS
          have HD := hide HD0
          clear HD0 hp1
          cases rt
          all_goals
            go_wp2_with fail
            refine (hsig.out _).mono ?_
            unfold three
            rintro e w1 ⟨rfl, hk1⟩
            go_wp2_with fail
            go_roundw
            case rel => exact ⟨k + 1, o ++ [38], _, by omega, app_eq _ _ _ rfl, rfl, by go_num, hkp.trans hk1, HD⟩
            case measure => simp [intOf]; omega
        · rw [if_neg h0] at HS
          obtain ⟨HD0, hp1, hp2⟩ := HS
          have HD := hide HD0
          have h0' : ((c : Int) == 0) = false := by simp; omega
          have htn : t.length ≤ 20000 := by
            have := HD0.2
            simp only [List.length_append] at this hp2
            omega
          clear HD0 h0 hzero
          simp only at hp1 hp2
          cases rt
          all_goals
            go_wp2_with fail
            refine (hsig.out _).mono ?_
            unfold three
            rintro e w1 ⟨rfl, hk1⟩
            go_wp2_with fail
            go_roundw
            case rel => exact ⟨k + c, o ++ t, _, by omega, app_eq _ _ _ rfl, rfl, by go_num, hkp.trans hk1, HD⟩
            case measure => simp [intOf]; omega
      · have hD' := hide (done_other hD.out hlt hc)
        have hne : ((s[k].toNat : Int) != 38) = true := by
          rw [← byteAt_eq s k hlt]
          have := byte_bne (byteAt s k) 38
          rw [show ((38 : UInt8).toNat : Int) = 38 from rfl] at this
          rw [this]; simpa using hc
        clear hD hc
        go_wp2
        go_roundw
        case rel => exact ⟨k + 1, o ++ [s[k]], rt, by omega, app_eq _ _ _ (by rw [one_byte s k hlt]), rfl, by go_num, hkp, hD'⟩
        case measure => simp [intOf]; omega
    · have HE := hide (HT.out.symm.trans (done_end hD.out (by omega)))
      go_wp2
      go_ret2
      rw [HE.out]
      exact ⟨rfl, hkp⟩
end Go.Proofs.Ytaeblkmkpfklkaa
