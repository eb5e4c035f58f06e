/- CleanGood holds: for every input the law returns true, and each argument reads behind the call as it read before; no condition. A part of its proof. -/
import Derived.Test.YtlcljanibjdejaaGreatCg09
namespace Go.Proofs.YtlcljanibjdejaaGreat
def refT (l : List UInt8) : List UInt8 × Nat × Bool :=
  match signL l with
  | some (n, m) => if standsL n then (Lib.encodeRune n, 1 + m, true) else ([239, 191, 189], 1 + m, false)
  | none => ([], 0, false)
theorem stAt_and (s : ByteArray) (k : Nat) (hk : k < s.size) (hc : byteAt s k = 38) (p : List UInt8) : stAt s k (38 :: p) = p.isPrefixOf (s.data.toList.drop (k + 1)) := by
  rw [stAt, drop_byteAt s k hk, hc]
  simp
theorem refT_named {l p : List UInt8} {n : Nat} (h : (p ++ [59]).isPrefixOf l = true) (hp : ∀ c ∈ p, inName c = true) (ht : toldL p = some n) (hs : standsL n = true) : refT l = (Lib.encodeRune n, p.length + 2, true) := by
  obtain ⟨r, rfl⟩ := List.isPrefixOf_iff_prefix.1 h
  unfold refT
  rw [List.append_assoc, List.singleton_append, signL_named hp ht]
  simp [hs]
  omega
theorem refT_none {l : List UInt8} (h : signL l = none) : refT l = ([], 0, false) := by
  unfold refT; rw [h]
def NumAt (s : ByteArray) (k fr base most : Nat) : Prop :=
  ∃ pre, s.data.toList.drop (k + 1) = pre ++ s.data.toList.drop fr ∧ (∀ c ∈ pre, inName c = true) ∧ fr = k + 1 + pre.length ∧ base ≤ 16 ∧
    toldL (pre ++ nm (s.data.toList.drop fr)) = numL base most (nm (s.data.toList.drop fr)) ∧ ∀ j, toldL (pre ++ (s.data.toList.drop fr).take j) = numL base most ((s.data.toList.drop fr).take j)
theorem num16 (s : ByteArray) (k : Nat) (h : List.isPrefixOf [35, 120] (s.data.toList.drop (k + 1)) = true) : NumAt s k (k + 3) 16 6 := by
  obtain ⟨r, hr⟩ := List.isPrefixOf_iff_prefix.1 h
  have e : s.data.toList.drop (k + 3) = r := by
    have : s.data.toList.drop (k + 3) = (s.data.toList.drop (k + 1)).drop 2 := by rw [List.drop_drop]
    rw [this, ← hr]; simp
  refine ⟨[35, 120], by rw [e, hr], by decide, rfl, by omega, told16 _, fun j => told16 _⟩
theorem head_take (l : List UInt8) (h : l.head? ≠ some 120) (j : Nat) : (l.take j).head? ≠ some 120 := by
  cases l with
  | nil => simp
  | cons c l => cases j <;> simp_all
theorem head_nm (l : List UInt8) (h : l.head? ≠ some 120) : (nm l).head? ≠ some 120 := by
  cases l with
  | nil => simp [nm]
  | cons c l =>
    unfold nm
    rw [List.takeWhile_cons]
    split
    · simpa using h
    · simp
theorem num10 (s : ByteArray) (k : Nat) (h : List.isPrefixOf [35] (s.data.toList.drop (k + 1)) = true) (h2 : List.isPrefixOf [35, 120] (s.data.toList.drop (k + 1)) = false) : NumAt s k (k + 2) 10 7 := by
  obtain ⟨r, hr⟩ := List.isPrefixOf_iff_prefix.1 h
  have e : s.data.toList.drop (k + 2) = r := by
    have : s.data.toList.drop (k + 2) = (s.data.toList.drop (k + 1)).drop 1 := by rw [List.drop_drop]
    rw [this, ← hr]; simp
  have hh : r.head? ≠ some 120 := by
    cases r with
    | nil => simp
    | cons c r =>
      rw [← hr] at h2
      intro hc
      simp at hc
      subst hc
      simp at h2
  refine ⟨[35], by rw [e, hr], by decide, rfl, by omega, ?_, fun j => ?_⟩
  · rw [e]; exact told10 _ (head_nm r hh)
  · rw [e]; exact told10 _ (head_take r hh j)
def digits (s : ByteArray) (fr base j : Nat) : Option Nat := numF base 0 ((s.data.toList.drop fr).take j)
theorem digits_succ (s : ByteArray) (fr base j m : Nat) (hk : fr + j < s.size) (h : digits s fr base j = some m) (hd : ¬ base ≤ digV s[fr + j]) : digits s fr base (j + 1) = some (m * base + digV s[fr + j]) := by
  have hl : j < (s.data.toList.drop fr).length := by rw [List.length_drop]; have := len_size s; omega
  unfold digits at h ⊢
  rw [List.take_succ_eq_append_getElem hl, numF_snoc, h, Option.bind_some]
  have e : (s.data.toList.drop fr)[j] = s[fr + j] := by simp; rfl
  rw [e, if_neg hd]
theorem digits_lt {s : ByteArray} {fr base j m most : Nat} (hb : 1 ≤ base) (hj : j ≤ most) (h : digits s fr base j = some m) : m < base ^ most := by
  have := numF_lt base _ _ _ h
  have h2 : base ^ ((s.data.toList.drop fr).take j).length ≤ base ^ most := Nat.pow_le_pow_right hb (by rw [List.length_take]; omega)
  simp at this
  simp at h2
  omega
theorem num_bad {s : ByteArray} {k fr base most j m : Nat} (hN : NumAt s k fr base most) (hm : digits s fr base j = some m) (hj : fr + j ≤ s.size)
    (hexit : s.size ≤ fr + j ∨ base ≤ digV (byteAt s (fr + j)) ∨ most < j) (hbad : j = 0 ∨ most < j ∨ s.size ≤ fr + j ∨ byteAt s (fr + j) ≠ 59) : refT (s.data.toList.drop (k + 1)) = ([], 0, false) := by
  obtain ⟨pre, h1, h2, h3, h4, h5, h6⟩ := hN
  have hl := len_size s
  refine refT_none ?_
  rw [h1]
  have e : s.data.toList.drop fr = (s.data.toList.drop fr).take j ++ (s.data.toList.drop fr).drop j := (List.take_append_drop j _).symm
  have ed : (s.data.toList.drop fr).drop j = s.data.toList.drop (fr + j) := List.drop_drop
  have el : ((s.data.toList.drop fr).take j).length = j := by rw [List.length_take, List.length_drop]; omega
  rw [e]
  refine signL_nonum (base := base) (most := most) (n := m) h2 h4 hm (by rw [← e]; exact h5) ?_ ?_
  · rw [ed, el]
    by_cases hz : s.size ≤ fr + j
    · exact .inl (List.drop_eq_nil_of_le (by omega))
    · rcases hexit with h | h | h
      · omega
      · exact .inr (.inl ⟨_, _, drop_byteAt s (fr + j) (by omega), h⟩)
      · exact .inr (.inr h)
  · rw [ed, el]
    rcases hbad with h | h | h | h
    · subst h; exact .inl (by simp)
    · exact .inr (.inl h)
    · exact .inr (.inr (.inl (List.drop_eq_nil_of_le (by omega))))
    · by_cases hz : s.size ≤ fr + j
      · exact .inr (.inr (.inl (List.drop_eq_nil_of_le (by omega))))
      · exact .inr (.inr (.inr ⟨_, _, drop_byteAt s (fr + j) (by omega), h⟩))
theorem num_good {s : ByteArray} {k fr base most j m : Nat} (hN : NumAt s k fr base most) (hm : digits s fr base j = some m) (hj : fr + j < s.size) (h0 : 1 ≤ j) (hmost : j ≤ most) (hc : byteAt s (fr + j) = 59) :
    signL (s.data.toList.drop (k + 1)) = some (m, fr + j - k) := by
  obtain ⟨pre, h1, h2, h3, h4, h5, h6⟩ := hN
  have hl := len_size s
  have el : ((s.data.toList.drop fr).take j).length = j := by rw [List.length_take, List.length_drop]; omega
  have e : s.data.toList.drop fr = (s.data.toList.drop fr).take j ++ 59 :: s.data.toList.drop (fr + j + 1) := by
    conv => lhs; rw [← List.take_append_drop j (s.data.toList.drop fr), List.drop_drop, drop_byteAt s (fr + j) hj, hc]
  rw [h1, e, signL_num (base := base) (most := most) (n := m) h2 h4 hm (by omega) (by omega) (h6 j), el]
  simp
  omega
theorem refT_good {s : ByteArray} {k m c : Nat} (h : signL (s.data.toList.drop (k + 1)) = some (m, c)) : refT (s.data.toList.drop (k + 1)) = if standsL m then (Lib.encodeRune m, 1 + c, true) else ([239, 191, 189], 1 + c, false) := by
  unfold refT; rw [h]
end Go.Proofs.YtlcljanibjdejaaGreat
namespace Go.Proofs.YtlcljanibjdejaaGreat
open Go.RowKit
theorem conv_new (W : World) (g : Nat) (hg : g = W.heap.size) (xs : List Int) :
    (convert 107 9 (.slice (some ⟨g, 0, none⟩) xs.length xs.length)).run Tryz.prog (W.alloc (.cells (xs.map (Value.int .u8)).toArray 5)) = .ok (.string (strOfNums xs)) (W.alloc (.cells (xs.map (Value.int .u8)).toArray 5)) := by
  subst hg
  refine run_convert_bytes_arg _ 107 5 Tryz.underlying107 Tryz.underlying5 W.heap.size 0 xs.length xs.length xs rfl ?_ 9 Tryz.underlying9
  intro i hi
  unfold World.cell?
  rw [show (⟨W.heap.size, 0 + i, none⟩ : Addr).block = W.heap.size from rfl, heap_alloc_new W (.cells (xs.map (Value.int .u8)).toArray 5)]
  simp [hi]
set_option maxHeartbeats 1000000 in
theorem row_one (n : Nat) (h0 : 1 ≤ n) (h1 : n < 128) (w : World) :
    Calls Tryz.prog 264 #[.int .i64 n] w fun e w' => e = .returned (.string (strOfNums [(n : Int)])) ∧ Keeps [] w w' := by
  have hc := fun x0 => conv_new w (w.heap.size) rfl [x0]
  simp only [List.map_cons, List.map_nil, List.length_cons, List.length_nil, Nat.zero_add] at hc
  have b1 : decide ((128 : Int) ≤ (n : Int)) = false := by simp; omega
  have b2 : decide ((2048 : Int) ≤ (n : Int)) = false := by simp; omega
  have b3 : decide ((65536 : Int) ≤ (n : Int)) = false := by simp; omega
  go_enter Tryz.func264, Tryz.ntmps264
  go_wp2
  go_ret
  exact ⟨rfl, ((Keeps.refl [] w).alloc _)⟩
set_option maxHeartbeats 1000000 in
theorem row_two (n : Nat) (h0 : 128 ≤ n) (h1 : n < 2048) (w : World) :
    Calls Tryz.prog 264 #[.int .i64 n] w fun e w' => e = .returned (.string (strOfNums [192 + (n : Int) / 64, 128 + (n : Int) % 64])) ∧ Keeps [] w w' := by
  have hc := fun (o1 : Obj) x0 x1 => conv_new (w.alloc o1) (w.heap.size + 1) (by simp) [x0, x1]
  simp only [List.map_cons, List.map_nil, List.length_cons, List.length_nil, Nat.zero_add, Nat.reduceAdd] at hc
  have b1 : decide ((128 : Int) ≤ (n : Int)) = true := by simp; omega
  have b2 : decide ((2048 : Int) ≤ (n : Int)) = false := by simp; omega
  have b3 : decide ((65536 : Int) ≤ (n : Int)) = false := by simp; omega
  go_enter Tryz.func264, Tryz.ntmps264
  go_wp2
  go_ret
  exact ⟨rfl, (((Keeps.refl [] w).alloc _).alloc _)⟩
set_option maxHeartbeats 1000000 in
theorem row_three (n : Nat) (h0 : 2048 ≤ n) (h1 : n < 65536) (w : World) :
    Calls Tryz.prog 264 #[.int .i64 n] w fun e w' => e = .returned (.string (strOfNums [224 + (n : Int) / 4096, 128 + (n : Int) / 64 % 64, 128 + (n : Int) % 64])) ∧ Keeps [] w w' := by
  have hc := fun (o1 : Obj) (o2 : Obj) x0 x1 x2 => conv_new ((w.alloc o1).alloc o2) (w.heap.size + 2) (by simp) [x0, x1, x2]
  simp only [List.map_cons, List.map_nil, List.length_cons, List.length_nil, Nat.zero_add, Nat.reduceAdd] at hc
  have b1 : decide ((128 : Int) ≤ (n : Int)) = true := by simp; omega
  have b2 : decide ((2048 : Int) ≤ (n : Int)) = true := by simp; omega
  have b3 : decide ((65536 : Int) ≤ (n : Int)) = false := by simp; omega
  go_enter Tryz.func264, Tryz.ntmps264
  go_wp2
  go_ret
  exact ⟨rfl, ((((Keeps.refl [] w).alloc _).alloc _).alloc _)⟩
set_option maxHeartbeats 1000000 in
theorem row_four (n : Nat) (h0 : 65536 ≤ n) (h1 : n < 1114112) (w : World) :
    Calls Tryz.prog 264 #[.int .i64 n] w fun e w' => e = .returned (.string (strOfNums [240 + (n : Int) / 262144, 128 + (n : Int) / 4096 % 64, 128 + (n : Int) / 64 % 64, 128 + (n : Int) % 64])) ∧ Keeps [] w w' := by
  have hc := fun (o1 : Obj) (o2 : Obj) (o3 : Obj) x0 x1 x2 x3 => conv_new (((w.alloc o1).alloc o2).alloc o3) (w.heap.size + 3) (by simp) [x0, x1, x2, x3]
  simp only [List.map_cons, List.map_nil, List.length_cons, List.length_nil, Nat.zero_add, Nat.reduceAdd] at hc
  have b1 : decide ((128 : Int) ≤ (n : Int)) = true := by simp; omega
  have b2 : decide ((2048 : Int) ≤ (n : Int)) = true := by simp; omega
  have b3 : decide ((65536 : Int) ≤ (n : Int)) = true := by simp; omega
  go_enter Tryz.func264, Tryz.ntmps264
  go_wp2
  go_ret
  exact ⟨rfl, (((((Keeps.refl [] w).alloc _).alloc _).alloc _).alloc _)⟩
theorem rune_str (r : Int) : strOfNums (Lib.encodeRuneZ r) = ⟨(Lib.encodeRune r).toArray⟩ := rfl
theorem row_any (n : Nat) (h : standsL n = true) (w : World) :
    Calls Tryz.prog 264 #[.int .i64 n] w fun e w' => e = .returned (.string ⟨(Lib.encodeRune n).toArray⟩) ∧ Keeps [] w w' := by
  have hs : 0 < n ∧ n ≤ 1114111 ∧ ¬ (55296 ≤ n ∧ n ≤ 57343) := by
    simp only [standsL, Bool.and_eq_true, decide_eq_true_eq, Bool.not_eq_true', Bool.and_eq_false_iff, decide_eq_false_iff_not] at h
    omega
  rw [← rune_str]
  rcases (show n < 128 ∨ (128 ≤ n ∧ n < 2048) ∨ (2048 ≤ n ∧ n < 65536) ∨ 65536 ≤ n from by omega) with h1 | h1 | h1 | h1
  · rw [Lib.encodeRuneZ_one (by omega) (by omega)]
    exact row_one n (by omega) h1 w
  · rw [Lib.encodeRuneZ_two (by omega) (by omega)]
    exact row_two n h1.1 h1.2 w
  · rw [Lib.encodeRuneZ_three (by omega)]
    exact row_three n h1.1 h1.2 w
  · rw [Lib.encodeRuneZ_four (by omega) (by omega)]
    exact row_four n h1 (by omega) w
theorem app_str (a b : ByteArray) : (a ++ b).data.toList = a.data.toList ++ b.data.toList := by simp
theorem app_eq (l : List UInt8) (t : ByteArray) (r : List UInt8) (h : r = l ++ t.data.toList) : Value.string ((⟨l.toArray⟩ : ByteArray) ++ t) = Value.string ⟨r.toArray⟩ := by
  have : (⟨l.toArray⟩ : ByteArray) ++ t = ⟨r.toArray⟩ := WideShapes.bytes_inj (by rw [app_str, h])
  rw [this]
theorem one_byte (s : ByteArray) (k : Nat) (hk : k < s.size) : (s.extract k (k + 1)).data.toList = [s[k]] := by
  have hl : k < s.data.toList.length := by simpa using hk
  rw [Lib.extract_data, Nat.add_sub_cancel_left, List.drop_eq_getElem_cons hl]
  simp
  rfl
def three (a : List UInt8 × Nat × Bool) : Ending := .returned (.tuple #[.string ⟨a.1.toArray⟩, .int .i64 a.2.1, .bool a.2.2])
set_option maxHeartbeats 1000000 in
theorem sign_c1 (s : ByteArray) (k : Nat) (hs : s.size ≤ 3000) (hk : k < s.size) (b1 : stAt s k [38, 97, 109, 112, 59] = true) (w : World) :
    Calls Tryz.prog 189 #[.string s, .int .i64 k] w fun e w' => e = three ([38], 5, true) ∧ Keeps [] w w' := by
  go_enter Tryz.func189, Tryz.ntmps189
  go_wp2_with (go_at_call 108; refine (startsAt_any s k _ hs (by omega) (Nat.le_of_ble_eq_true rfl) _).mono ?_; rintro e w' ⟨rfl, rfl⟩)
  go_ret3
  exact ⟨rfl, Keeps.refl _ _⟩
set_option maxHeartbeats 1000000 in
theorem sign_c2 (s : ByteArray) (k : Nat) (hs : s.size ≤ 3000) (hk : k < s.size) (b1 : stAt s k [38, 97, 109, 112, 59] = false) (b2 : stAt s k [38, 108, 116, 59] = true) (w : World) :
    Calls Tryz.prog 189 #[.string s, .int .i64 k] w fun e w' => e = three ([60], 4, true) ∧ Keeps [] w w' := by
  go_enter Tryz.func189, Tryz.ntmps189
  go_wp2_with (go_at_call 108; refine (startsAt_any s k _ hs (by omega) (Nat.le_of_ble_eq_true rfl) _).mono ?_; rintro e w' ⟨rfl, rfl⟩)
  go_ret3
  exact ⟨rfl, Keeps.refl _ _⟩
set_option maxHeartbeats 1000000 in
theorem sign_c3 (s : ByteArray) (k : Nat) (hs : s.size ≤ 3000) (hk : k < s.size) (b1 : stAt s k [38, 97, 109, 112, 59] = false) (b2 : stAt s k [38, 108, 116, 59] = false) (b3 : stAt s k [38, 103, 116, 59] = true) (w : World) :
    Calls Tryz.prog 189 #[.string s, .int .i64 k] w fun e w' => e = three ([62], 4, true) ∧ Keeps [] w w' := by
  go_enter Tryz.func189, Tryz.ntmps189
  go_wp2_with (go_at_call 108; refine (startsAt_any s k _ hs (by omega) (Nat.le_of_ble_eq_true rfl) _).mono ?_; rintro e w' ⟨rfl, rfl⟩)
  go_ret3
  exact ⟨rfl, Keeps.refl _ _⟩
set_option maxHeartbeats 1000000 in
theorem sign_c4 (s : ByteArray) (k : Nat) (hs : s.size ≤ 3000) (hk : k < s.size) (b1 : stAt s k [38, 97, 109, 112, 59] = false) (b2 : stAt s k [38, 108, 116, 59] = false) (b3 : stAt s k [38, 103, 116, 59] = false) (b4 : stAt s k [38, 113, 117, 111, 116, 59] = true) (w : World) :
    Calls Tryz.prog 189 #[.string s, .int .i64 k] w fun e w' => e = three ([34], 6, true) ∧ Keeps [] w w' := by
  go_enter Tryz.func189, Tryz.ntmps189
  go_wp2_with (go_at_call 108; refine (startsAt_any s k _ hs (by omega) (Nat.le_of_ble_eq_true rfl) _).mono ?_; rintro e w' ⟨rfl, rfl⟩)
  go_ret3
  exact ⟨rfl, Keeps.refl _ _⟩
set_option maxHeartbeats 1000000 in
theorem sign_c5 (s : ByteArray) (k : Nat) (hs : s.size ≤ 3000) (hk : k < s.size) (b1 : stAt s k [38, 97, 109, 112, 59] = false) (b2 : stAt s k [38, 108, 116, 59] = false) (b3 : stAt s k [38, 103, 116, 59] = false) (b4 : stAt s k [38, 113, 117, 111, 116, 59] = false) (b5 : stAt s k [38, 97, 112, 111, 115, 59] = true) (w : World) :
    Calls Tryz.prog 189 #[.string s, .int .i64 k] w fun e w' => e = three ([39], 6, true) ∧ Keeps [] w w' := by
  go_enter Tryz.func189, Tryz.ntmps189
  go_wp2_with (go_at_call 108; refine (startsAt_any s k _ hs (by omega) (Nat.le_of_ble_eq_true rfl) _).mono ?_; rintro e w' ⟨rfl, rfl⟩)
  go_ret3
  exact ⟨rfl, Keeps.refl _ _⟩
set_option maxHeartbeats 1000000 in
theorem sign_c6 (s : ByteArray) (k : Nat) (hs : s.size ≤ 3000) (hk : k < s.size) (b1 : stAt s k [38, 97, 109, 112, 59] = false) (b2 : stAt s k [38, 108, 116, 59] = false) (b3 : stAt s k [38, 103, 116, 59] = false) (b4 : stAt s k [38, 113, 117, 111, 116, 59] = false) (b5 : stAt s k [38, 97, 112, 111, 115, 59] = false) (b6 : stAt s k [38, 35] = false) (w : World) :
    Calls Tryz.prog 189 #[.string s, .int .i64 k] w fun e w' => e = three ([], 0, false) ∧ Keeps [] w w' := by
  go_enter Tryz.func189, Tryz.ntmps189
  go_wp2_with (go_at_call 108; refine (startsAt_any s k _ hs (by omega) (Nat.le_of_ble_eq_true rfl) _).mono ?_; rintro e w' ⟨rfl, rfl⟩)
  go_ret3
  exact ⟨rfl, Keeps.refl _ _⟩
theorem rdigit_no (c : UInt8) (base : Nat) (hb : base = 10 ∨ base = 16) (h : base ≤ digV c) (w : World) :
    Calls Tryz.prog 263 #[.int .u8 c.toNat, .int .i64 base] w fun e w' => e = .returned (.int .i64 (-1)) ∧ w' = w :=
  (rdigit_any c base hb w).mono fun _ _ ⟨he, hw⟩ => ⟨he.trans (by rw [if_pos h]), hw⟩
theorem rdigit_yes (c : UInt8) (base : Nat) (hb : base = 10 ∨ base = 16) (h : ¬ base ≤ digV c) (w : World) :
    Calls Tryz.prog 263 #[.int .u8 c.toNat, .int .i64 base] w fun e w' => e = .returned (.int .i64 (digV c)) ∧ w' = w :=
  (rdigit_any c base hb w).mono fun _ _ ⟨he, hw⟩ => ⟨he.trans (by rw [if_neg h]), hw⟩
theorem ret_three {a : ByteArray} {x y : Int} {b : Bool} (h : x = y) : Ending.returned (.tuple #[.string a, .int .i64 x, .bool b]) = .returned (.tuple #[.string a, .int .i64 y, .bool b]) := by rw [h]
theorem between_is (n a b : Int) (r : Bool) (h : (decide (a ≤ n) && decide (n ≤ b)) = r) (w : World) :
    Calls Tryz.prog 128 #[.int .i64 n, .int .i64 a, .int .i64 b] w fun e w' => e = .returned (.bool r) ∧ w' = w := h ▸ between_any n a b w
set_option maxHeartbeats 4000000 in
theorem sign_n16 (s : ByteArray) (k : Nat) (hs : s.size ≤ 3000) (b1 : stAt s k [38, 97, 109, 112, 59] = false) (b2 : stAt s k [38, 108, 116, 59] = false) (b3 : stAt s k [38, 103, 116, 59] = false) (b4 : stAt s k [38, 113, 117, 111, 116, 59] = false) (b5 : stAt s k [38, 97, 112, 111, 115, 59] = false) (b6 : stAt s k [38, 35] = true) (b7 : stAt s k [38, 35, 120] = true) (hz : k + 3 ≤ s.size) (hN : Hid (NumAt s k (k + 3) 16 6)) (R : List UInt8 × Nat × Bool) (hR : Hid (refT (s.data.toList.drop (k + 1)) = R)) (w : World) :
    Calls Tryz.prog 189 #[.string s, .int .i64 k] w fun e w' => e = three R ∧ Keeps [] w w' := by
  go_enter Tryz.func189, Tryz.ntmps189
  go_wp2_with (go_at_call 108; refine (startsAt_any s k _ hs (by omega) (Nat.le_of_ble_eq_true rfl) _).mono ?_; rintro e w' ⟨rfl, rfl⟩)
  clear b1 b2 b3 b4 b5 b6 b7
  go_loop [10, 11] (fun n t => ∃ j m : Nat, j ≤ 6 + 1 ∧ k + 3 + j ≤ s.size ∧ t = .int .i64 ((k + 3 + j : Nat) : Int) ∧ n = .int .i64 (m : Nat) ∧ Hid (digits s (k + 3) 16 j = some m)) (fun _ t => s.size - (intOf t).toNat)
  case atStart => exact ⟨0, 0, by omega, by omega, by go_num, rfl, by simp [Hid, digits, numF]⟩
  case round =>
    obtain ⟨j, m, hj, hjs, rfl, rfl, hm⟩ := hrel
    have hlt : m < 268435456 := digits_lt (by omega) hj hm.out
    by_cases hin : k + 3 + j < s.size
    · by_cases hd : 16 ≤ digV s[k + 3 + j]
      · have hdig := hide (fun w => rdigit_no s[k + 3 + j] 16 (by simp) hd w)
        have hdb : 16 ≤ digV (byteAt s (k + 3 + j)) := by rw [byteAt_eq s _ hin]; exact hd
        by_cases hgood : 1 ≤ j ∧ j ≤ 6 ∧ byteAt s (k + 3 + j) = 59
        · obtain ⟨g1, g2, g3⟩ := hgood
          have hc : ((s[k + 3 + j].toNat : Int) != 59) = false := by rw [← byteAt_eq s _ hin, g3]; rfl
          have hc2 : ((s[k + 3 + j].toNat : Int) == 59) = true := by rw [← byteAt_eq s _ hin, g3]; rfl
          have t1 : (((k : Int) + 3 + (j : Int)) == (k : Int) + 3) = false := by simp; omega
          have t2 : (((k : Int) + 3 + (j : Int)) == (s.size : Int)) = false := by simp; omega
          have hg := num_good hN.out hm.out hin g1 g2 g3
          have e1 := hR.out.symm.trans (refT_good hg)
          clear hg hd hdb g3 hR hm hN
          cases hst : standsL m
          · rw [hst] at e1
            have HR : Hid (R = ([239, 191, 189], 1 + (k + 3 + j - k), false)) := e1
            clear e1
            rcases (show m < 1 ∨ (1 ≤ m ∧ 55296 ≤ m ∧ m ≤ 57343) ∨ 1114111 < m from by
              simp only [standsL, Bool.and_eq_false_iff, decide_eq_false_iff_not, Bool.not_eq_false', Bool.and_eq_true, decide_eq_true_eq] at hst
              omega) with q | q | q
            · clear hst
              go_wp2_with (go_at_call 263; refine (hdig.out _).mono ?_; rintro e w' ⟨rfl, rfl⟩)
              go_ret3
              rw [HR.out]
              exact ⟨ret_three (by dsimp only; omega), Keeps.refl _ _⟩
            · clear hst
              have hbt := hide (fun w => between_is (m : Int) 55296 57343 true (by simp; omega) w)
              go_wp2_with (first | (go_at_call 263; refine (hdig.out _).mono ?_; rintro e w' ⟨rfl, rfl⟩) | (go_at_call 128; refine (hbt.out _).mono ?_; rintro e w' ⟨rfl, rfl⟩))
              go_ret3
              rw [HR.out]
              exact ⟨ret_three (by dsimp only; omega), Keeps.refl _ _⟩
            · clear hst
              have hbt := hide (fun w => between_is (m : Int) 55296 57343 false (by simp; omega) w)
              have hbig : decide ((1114111 : Int) < (m : Int)) = true := by simp; omega
              go_wp2_with (first | (go_at_call 263; refine (hdig.out _).mono ?_; rintro e w' ⟨rfl, rfl⟩) | (go_at_call 128; refine (hbt.out _).mono ?_; rintro e w' ⟨rfl, rfl⟩))
              go_ret3
              rw [HR.out]
              exact ⟨ret_three (by dsimp only; omega), Keeps.refl _ _⟩
          · rw [hst] at e1
            have HR : Hid (R = (Lib.encodeRune m, 1 + (k + 3 + j - k), true)) := e1
            clear e1
            have q : 1 ≤ m ∧ m ≤ 1114111 ∧ ¬ (55296 ≤ m ∧ m ≤ 57343) := by
              simp only [standsL, Bool.and_eq_true, decide_eq_true_eq, Bool.not_eq_true', Bool.and_eq_false_iff, decide_eq_false_iff_not] at hst
              omega
            have hrow := hide (fun w => row_any m hst w)
            clear hst
            have hbt := hide (fun w => between_is (m : Int) 55296 57343 false (by simp; omega) w)
            have hbig : decide ((1114111 : Int) < (m : Int)) = false := by simp; omega
            have hm0 : ((m : Int) == 0) = false := by simp; omega
            clear q
            go_wp2_with (first | (go_at_call 263; refine (hdig.out _).mono ?_; rintro e w' ⟨rfl, rfl⟩) | (go_at_call 128; refine (hbt.out _).mono ?_; rintro e w' ⟨rfl, rfl⟩))
            refine (hrow.out _).mono ?_
            rintro e w1 ⟨rfl, hk1⟩
            go_wp2_with fail
            go_ret3
            rw [HR.out]
            exact ⟨ret_three (by dsimp only; omega), hk1⟩
        · have hq : j < 1 ∨ 6 < j ∨ 1 ≤ j ∧ j ≤ 6 ∧ byteAt s (k + 3 + j) ≠ 59 := by
            by_cases q1 : j < 1
            · exact .inl q1
            · by_cases q2 : 6 < j
              · exact .inr (.inl q2)
              · exact .inr (.inr ⟨by omega, by omega, fun q3 => hgood ⟨by omega, by omega, q3⟩⟩)
          have HR := hide (hR.out.symm.trans (num_bad hN.out hm.out hjs (.inr (.inl hdb)) (by
            rcases hq with q | q | q
            · exact .inl (by omega)
            · exact .inr (.inl q)
            · exact .inr (.inr (.inr q.2.2)))))
          clear hd hdb hR hm hN hgood
          rcases hq with q | q | ⟨q1, q2, q3⟩
          · go_wp2_with (go_at_call 263; refine (hdig.out _).mono ?_; rintro e w' ⟨rfl, rfl⟩)
            go_ret3
            rw [HR.out]
            exact ⟨rfl, Keeps.refl _ _⟩
          · go_wp2_with (go_at_call 263; refine (hdig.out _).mono ?_; rintro e w' ⟨rfl, rfl⟩)
            go_ret3
            rw [HR.out]
            exact ⟨rfl, Keeps.refl _ _⟩
          · have hc : ((s[k + 3 + j].toNat : Int) != 59) = true := by
              rw [← byteAt_eq s _ hin]
              have := byte_bne (byteAt s (k + 3 + j)) 59
              rw [show ((59 : UInt8).toNat : Int) = 59 from rfl] at this
              rw [this]; simpa using q3
            clear q3
            go_wp2_with (go_at_call 263; refine (hdig.out _).mono ?_; rintro e w' ⟨rfl, rfl⟩)
            go_ret3
            rw [HR.out]
            exact ⟨rfl, Keeps.refl _ _⟩
      · have hdig := hide (fun w => rdigit_yes s[k + 3 + j] 16 (by simp) hd w)
        have hdl := digV_le s[k + 3 + j]
        by_cases hmost : j ≤ 6
        · have hnext := hide (digits_succ s (k + 3) 16 j m hin hm.out hd)
          clear hd hR hN hm
          go_wp2_with (go_at_call 263; refine (hdig.out _).mono ?_; rintro e w' ⟨rfl, rfl⟩)
          go_round
          case rel => exact ⟨j + 1, m * 16 + digV s[k + 3 + j], by omega, by omega, by go_num, by go_num, hnext⟩
          case measure => simp [intOf]; omega
        · have HR := hide (hR.out.symm.trans (num_bad hN.out hm.out hjs (.inr (.inr (by omega))) (.inr (.inl (by omega)))))
          clear hd hR hm hN
          go_wp2_with (go_at_call 263; refine (hdig.out _).mono ?_; rintro e w' ⟨rfl, rfl⟩)
          go_ret3
          rw [HR.out]
          exact ⟨rfl, Keeps.refl _ _⟩
    · have HR := hide (hR.out.symm.trans (num_bad hN.out hm.out hjs (.inl (by omega)) (.inr (.inr (.inl (by omega))))))
      clear hR hm hN
      go_wp2
      all_goals
        go_ret3
        rw [HR.out]
        exact ⟨rfl, Keeps.refl _ _⟩
set_option maxHeartbeats 4000000 in
theorem sign_n10 (s : ByteArray) (k : Nat) (hs : s.size ≤ 3000) (b1 : stAt s k [38, 97, 109, 112, 59] = false) (b2 : stAt s k [38, 108, 116, 59] = false) (b3 : stAt s k [38, 103, 116, 59] = false) (b4 : stAt s k [38, 113, 117, 111, 116, 59] = false) (b5 : stAt s k [38, 97, 112, 111, 115, 59] = false) (b6 : stAt s k [38, 35] = true) (b7 : stAt s k [38, 35, 120] = false) (hz : k + 2 ≤ s.size) (hN : Hid (NumAt s k (k + 2) 10 7)) (R : List UInt8 × Nat × Bool) (hR : Hid (refT (s.data.toList.drop (k + 1)) = R)) (w : World) :
    Calls Tryz.prog 189 #[.string s, .int .i64 k] w fun e w' => e = three R ∧ Keeps [] w w' := by
  go_enter Tryz.func189, Tryz.ntmps189
  go_wp2_with (go_at_call 108; refine (startsAt_any s k _ hs (by omega) (Nat.le_of_ble_eq_true rfl) _).mono ?_; rintro e w' ⟨rfl, rfl⟩)
  clear b1 b2 b3 b4 b5 b6 b7
  go_loop [10, 11] (fun n t => ∃ j m : Nat, j ≤ 7 + 1 ∧ k + 2 + j ≤ s.size ∧ t = .int .i64 ((k + 2 + j : Nat) : Int) ∧ n = .int .i64 (m : Nat) ∧ Hid (digits s (k + 2) 10 j = some m)) (fun _ t => s.size - (intOf t).toNat)
  case atStart => exact ⟨0, 0, by omega, by omega, by go_num, rfl, by simp [Hid, digits, numF]⟩
  case round =>
    obtain ⟨j, m, hj, hjs, rfl, rfl, hm⟩ := hrel
    have hlt : m < 100000000 := digits_lt (by omega) hj hm.out
    by_cases hin : k + 2 + j < s.size
    · by_cases hd : 10 ≤ digV s[k + 2 + j]
      · have hdig := hide (fun w => rdigit_no s[k + 2 + j] 10 (by simp) hd w)
        have hdb : 10 ≤ digV (byteAt s (k + 2 + j)) := by rw [byteAt_eq s _ hin]; exact hd
        by_cases hgood : 1 ≤ j ∧ j ≤ 7 ∧ byteAt s (k + 2 + j) = 59
        · obtain ⟨g1, g2, g3⟩ := hgood
          have hc : ((s[k + 2 + j].toNat : Int) != 59) = false := by rw [← byteAt_eq s _ hin, g3]; rfl
          have hc2 : ((s[k + 2 + j].toNat : Int) == 59) = true := by rw [← byteAt_eq s _ hin, g3]; rfl
          have t1 : (((k : Int) + 2 + (j : Int)) == (k : Int) + 2) = false := by simp; omega
          have t2 : (((k : Int) + 2 + (j : Int)) == (s.size : Int)) = false := by simp; omega
          have hg := num_good hN.out hm.out hin g1 g2 g3
          have e1 := hR.out.symm.trans (refT_good hg)
          clear hg hd hdb g3 hR hm hN
          cases hst : standsL m
          · rw [hst] at e1
            have HR : Hid (R = ([239, 191, 189], 1 + (k + 2 + j - k), false)) := e1
            clear e1
            rcases (show m < 1 ∨ (1 ≤ m ∧ 55296 ≤ m ∧ m ≤ 57343) ∨ 1114111 < m from by
              simp only [standsL, Bool.and_eq_false_iff, decide_eq_false_iff_not, Bool.not_eq_false', Bool.and_eq_true, decide_eq_true_eq] at hst
              omega) with q | q | q
            · clear hst
              go_wp2_with (go_at_call 263; refine (hdig.out _).mono ?_; rintro e w' ⟨rfl, rfl⟩)
              go_ret3
              rw [HR.out]
              exact ⟨ret_three (by dsimp only; omega), Keeps.refl _ _⟩
            · clear hst
              have hbt := hide (fun w => between_is (m : Int) 55296 57343 true (by simp; omega) w)
              go_wp2_with (first | (go_at_call 263; refine (hdig.out _).mono ?_; rintro e w' ⟨rfl, rfl⟩) | (go_at_call 128; refine (hbt.out _).mono ?_; rintro e w' ⟨rfl, rfl⟩))
              go_ret3
              rw [HR.out]
              exact ⟨ret_three (by dsimp only; omega), Keeps.refl _ _⟩
            · clear hst
              have hbt := hide (fun w => between_is (m : Int) 55296 57343 false (by simp; omega) w)
              have hbig : decide ((1114111 : Int) < (m : Int)) = true := by simp; omega
              go_wp2_with (first | (go_at_call 263; refine (hdig.out _).mono ?_; rintro e w' ⟨rfl, rfl⟩) | (go_at_call 128; refine (hbt.out _).mono ?_; rintro e w' ⟨rfl, rfl⟩))
              go_ret3
              rw [HR.out]
              exact ⟨ret_three (by dsimp only; omega), Keeps.refl _ _⟩
          · rw [hst] at e1
            have HR : Hid (R = (Lib.encodeRune m, 1 + (k + 2 + j - k), true)) := e1
            clear e1
            have q : 1 ≤ m ∧ m ≤ 1114111 ∧ ¬ (55296 ≤ m ∧ m ≤ 57343) := by
              simp only [standsL, Bool.and_eq_true, decide_eq_true_eq, Bool.not_eq_true', Bool.and_eq_false_iff, decide_eq_false_iff_not] at hst
              omega
            have hrow := hide (fun w => row_any m hst w)
            clear hst
            have hbt := hide (fun w => between_is (m : Int) 55296 57343 false (by simp; omega) w)
            have hbig : decide ((1114111 : Int) < (m : Int)) = false := by simp; omega
            have hm0 : ((m : Int) == 0) = false := by simp; omega
            clear q
            go_wp2_with (first | (go_at_call 263; refine (hdig.out _).mono ?_; rintro e w' ⟨rfl, rfl⟩) | (go_at_call 128; refine (hbt.out _).mono ?_; rintro e w' ⟨rfl, rfl⟩))
            refine (hrow.out _).mono ?_
            rintro e w1 ⟨rfl, hk1⟩
            go_wp2_with fail
            go_ret3
            rw [HR.out]
            exact ⟨ret_three (by dsimp only; omega), hk1⟩
        · have hq : j < 1 ∨ 7 < j ∨ 1 ≤ j ∧ j ≤ 7 ∧ byteAt s (k + 2 + j) ≠ 59 := by
            by_cases q1 : j < 1
            · exact .inl q1
            · by_cases q2 : 7 < j
              · exact .inr (.inl q2)
              · exact .inr (.inr ⟨by omega, by omega, fun q3 => hgood ⟨by omega, by omega, q3⟩⟩)
          have HR := hide (hR.out.symm.trans (num_bad hN.out hm.out hjs (.inr (.inl hdb)) (by
            rcases hq with q | q | q
            · exact .inl (by omega)
            · exact .inr (.inl q)
            · exact .inr (.inr (.inr q.2.2)))))
          clear hd hdb hR hm hN hgood
          rcases hq with q | q | ⟨q1, q2, q3⟩
          · go_wp2_with (go_at_call 263; refine (hdig.out _).mono ?_; rintro e w' ⟨rfl, rfl⟩)
            go_ret3
            rw [HR.out]
            exact ⟨rfl, Keeps.refl _ _⟩
          · go_wp2_with (go_at_call 263; refine (hdig.out _).mono ?_; rintro e w' ⟨rfl, rfl⟩)
            go_ret3
            rw [HR.out]
            exact ⟨rfl, Keeps.refl _ _⟩
          · have hc : ((s[k + 2 + j].toNat : Int) != 59) = true := by
              rw [← byteAt_eq s _ hin]
              have := byte_bne (byteAt s (k + 2 + j)) 59
              rw [show ((59 : UInt8).toNat : Int) = 59 from rfl] at this
              rw [this]; simpa using q3
            clear q3
            go_wp2_with (go_at_call 263; refine (hdig.out _).mono ?_; rintro e w' ⟨rfl, rfl⟩)
            go_ret3
            rw [HR.out]
            exact ⟨rfl, Keeps.refl _ _⟩
      · have hdig := hide (fun w => rdigit_yes s[k + 2 + j] 10 (by simp) hd w)
        have hdl := digV_le s[k + 2 + j]
        by_cases hmost : j ≤ 7
        · have hnext := hide (digits_succ s (k + 2) 10 j m hin hm.out hd)
          clear hd hR hN hm
          go_wp2_with (go_at_call 263; refine (hdig.out _).mono ?_; rintro e w' ⟨rfl, rfl⟩)
          go_round
          case rel => exact ⟨j + 1, m * 10 + digV s[k + 2 + j], by omega, by omega, by go_num, by go_num, hnext⟩
          case measure => simp [intOf]; omega
        · have HR := hide (hR.out.symm.trans (num_bad hN.out hm.out hjs (.inr (.inr (by omega))) (.inr (.inl (by omega)))))
          clear hd hR hm hN
          go_wp2_with (go_at_call 263; refine (hdig.out _).mono ?_; rintro e w' ⟨rfl, rfl⟩)
          go_ret3
          rw [HR.out]
          exact ⟨rfl, Keeps.refl _ _⟩
    · have HR := hide (hR.out.symm.trans (num_bad hN.out hm.out hjs (.inl (by omega)) (.inr (.inr (.inl (by omega))))))
      clear hR hm hN
      go_wp2
      all_goals
        go_ret3
        rw [HR.out]
        exact ⟨rfl, Keeps.refl _ _⟩
theorem signAt_any (s : ByteArray) (k : Nat) (hs : s.size ≤ 3000) (hk : k < s.size) (hc : byteAt s k = 38) (w : World) :
    Calls Tryz.prog 189 #[.string s, .int .i64 k] w fun e w' => e = three (refT (s.data.toList.drop (k + 1))) ∧ Keeps [] w w' := by
  have e1 := stAt_and s k hk hc [97, 109, 112, 59]
  have e2 := stAt_and s k hk hc [108, 116, 59]
  have e3 := stAt_and s k hk hc [103, 116, 59]
  have e4 := stAt_and s k hk hc [113, 117, 111, 116, 59]
  have e5 := stAt_and s k hk hc [97, 112, 111, 115, 59]
  have e6 := stAt_and s k hk hc [35]
  have e7 := stAt_and s k hk hc [35, 120]
  cases b1 : stAt s k [38, 97, 109, 112, 59] with
  | true =>
    rw [e1] at b1
    rw [refT_named (p := [97, 109, 112]) (n := 38) b1 (by decide) (by decide) (by decide)]
    rw [← e1] at b1
    exact sign_c1 s k hs hk b1 w
  | false =>
  cases b2 : stAt s k [38, 108, 116, 59] with
  | true =>
    rw [e2] at b2
    rw [refT_named (p := [108, 116]) (n := 60) b2 (by decide) (by decide) (by decide)]
    rw [← e2] at b2
    exact sign_c2 s k hs hk b1 b2 w
  | false =>
  cases b3 : stAt s k [38, 103, 116, 59] with
  | true =>
    rw [e3] at b3
    rw [refT_named (p := [103, 116]) (n := 62) b3 (by decide) (by decide) (by decide)]
    rw [← e3] at b3
    exact sign_c3 s k hs hk b1 b2 b3 w
  | false =>
  cases b4 : stAt s k [38, 113, 117, 111, 116, 59] with
  | true =>
    rw [e4] at b4
    rw [refT_named (p := [113, 117, 111, 116]) (n := 34) b4 (by decide) (by decide) (by decide)]
    rw [← e4] at b4
    exact sign_c4 s k hs hk b1 b2 b3 b4 w
  | false =>
  cases b5 : stAt s k [38, 97, 112, 111, 115, 59] with
  | true =>
    rw [e5] at b5
    rw [refT_named (p := [97, 112, 111, 115]) (n := 39) b5 (by decide) (by decide) (by decide)]
    rw [← e5] at b5
    exact sign_c5 s k hs hk b1 b2 b3 b4 b5 w
  | false =>
  cases b6 : stAt s k [38, 35] with
  | false =>
    rw [refT_none (signL_none (e1 ▸ b1) (e2 ▸ b2) (e3 ▸ b3) (e4 ▸ b4) (e5 ▸ b5) (e6 ▸ b6))]
    exact sign_c6 s k hs hk b1 b2 b3 b4 b5 b6 w
  | true =>
  cases b7 : stAt s k [38, 35, 120] with
  | true =>
    have hz : k + 3 ≤ s.size := by
      have := (List.isPrefixOf_iff_prefix.1 b7).length_le
      rw [List.length_drop, len_size] at this
      simp at this
      omega
    exact sign_n16 s k hs b1 b2 b3 b4 b5 b6 b7 hz (num16 s k (e7 ▸ b7)) _ rfl w
  | false =>
    have hz : k + 2 ≤ s.size := by
      have := (List.isPrefixOf_iff_prefix.1 b6).length_le
      rw [List.length_drop, len_size] at this
      simp at this
      omega
    exact sign_n10 s k hs b1 b2 b3 b4 b5 b6 b7 hz (num10 s k (e6 ▸ b6) (e7 ▸ b7)) _ rfl w
theorem done_other {s : ByteArray} {k : Nat} {o : List UInt8} {r : Bool} (h : Done s k o r) (hk : k < s.size) (hc : byteAt s k ≠ 38) : Done s (k + 1) (o ++ [s[k]]) r := by
  have e := takeL_other (byteAt s k) (s.data.toList.drop (k + 1)) hc
  rw [← drop_byteAt s k hk] at e
  refine ⟨?_, ?_⟩
  · rw [h.1, e, byteAt_eq s k hk]
    simp
  · have := h.2
    simp only [List.length_append, List.length_cons, List.length_nil]
    omega
theorem takeOne_ref {s : ByteArray} {k : Nat} (hk : k < s.size) (hc : byteAt s k = 38) :
    takeOne (s.data.toList.drop k) = if (refT (s.data.toList.drop (k + 1))).2.1 = 0 then ([38], 1, false) else refT (s.data.toList.drop (k + 1)) := by
  unfold takeOne refT
  rw [List.drop_drop]
  cases hs : signL (s.data.toList.drop (k + 1)) with
  | none => simp; rw [drop_byteAt s k hk, hc]; simp
  | some x =>
    obtain ⟨n, m⟩ := x
    have e : Lib.encodeRune 65533 = [239, 191, 189] := by decide
    cases hst : standsL n
    · simp [hst, e]
    · simp [hst]
theorem refT_zero (l : List UInt8) (h : (refT l).2.1 = 0) : (refT l).2.2 = false := by
  unfold refT at h ⊢
  cases hs : signL l with
  | none => rfl
  | some x =>
    obtain ⟨n, m⟩ := x
    rw [hs] at h
    cases hst : standsL n <;> simp [hst] at h
set_option maxHeartbeats 2000000 in
theorem takeOf_any (s : ByteArray) (w : World) (hs : s.size ≤ 3000) :
    Calls Tryz.prog 106 #[.string s] w fun e w' => e = .returned (.tuple #[.string ⟨(takeL s.data.toList).1.toArray⟩, .bool (takeL s.data.toList).2]) ∧ Keeps [] w w' := by
  obtain ⟨T, hTk⟩ : ∃ T, takeL s.data.toList = T := ⟨_, rfl⟩
  rw [hTk]
  have HT := hide hTk
  clear hTk
  go_enter Tryz.func106, Tryz.ntmps106
  go_wp2_with fail
  go_loopw [4, 5, 6] (fun u v t wr => ∃ (k : Nat) (o : List UInt8) (rt : Bool), k ≤ s.size ∧ u = .string ⟨o.toArray⟩ ∧ v = .bool rt ∧ t = .int .i64 k ∧ Keeps [] w wr ∧ Hid (Done s k o rt))
    (fun _ _ t _ => s.size - (intOf t).toNat)
  case atStart => exact ⟨0, [], true, Nat.zero_le _, rfl, rfl, rfl, Keeps.refl _ _, done_start s⟩
  case round =>
    obtain ⟨k, o, rt, hk, rfl, rfl, rfl, hkp, hD⟩ := hrel
    have hol : (⟨o.toArray⟩ : ByteArray).size = o.length := by simp [ByteArray.size]
    have hon : o.length ≤ 100000 := by have := hD.out.2; omega
    by_cases hlt : k < s.size
    · by_cases hc : byteAt s k = 38
      · have HS := done_sign hD.out hlt hc
        rw [takeOne_ref hlt hc] at HS
        have hc' : ((s[k].toNat : Int) != 38) = false := by rw [← byteAt_eq s k hlt, hc]; rfl
        have hsig := hide (fun w => signAt_any s k hs hlt hc w)
        have hzero := refT_zero (s.data.toList.drop (k + 1))
        clear hD hc
        generalize refT (s.data.toList.drop (k + 1)) = R at *
        obtain ⟨t, c, ok⟩ := R
        have htl : (⟨t.toArray⟩ : ByteArray).size = t.length := by simp [ByteArray.size]
        by_cases h0 : c = 0
        · subst h0
          have hok : ok = false := hzero rfl
          subst hok
          clear hzero
          simp only [if_true] at HS
          obtain ⟨HD0, hp1, hp2⟩ := HS
          have HD := hide HD0
          clear HD0 hp1
          cases rt
          all_goals
            go_wp2_with fail
            refine (hsig.out _).mono ?_
            unfold three
            rintro e w1 ⟨rfl, hk1⟩
            go_wp2_with fail
            go_roundw
            case rel => exact ⟨k + 1, o ++ [38], _, by omega, app_eq _ _ _ rfl, rfl, by go_num, hkp.trans hk1, HD⟩
            case measure => simp [intOf]; omega
        · rw [if_neg h0] at HS
          obtain ⟨HD0, hp1, hp2⟩ := HS
          have HD := hide HD0
          have h0' : ((c : Int) == 0) = false := by simp; omega
          have htn : t.length ≤ 20000 := by
            have := HD0.2
            simp only [List.length_append] at this hp2
            omega
          clear HD0 h0 hzero
          simp only at hp1 hp2
          cases rt
          all_goals
            go_wp2_with fail
            refine (hsig.out _).mono ?_
            unfold three
            rintro e w1 ⟨rfl, hk1⟩
            go_wp2_with fail
            go_roundw
            case rel => exact ⟨k + c, o ++ t, _, by omega, app_eq _ _ _ rfl, rfl, by go_num, hkp.trans hk1, HD⟩
            case measure => simp [intOf]; omega
      · have hD' := hide (done_other hD.out hlt hc)
        have hne : ((s[k].toNat : Int) != 38) = true := by
          rw [← byteAt_eq s k hlt]
          have := byte_bne (byteAt s k) 38
          rw [show ((38 : UInt8).toNat : Int) = 38 from rfl] at this
          rw [this]; simpa using hc
        clear hD hc
        go_wp2
        go_roundw
        case rel => exact ⟨k + 1, o ++ [s[k]], rt, by omega, app_eq _ _ _ (by rw [one_byte s k hlt]), rfl, by go_num, hkp, hD'⟩
        case measure => simp [intOf]; omega
    · have HE := hide (HT.out.symm.trans (done_end hD.out (by omega)))
      go_wp2
      go_ret2
      rw [HE.out]
      exact ⟨rfl, hkp⟩
end Go.Proofs.YtlcljanibjdejaaGreat
namespace Go.Proofs.YtlcljanibjdejaaGreat
open Go.RowKit Go.Maps
theorem byte_ne {c d : UInt8} {k : Int} (hd : (d.toNat : Int) = k) (h : c ≠ d) : ((c.toNat : Int) != k) = true := by
  have := byte_no hd h
  simp only [bne, this]
  rfl
set_option maxRecDepth 4000 in
set_option maxHeartbeats 16000000 in
theorem attrsAtR_any (s : ByteArray) (k0 : Nat) (w : World) (hs : s.size ≤ 3000) (hk0 : k0 ≤ s.size) :
    Calls Tryz.prog 111 #[.string s, .int .i64 k0] w fun e w' =>
      ((∃ l k' v, attrsAt s.data.toList (s.size + 1) k0 [] = some (l, k') ∧ e = .returned (.tuple #[v, .int .i64 (k' + 1 : Nat)]) ∧ w'.ownsRow w.heap.size 52 2 v l.length (pairCells l) ∧ l.length ≤ k' ∧ k' < s.size) ∨
       (attrsAt s.data.toList (s.size + 1) k0 [] = none ∧ e = .returned (.tuple #[.slice none 0 0, .int .i64 (-1)]))) ∧ Keeps [] w w' := by
  have hl := len_size s
  obtain ⟨R, hRR⟩ : ∃ R, attrsAt s.data.toList (s.size + 1) k0 [] = R := ⟨_, rfl⟩
  rw [hRR]
  have HR0 := hide hRR
  clear hRR
  obtain ⟨i0, hi, hz0, hz1, hz2⟩ := info_parts info88
  go_enter Tryz.func111, Tryz.ntmps111
  go_wp2_with fail
  go_loopg [1, 6] (s.size + 1) (fun g i v wr => ∃ (k : Nat) (acc : List Pair), k ≤ s.size ∧ s.size + 1 ≤ g + k ∧ i = .int .i64 k ∧ wr.ownsRow w.heap.size 52 2 v acc.length (pairCells acc) ∧ Keeps [] w wr ∧ acc.length ≤ k ∧ Hid (attrsAt s.data.toList g k acc = R))
  case atStart => exact ⟨k0, [], hk0, by omega, rfl, ⟨rfl, .inl ⟨rfl, rfl⟩⟩, Keeps.refl _ _, Nat.zero_le _, HR0⟩
  case round =>
    obtain ⟨k, acc, hk, hg, rfl, ho, hkp, hal, hF⟩ := hrel
    clear HR0
    obtain ⟨f, rfl⟩ : ∃ f, gk = f + 1 := ⟨gk - 1, by omega⟩
    obtain ⟨oo, oc, rfl⟩ := row_form' ho
    generalize wr = W at *
    have hk1a := runTo_ge skipB s k
    have hk1b := runTo_le skipB hk
    obtain ⟨k1, hk1⟩ : ∃ k1, runTo skipB s k = k1 := ⟨_, rfl⟩
    rw [hk1] at hk1a hk1b
    have HK1 := hide hk1
    clear hk1
    go_upto_block 2 with fail
    go_cut [1] (fun s1 wx => s1 = .int .i64 k1 ∧ W = wx)
    case first => as_aux_lemma =>
      go_wp2_with fail
      go_loopw [1] (fun i wq => ∃ j : Nat, j ≤ s.size ∧ i = .int .i64 j ∧ W = wq ∧ Hid (runTo skipB s j = k1)) (fun i _ => s.size - (intOf i).toNat)
      case atStart => exact ⟨k, hk, by go_num, rfl, HK1⟩
      case round =>
        obtain ⟨j, hj, rfl, rfl, hH⟩ := hrel
        by_cases hlt : j < s.size
        · have hw := hide (fun w => isWhite_any s[j] w)
          have hb256 : s[j].toNat < 256 := UInt8.toNat_lt s[j]
          cases hwb : whiteB s[j]
          · rw [hwb] at hw
            by_cases h47 : s[j] = 47
            · have e47 : ((s[j].toNat : Int) == 47) = true := by rw [h47]; rfl
              have hH2 : Hid (runTo skipB s (j + 1) = k1) := by rw [← hH.out]; exact (runTo_step hlt (by rw [h47]; rfl)).symm
              clear hH hwb h47
              go_wp2_with (go_at_call 109; refine (hw.out _).mono ?_; rintro e w9 ⟨rfl, rfl⟩)
              go_roundw
              case rel => exact ⟨j + 1, by omega, by go_num, by first | rfl | trivial, hH2⟩
              case measure => simp [intOf]; omega
            · have e47 : ((s[j].toNat : Int) == 47) = false := byte_no (d := 47) rfl h47
              have hjt : Hid (j = k1) := by rw [Hid, ← hH.out]; exact (runTo_stop hlt (by simp [skipB, hwb, h47])).symm
              clear hH hwb h47
              go_wp2_with (go_at_call 109; refine (hw.out _).mono ?_; rintro e w9 ⟨rfl, rfl⟩)
              go_meet
              case rel => exact ⟨by rw [hjt.out], by first | rfl | trivial⟩
          · rw [hwb] at hw
            have hH2 : Hid (runTo skipB s (j + 1) = k1) := by rw [← hH.out]; exact (runTo_step hlt (by simp [skipB, hwb])).symm
            clear hH hwb
            go_wp2_with (go_at_call 109; refine (hw.out _).mono ?_; rintro e w9 ⟨rfl, rfl⟩)
            go_roundw
            case rel => exact ⟨j + 1, by omega, by go_num, by first | rfl | trivial, hH2⟩
            case measure => simp [intOf]; omega
        · have hjt : Hid (j = k1) := by rw [Hid, ← hH.out]; exact (runTo_end (by omega)).symm
          clear hH
          go_wp2_with fail
          go_meet
          case rel => exact ⟨by rw [hjt.out], by first | rfl | trivial⟩
    case rest =>
      obtain ⟨rfl, hwc⟩ := hcut
      subst hwc
      by_cases hend : s.size ≤ k1
      · have hRn := round_end hF.out HK1.out hend
        have HRn := hide hRn
        have hbe : ((k1 : Int) == (s.size : Int)) = true := by simp; omega
        clear hF HK1 hRn
        go_wp2_with fail
        go_ret2
        exact ⟨.inr ⟨HRn.out, rfl⟩, hkp⟩
      · have hlt : k1 < s.size := by omega
        have hbe : ((k1 : Int) == (s.size : Int)) = false := by simp; omega
        by_cases hgt : s[k1] = 62
        · have e62 : ((s[k1].toNat : Int) == 62) = true := by rw [hgt]; rfl
          have hRs := round_gt hF.out HK1.out hlt hgt
          have HRs := hide hRs
          clear hF HK1 hgt hRs
          go_wp2_with fail
          go_ret2
          exact ⟨.inl ⟨acc, k1, _, HRs.out, rfl, ho, by omega, hlt⟩, hkp⟩
        · have e62 : ((s[k1].toNat : Int) == 62) = false := byte_no (d := 62) rfl hgt
          have HR := hide (round_attr hF.out HK1.out hlt hgt)
          have hkk : k ≤ k1 := hk1a
          clear hF HK1 hgt
          have hk2a := runTo_ge attrN s (k1 + 1)
          have hk2b := runTo_le attrN (s := s) (k := k1 + 1) (by omega)
          obtain ⟨k2, hk2⟩ : ∃ k2, runTo attrN s (k1 + 1) = k2 := ⟨_, rfl⟩
          rw [hk2] at hk2a hk2b
          have HK2 := hide hk2
          clear hk2
          go_upto_block 4 with fail
          go_cut [1] (fun s1 wx => s1 = .int .i64 k2 ∧ W = wx)
          case first => as_aux_lemma =>
            go_wp2_with fail
            go_loopw [1] (fun i wq => ∃ j : Nat, j ≤ s.size ∧ i = .int .i64 j ∧ W = wq ∧ Hid (runTo attrN s j = k2)) (fun i _ => s.size - (intOf i).toNat)
            case atStart => exact ⟨k1 + 1, by omega, by go_num, rfl, HK2⟩
            case round =>
              obtain ⟨j, hj, rfl, rfl, hH⟩ := hrel
              by_cases hlt : j < s.size
              · have hw := hide (fun w => isWhite_any s[j] w)
                have hb256 : s[j].toNat < 256 := UInt8.toNat_lt s[j]
                cases hwb : whiteB s[j]
                · rw [hwb] at hw
                  by_cases h47 : s[j] = 47
                  · have e47 : ((s[j].toNat : Int) != 47) = false := by rw [h47]; rfl
                    have hjt : Hid (j = k2) := by rw [Hid, ← hH.out]; exact (runTo_stop hlt (by rw [h47]; rfl)).symm
                    clear hH hwb h47
                    go_wp2_with (go_at_call 109; refine (hw.out _).mono ?_; rintro e w9 ⟨rfl, rfl⟩)
                    go_meet
                    case rel => exact ⟨by rw [hjt.out], by first | rfl | trivial⟩
                  · have e47 : ((s[j].toNat : Int) != 47) = true := byte_ne (d := 47) rfl h47
                    by_cases h62 : s[j] = 62
                    · have e62 : ((s[j].toNat : Int) != 62) = false := by rw [h62]; rfl
                      have hjt : Hid (j = k2) := by rw [Hid, ← hH.out]; exact (runTo_stop hlt (by rw [h62]; rfl)).symm
                      clear hH hwb h47 h62
                      go_wp2_with (go_at_call 109; refine (hw.out _).mono ?_; rintro e w9 ⟨rfl, rfl⟩)
                      go_meet
                      case rel => exact ⟨by rw [hjt.out], by first | rfl | trivial⟩
                    · have e62 : ((s[j].toNat : Int) != 62) = true := byte_ne (d := 62) rfl h62
                      by_cases h61 : s[j] = 61
                      · have e61 : ((s[j].toNat : Int) != 61) = false := by rw [h61]; rfl
                        have hjt : Hid (j = k2) := by rw [Hid, ← hH.out]; exact (runTo_stop hlt (by rw [h61]; rfl)).symm
                        clear hH hwb h47 h62 h61
                        go_wp2_with (go_at_call 109; refine (hw.out _).mono ?_; rintro e w9 ⟨rfl, rfl⟩)
                        go_meet
                        case rel => exact ⟨by rw [hjt.out], by first | rfl | trivial⟩
                      · have e61 : ((s[j].toNat : Int) != 61) = true := byte_ne (d := 61) rfl h61
                        have hH2 : Hid (runTo attrN s (j + 1) = k2) := by rw [← hH.out]; exact (runTo_step hlt (by simp [attrN, hwb, h47, h62, h61])).symm
                        clear hH hwb h47 h62 h61
                        go_wp2_with (go_at_call 109; refine (hw.out _).mono ?_; rintro e w9 ⟨rfl, rfl⟩)
                        go_roundw
                        case rel => exact ⟨j + 1, by omega, by go_num, by first | rfl | trivial, hH2⟩
                        case measure => simp [intOf]; omega
                · rw [hwb] at hw
                  have hjt : Hid (j = k2) := by rw [Hid, ← hH.out]; exact (runTo_stop hlt (by simp [attrN, hwb])).symm
                  clear hH hwb
                  go_wp2_with (go_at_call 109; refine (hw.out _).mono ?_; rintro e w9 ⟨rfl, rfl⟩)
                  go_meet
                  case rel => exact ⟨by rw [hjt.out], by first | rfl | trivial⟩
              · have hjt : Hid (j = k2) := by rw [Hid, ← hH.out]; exact (runTo_end (by omega)).symm
                clear hH
                go_wp2_with fail
                go_meet
                case rel => exact ⟨by rw [hjt.out], by first | rfl | trivial⟩
          case rest =>
            obtain ⟨rfl, hwc⟩ := hcut
            subst hwc
            have hfold := hide (fun w => fold_any (s.extract k1 k2) w (by simp; omega))
            obtain ⟨n, hn⟩ : ∃ n, lowerL (s.extract k1 k2).data.toList = n := ⟨_, rfl⟩
            rw [hn] at hfold
            have HN := hide hn
            have hnl : n.length ≤ 3000 := by rw [← hn]; simp [lowerL]; omega
            clear hn
            go_upto_block 6 with (go_at_call 110; refine (hfold.out _).mono ?_; rintro e w3 ⟨rfl, hk3⟩)
            have hA : IsPair (w3.alloc (.cells #[.string ⟨n.toArray⟩, .string ⟨#[]⟩] 52)) w3.heap.size ⟨n.toArray⟩ ⟨#[]⟩ := heap_alloc_new w3 _
            have hkA : Keeps [] w3 (w3.alloc (.cells #[.string ⟨n.toArray⟩, .string ⟨#[]⟩] 52)) := (Keeps.refl [] w3).alloc _
            have hk3a := runTo_ge whiteB s k2
            have hk3b := runTo_le whiteB hk2b
            obtain ⟨k3, hk3e⟩ : ∃ k3, runTo whiteB s k2 = k3 := ⟨_, rfl⟩
            rw [hk3e] at hk3a hk3b
            have HK3 := hide hk3e
            clear hk3e hfold
            go_cut [1] (fun s1 wx => s1 = .int .i64 k3 ∧ IsPair wx w3.heap.size ⟨n.toArray⟩ ⟨#[]⟩ ∧ Keeps [] w3 wx)
            case first => as_aux_lemma =>
              go_wp2_with fail
              go_loopw [1] (fun i wq => ∃ j : Nat, j ≤ s.size ∧ i = .int .i64 j ∧ IsPair wq w3.heap.size ⟨n.toArray⟩ ⟨#[]⟩ ∧ Keeps [] w3 wq ∧ Hid (runTo whiteB s j = k3)) (fun i _ => s.size - (intOf i).toNat)
              case atStart => exact ⟨k2, hk2b, by go_num, hA, hkA, HK3⟩
              case round =>
                obtain ⟨j, hj, rfl, hA2, hkq, hH⟩ := hrel
                by_cases hlt : j < s.size
                · have hw := hide (fun w => isWhite_any s[j] w)
                  have hb256 : s[j].toNat < 256 := UInt8.toNat_lt s[j]
                  cases hwb : whiteB s[j]
                  · rw [hwb] at hw
                    have hjt : Hid (j = k3) := by rw [Hid, ← hH.out]; exact (runTo_stop hlt (hwb)).symm
                    clear hH hwb
                    go_wp2_with (go_at_call 109; refine (hw.out _).mono ?_; rintro e w9 ⟨rfl, rfl⟩)
                    go_meet
                    case rel => exact ⟨by rw [hjt.out], hA2, hkq⟩
                  · rw [hwb] at hw
                    have hH2 : Hid (runTo whiteB s (j + 1) = k3) := by rw [← hH.out]; exact (runTo_step hlt (hwb)).symm
                    clear hH hwb
                    go_wp2_with (go_at_call 109; refine (hw.out _).mono ?_; rintro e w9 ⟨rfl, rfl⟩)
                    go_roundw
                    case rel => exact ⟨j + 1, by omega, by go_num, hA2, hkq, hH2⟩
                    case measure => simp [intOf]; omega
                · have hjt : Hid (j = k3) := by rw [Hid, ← hH.out]; exact (runTo_end (by omega)).symm
                  clear hH
                  go_wp2_with fail
                  go_meet
                  case rel => exact ⟨by rw [hjt.out], hA2, hkq⟩
            case rest =>
              obtain ⟨rfl, hA4, hk4⟩ := hcut
              generalize wc = W4 at *
              have ho4 := (hk3.trans hk4).owns ho (fun _ _ => List.not_mem_nil)
              have hkp4 : Keeps [] w W4 := hkp.trans (hk3.trans hk4)
              have hgw : w.heap.size ≤ w3.heap.size := (hkp.trans hk3).size
              have hne : Hid (∀ b, (Value.slice oo acc.length oc).ownBlock = some b → b < w3.heap.size) := fun b hb => Nat.lt_of_lt_of_le (ho.lt b hb).2 hk3.size
              clear hA hkA ho hk4
              generalize w3.heap.size = g at *
              obtain ⟨B, hB⟩ : ∃ B, decide (k3 < s.size ∧ byteAt s k3 = 61) = B := ⟨_, rfl⟩
              have HB := hide hB
              clear hB
              go_upto_region 15 with fail
              go_cut [103] (fun s103 wx => s103 = .bool B ∧ W4 = wx)
              case first => as_aux_lemma =>
                by_cases h3 : k3 < s.size
                · have hb256 : s[k3].toNat < 256 := UInt8.toNat_lt s[k3]
                  by_cases h61 : s[k3] = 61
                  · have e61 : ((s[k3].toNat : Int) == 61) = true := by rw [h61]; rfl
                    have hBt : Hid (B = true) := by rw [Hid, ← HB.out]; simp [h3, byteAt_get s k3 h3, h61]
                    clear h61
                    go_wp2_with fail
                    go_meet
                    case rel => exact ⟨by rw [hBt.out], rfl⟩
                  · have e61 : ((s[k3].toNat : Int) == 61) = false := byte_no (d := 61) rfl h61
                    have hBt : Hid (B = false) := by rw [Hid, ← HB.out]; simp [byteAt_get s k3 h3, h61]
                    clear h61
                    go_wp2_with fail
                    go_meet
                    case rel => exact ⟨by rw [hBt.out], rfl⟩
                · have hBt : Hid (B = false) := by rw [Hid, ← HB.out]; simp; omega
                  go_wp2_with fail
                  go_meet
                  case rel => exact ⟨by rw [hBt.out], rfl⟩
              case rest =>
                obtain ⟨rfl, hwc⟩ := hcut
                subst hwc
                go_upto_if 103 with fail
                go_cut [1] (fun s1 wx => ∃ (k' : Nat) (V : List UInt8), s1 = .int .i64 k' ∧ k3 ≤ k' ∧ k' ≤ s.size ∧ IsPair wx g ⟨n.toArray⟩ ⟨V.toArray⟩ ∧ Keeps [g] W4 wx ∧ Hid (attrsAt s.data.toList f k' (nextAcc acc (n, V)) = R))
                case first => as_aux_lemma =>
                  cases B
                  · have HX := hide (way_no hlt HK2.out HK3.out HR.out HN.out HB.out)
                    clear HB HR
                    go_wp2_with fail
                    go_meet
                    case rel => exact ⟨k3, [], rfl, Nat.le_refl _, hk3b, hA4, Keeps.refl _ _, HX⟩
                  · have hBo := HB.out
                    simp only [decide_eq_true_eq] at hBo
                    have h3 : k3 < s.size := hBo.1
                    have h61 : s[k3] = 61 := by rw [← byteAt_get s k3 h3]; exact hBo.2
                    have H61 := hide h61
                    clear hBo HB h61
                    have hk4a := runTo_ge whiteB s (k3 + 1)
                    have hk4b := runTo_le whiteB (s := s) (k := k3 + 1) (by omega)
                    obtain ⟨k4, hk4⟩ : ∃ k4, runTo whiteB s (k3 + 1) = k4 := ⟨_, rfl⟩
                    rw [hk4] at hk4a hk4b
                    have HK4 := hide hk4
                    clear hk4
                    go_upto_block 8 with fail
                    go_cut [1] (fun s1 wx => s1 = .int .i64 k4 ∧ W4 = wx)
                    case first => as_aux_lemma =>
                      go_wp2_with fail
                      go_loopw [1] (fun i wq => ∃ j : Nat, j ≤ s.size ∧ i = .int .i64 j ∧ W4 = wq ∧ Hid (runTo whiteB s j = k4)) (fun i _ => s.size - (intOf i).toNat)
                      case atStart => exact ⟨k3 + 1, by omega, by go_num, rfl, HK4⟩
                      case round =>
                        obtain ⟨j, hj, rfl, rfl, hH⟩ := hrel
                        by_cases hlt : j < s.size
                        · have hw := hide (fun w => isWhite_any s[j] w)
                          have hb256 : s[j].toNat < 256 := UInt8.toNat_lt s[j]
                          cases hwb : whiteB s[j]
                          · rw [hwb] at hw
                            have hjt : Hid (j = k4) := by rw [Hid, ← hH.out]; exact (runTo_stop hlt (hwb)).symm
                            clear hH hwb
                            go_wp2_with (go_at_call 109; refine (hw.out _).mono ?_; rintro e w9 ⟨rfl, rfl⟩)
                            go_meet
                            case rel => exact ⟨by rw [hjt.out], by first | rfl | trivial⟩
                          · rw [hwb] at hw
                            have hH2 : Hid (runTo whiteB s (j + 1) = k4) := by rw [← hH.out]; exact (runTo_step hlt (hwb)).symm
                            clear hH hwb
                            go_wp2_with (go_at_call 109; refine (hw.out _).mono ?_; rintro e w9 ⟨rfl, rfl⟩)
                            go_roundw
                            case rel => exact ⟨j + 1, by omega, by go_num, by first | rfl | trivial, hH2⟩
                            case measure => simp [intOf]; omega
                        · have hjt : Hid (j = k4) := by rw [Hid, ← hH.out]; exact (runTo_end (by omega)).symm
                          clear hH
                          go_wp2_with fail
                          go_meet
                          case rel => exact ⟨by rw [hjt.out], by first | rfl | trivial⟩
                    case rest =>
                      obtain ⟨rfl, hwc⟩ := hcut
                      subst hwc
                      by_cases h4 : k4 < s.size
                      · have hb256 : s[k4].toNat < 256 := UInt8.toNat_lt s[k4]
                        by_cases q34 : s[k4] = 34
                        · as_aux_lemma =>
                          have hq : s[k4] = 34 ∨ s[k4] = 39 := .inl q34
                          have hvq := val_quote h4 hq
                          have hnx := hide (fun w => nextOf_any s (s.extract k4 (k4 + 1)) (k4 + 1) w hs (by simp; omega) (by simp; omega) (by omega))
                          rw [one_byte s k4 h4] at hnx
                          obtain ⟨E, hE⟩ : ∃ E, nextIR s.data.toList [s[k4]] (k4 + 1) = E := ⟨_, rfl⟩
                          rw [hE] at hnx hvq
                          have e34 : ((s[k4].toNat : Int) == 34) = true := by rw [q34]; rfl
                          by_cases hneg : E < 0
                          · rw [if_pos hneg] at hvq
                            have HRn := hide (way_noneR hlt HK2.out HK3.out HR.out h3 H61.out HK4.out hvq)
                            have hnegb : decide (E < 0) = true := by simpa using hneg
                            clear hvq hq hE q34
                            go_wp2_with fail
                            refine (hnx.out _).mono ?_
                            rintro e w9 ⟨rfl, rfl⟩
                            go_wp2_with fail
                            go_ret2
                            exact ⟨.inr ⟨HRn.out, rfl⟩, hkp4⟩
                          · rw [if_neg hneg] at hvq
                            obtain ⟨m, hm, hm1, hm2⟩ := nextIR_nat (l := s.data.toList) (p := [s[k4]]) (k := k4 + 1) (by rw [hE]; omega) (by simp)
                            rw [hE] at hm
                            rw [len_size] at hm2
                            have hm2' : m + 1 ≤ s.size := by simpa using hm2
                            clear hm2 hE
                            subst hm
                            rw [Int.toNat_natCast] at hvq
                            have htk := hide (fun w => takeOf_any (s.extract (k4 + 1) m) w (by simp; omega))
                            obtain ⟨T, hT⟩ : ∃ T, takeL (s.extract (k4 + 1) m).data.toList = T := ⟨_, rfl⟩
                            rw [hT] at htk
                            obtain ⟨V, VB⟩ := T
                            have HX := hide (way_val (k' := m + 1) hlt HK2.out HK3.out HR.out HN.out h3 H61.out HK4.out hvq (show (takeL (s.extract (k4 + 1) m).data.toList).1 = V from by rw [hT]) (by omega))
                            clear hvq hq hT q34
                            go_wp2_with fail
                            refine (hnx.out _).mono ?_
                            rintro e w9 ⟨rfl, h9⟩
                            obtain rfl : W4 = w9 := h9.symm
                            go_wp2_with fail
                            refine (htk.out _).mono ?_
                            rintro e w5 ⟨rfl, hk5⟩
                            have hA5 := hA4.keeps hk5 List.not_mem_nil
                            have c1 := hA5.cell1
                            have f1 := hA5.free 1
                            have hA6 := hA5.set1 ⟨V.toArray⟩
                            have hk6 : Keeps [g] W4 (w5.setCell ⟨g, 1, none⟩ (.string ⟨V.toArray⟩)) := (hk5.to (by simp)).trans ((Keeps.refl [g] w5).setCell (.inl (by simp)) _)
                            go_wp2_with fail
                            go_meet
                            case rel => exact ⟨m + 1, V, by go_num, by omega, by omega, hA6, hk6, HX⟩
                        · by_cases q39 : s[k4] = 39
                          · as_aux_lemma =>
                            have hq : s[k4] = 34 ∨ s[k4] = 39 := .inr q39
                            have hvq := val_quote h4 hq
                            have hnx := hide (fun w => nextOf_any s (s.extract k4 (k4 + 1)) (k4 + 1) w hs (by simp; omega) (by simp; omega) (by omega))
                            rw [one_byte s k4 h4] at hnx
                            obtain ⟨E, hE⟩ : ∃ E, nextIR s.data.toList [s[k4]] (k4 + 1) = E := ⟨_, rfl⟩
                            rw [hE] at hnx hvq
                            have e34 : ((s[k4].toNat : Int) == 34) = false := byte_no (d := 34) rfl q34
                            have e39 : ((s[k4].toNat : Int) == 39) = true := by rw [q39]; rfl
                            by_cases hneg : E < 0
                            · rw [if_pos hneg] at hvq
                              have HRn := hide (way_noneR hlt HK2.out HK3.out HR.out h3 H61.out HK4.out hvq)
                              have hnegb : decide (E < 0) = true := by simpa using hneg
                              clear hvq hq hE q34 q39
                              go_wp2_with fail
                              refine (hnx.out _).mono ?_
                              rintro e w9 ⟨rfl, rfl⟩
                              go_wp2_with fail
                              go_ret2
                              exact ⟨.inr ⟨HRn.out, rfl⟩, hkp4⟩
                            · rw [if_neg hneg] at hvq
                              obtain ⟨m, hm, hm1, hm2⟩ := nextIR_nat (l := s.data.toList) (p := [s[k4]]) (k := k4 + 1) (by rw [hE]; omega) (by simp)
                              rw [hE] at hm
                              rw [len_size] at hm2
                              have hm2' : m + 1 ≤ s.size := by simpa using hm2
                              clear hm2 hE
                              subst hm
                              rw [Int.toNat_natCast] at hvq
                              have htk := hide (fun w => takeOf_any (s.extract (k4 + 1) m) w (by simp; omega))
                              obtain ⟨T, hT⟩ : ∃ T, takeL (s.extract (k4 + 1) m).data.toList = T := ⟨_, rfl⟩
                              rw [hT] at htk
                              obtain ⟨V, VB⟩ := T
                              have HX := hide (way_val (k' := m + 1) hlt HK2.out HK3.out HR.out HN.out h3 H61.out HK4.out hvq (show (takeL (s.extract (k4 + 1) m).data.toList).1 = V from by rw [hT]) (by omega))
                              clear hvq hq hT q34 q39
                              go_wp2_with fail
                              refine (hnx.out _).mono ?_
                              rintro e w9 ⟨rfl, h9⟩
                              obtain rfl : W4 = w9 := h9.symm
                              go_wp2_with fail
                              refine (htk.out _).mono ?_
                              rintro e w5 ⟨rfl, hk5⟩
                              have hA5 := hA4.keeps hk5 List.not_mem_nil
                              have c1 := hA5.cell1
                              have f1 := hA5.free 1
                              have hA6 := hA5.set1 ⟨V.toArray⟩
                              have hk6 : Keeps [g] W4 (w5.setCell ⟨g, 1, none⟩ (.string ⟨V.toArray⟩)) := (hk5.to (by simp)).trans ((Keeps.refl [g] w5).setCell (.inl (by simp)) _)
                              go_wp2_with fail
                              go_meet
                              case rel => exact ⟨m + 1, V, by go_num, by omega, by omega, hA6, hk6, HX⟩
                          · as_aux_lemma =>
                            have hk5a := runTo_ge valN s k4
                            have hk5b := runTo_le valN hk4b
                            obtain ⟨k5, hk5e⟩ : ∃ k5, runTo valN s k4 = k5 := ⟨_, rfl⟩
                            rw [hk5e] at hk5a hk5b
                            have HK5 := hide hk5e
                            have e34 : ((s[k4].toNat : Int) == 34) = false := byte_no (d := 34) rfl q34
                            have e39 : ((s[k4].toNat : Int) == 39) = false := byte_no (d := 39) rfl q39
                            have hvq := val_plain h4 q34 q39
                            rw [hk5e] at hvq
                            have htk := hide (fun w => takeOf_any (s.extract k4 k5) w (by simp; omega))
                            obtain ⟨T, hT⟩ : ∃ T, takeL (s.extract k4 k5).data.toList = T := ⟨_, rfl⟩
                            rw [hT] at htk
                            obtain ⟨V, VB⟩ := T
                            have HX := hide (way_val (k' := k5) hlt HK2.out HK3.out HR.out HN.out h3 H61.out HK4.out hvq (show (takeL (s.extract k4 k5).data.toList).1 = V from by rw [hT]) (by omega))
                            clear hvq hT hk5e q34 q39
                            go_upto_block 10 with fail
                            go_cut [1] (fun s1 wx => s1 = .int .i64 k5 ∧ W4 = wx)
                            case first => as_aux_lemma =>
                              go_wp2_with fail
                              go_loopw [1] (fun i wq => ∃ j : Nat, j ≤ s.size ∧ i = .int .i64 j ∧ W4 = wq ∧ Hid (runTo valN s j = k5)) (fun i _ => s.size - (intOf i).toNat)
                              case atStart => exact ⟨k4, hk4b, by go_num, rfl, HK5⟩
                              case round =>
                                obtain ⟨j, hj, rfl, rfl, hH⟩ := hrel
                                by_cases hlt : j < s.size
                                · have hw := hide (fun w => isWhite_any s[j] w)
                                  have hb256 : s[j].toNat < 256 := UInt8.toNat_lt s[j]
                                  cases hwb : whiteB s[j]
                                  · rw [hwb] at hw
                                    by_cases h62 : s[j] = 62
                                    · have e62 : ((s[j].toNat : Int) != 62) = false := by rw [h62]; rfl
                                      have hjt : Hid (j = k5) := by rw [Hid, ← hH.out]; exact (runTo_stop hlt (by rw [h62]; rfl)).symm
                                      clear hH hwb h62
                                      go_wp2_with (go_at_call 109; refine (hw.out _).mono ?_; rintro e w9 ⟨rfl, rfl⟩)
                                      go_meet
                                      case rel => exact ⟨by rw [hjt.out], by first | rfl | trivial⟩
                                    · have e62 : ((s[j].toNat : Int) != 62) = true := byte_ne (d := 62) rfl h62
                                      have hH2 : Hid (runTo valN s (j + 1) = k5) := by rw [← hH.out]; exact (runTo_step hlt (by simp [valN, hwb, h62])).symm
                                      clear hH hwb h62
                                      go_wp2_with (go_at_call 109; refine (hw.out _).mono ?_; rintro e w9 ⟨rfl, rfl⟩)
                                      go_roundw
                                      case rel => exact ⟨j + 1, by omega, by go_num, by first | rfl | trivial, hH2⟩
                                      case measure => simp [intOf]; omega
                                  · rw [hwb] at hw
                                    have hjt : Hid (j = k5) := by rw [Hid, ← hH.out]; exact (runTo_stop hlt (by simp [valN, hwb])).symm
                                    clear hH hwb
                                    go_wp2_with (go_at_call 109; refine (hw.out _).mono ?_; rintro e w9 ⟨rfl, rfl⟩)
                                    go_meet
                                    case rel => exact ⟨by rw [hjt.out], by first | rfl | trivial⟩
                                · have hjt : Hid (j = k5) := by rw [Hid, ← hH.out]; exact (runTo_end (by omega)).symm
                                  clear hH
                                  go_wp2_with fail
                                  go_meet
                                  case rel => exact ⟨by rw [hjt.out], by first | rfl | trivial⟩
                            case rest =>
                              obtain ⟨rfl, hwc⟩ := hcut
                              subst hwc
                              go_wp2_with fail
                              refine (htk.out _).mono ?_
                              rintro e w5 ⟨rfl, hk5⟩
                              have hA5 := hA4.keeps hk5 List.not_mem_nil
                              have c1 := hA5.cell1
                              have f1 := hA5.free 1
                              have hA6 := hA5.set1 ⟨V.toArray⟩
                              have hk6 : Keeps [g] W4 (w5.setCell ⟨g, 1, none⟩ (.string ⟨V.toArray⟩)) := (hk5.to (by simp)).trans ((Keeps.refl [g] w5).setCell (.inl (by simp)) _)
                              go_wp2_with fail
                              go_meet
                              case rel => exact ⟨k5, V, by go_num, by omega, by omega, hA6, hk6, HX⟩
                      · as_aux_lemma =>
                        have hk5a := runTo_ge valN s k4
                        have hk5b := runTo_le valN hk4b
                        obtain ⟨k5, hk5e⟩ : ∃ k5, runTo valN s k4 = k5 := ⟨_, rfl⟩
                        rw [hk5e] at hk5a hk5b
                        have HK5 := hide hk5e
                        have htk := hide (fun w => takeOf_any (s.extract k4 k5) w (by simp; omega))
                        obtain ⟨T, hT⟩ : ∃ T, takeL (s.extract k4 k5).data.toList = T := ⟨_, rfl⟩
                        rw [hT] at htk
                        obtain ⟨V, VB⟩ := T
                        have HX : Hid (attrsAt s.data.toList f k5 (nextAcc acc (n, V)) = R) := way_none hlt HK2.out HK3.out HR.out h3 H61.out HK4.out (val_none (by omega)) (by omega)
                        clear hT hk5e
                        go_upto_block 10 with fail
                        go_cut [1] (fun s1 wx => s1 = .int .i64 k5 ∧ W4 = wx)
                        case first => as_aux_lemma =>
                          go_wp2_with fail
                          go_loopw [1] (fun i wq => ∃ j : Nat, j ≤ s.size ∧ i = .int .i64 j ∧ W4 = wq ∧ Hid (runTo valN s j = k5)) (fun i _ => s.size - (intOf i).toNat)
                          case atStart => exact ⟨k4, hk4b, by go_num, rfl, HK5⟩
                          case round =>
                            obtain ⟨j, hj, rfl, rfl, hH⟩ := hrel
                            by_cases hlt : j < s.size
                            · have hw := hide (fun w => isWhite_any s[j] w)
                              have hb256 : s[j].toNat < 256 := UInt8.toNat_lt s[j]
                              cases hwb : whiteB s[j]
                              · rw [hwb] at hw
                                by_cases h62 : s[j] = 62
                                · have e62 : ((s[j].toNat : Int) != 62) = false := by rw [h62]; rfl
                                  have hjt : Hid (j = k5) := by rw [Hid, ← hH.out]; exact (runTo_stop hlt (by rw [h62]; rfl)).symm
                                  clear hH hwb h62
                                  go_wp2_with (go_at_call 109; refine (hw.out _).mono ?_; rintro e w9 ⟨rfl, rfl⟩)
                                  go_meet
                                  case rel => exact ⟨by rw [hjt.out], by first | rfl | trivial⟩
                                · have e62 : ((s[j].toNat : Int) != 62) = true := byte_ne (d := 62) rfl h62
                                  have hH2 : Hid (runTo valN s (j + 1) = k5) := by rw [← hH.out]; exact (runTo_step hlt (by simp [valN, hwb, h62])).symm
                                  clear hH hwb h62
                                  go_wp2_with (go_at_call 109; refine (hw.out _).mono ?_; rintro e w9 ⟨rfl, rfl⟩)
                                  go_roundw
                                  case rel => exact ⟨j + 1, by omega, by go_num, by first | rfl | trivial, hH2⟩
                                  case measure => simp [intOf]; omega
                              · rw [hwb] at hw
                                have hjt : Hid (j = k5) := by rw [Hid, ← hH.out]; exact (runTo_stop hlt (by simp [valN, hwb])).symm
                                clear hH hwb
                                go_wp2_with (go_at_call 109; refine (hw.out _).mono ?_; rintro e w9 ⟨rfl, rfl⟩)
                                go_meet
                                case rel => exact ⟨by rw [hjt.out], by first | rfl | trivial⟩
                            · have hjt : Hid (j = k5) := by rw [Hid, ← hH.out]; exact (runTo_end (by omega)).symm
                              clear hH
                              go_wp2_with fail
                              go_meet
                              case rel => exact ⟨by rw [hjt.out], by first | rfl | trivial⟩
                        case rest =>
                          obtain ⟨rfl, hwc⟩ := hcut
                          subst hwc
                          go_wp2_with fail
                          refine (htk.out _).mono ?_
                          rintro e w5 ⟨rfl, hk5⟩
                          have hA5 := hA4.keeps hk5 List.not_mem_nil
                          have c1 := hA5.cell1
                          have f1 := hA5.free 1
                          have hA6 := hA5.set1 ⟨V.toArray⟩
                          have hk6 : Keeps [g] W4 (w5.setCell ⟨g, 1, none⟩ (.string ⟨V.toArray⟩)) := (hk5.to (by simp)).trans ((Keeps.refl [g] w5).setCell (.inl (by simp)) _)
                          go_wp2_with fail
                          go_meet
                          case rel => exact ⟨k5, V, by go_num, by omega, by omega, hA6, hk6, HX⟩
                case rest =>
                  obtain ⟨k', V, rfl, hka, hkb, hA5, hk5, HX⟩ := hcut
                  generalize wc = W5 at *
                  have ho5 : W5.ownsRow w.heap.size 52 2 (Value.slice oo acc.length oc) acc.length (pairCells acc) := hk5.owns ho4 (fun b hb => by have := hne.out b hb; simp; omega)
                  have hkp5 : Keeps [] w W5 := ((hkp4.to (by simp)).trans hk5).mono fun i hi hlt => by simp at hi; omega
                  have hnm := hide (fun w => isNameR_any ⟨n.toArray⟩ w (by rw [str_size]; unfold maxLen; omega))
                  rw [str_list] at hnm
                  clear ho4 hkp4 hk5 hA4 hkp HR HN HB HK2 HK3 hk3
                  go_wp2_with fail
                  go_loopw [11, 12] (fun t i wq => ∃ j : Nat, j ≤ acc.length ∧ i = .int .i64 j ∧ t = .bool (decide (n ∈ (acc.take j).map (·.1))) ∧ Hid (∃ m, wq = W5.drewN m)) (fun _ i _ => acc.length - (intOf i).toNat)
                  case atStart => exact ⟨0, Nat.zero_le _, rfl, by simp, ⟨0, rfl⟩⟩
                  case round => as_aux_lemma =>
                    obtain ⟨j, hj, rfl, rfl, hW⟩ := hrel
                    have hkq : Keeps [] W5 wr := by obtain ⟨m, hm⟩ := hW.out; rw [hm]; exact (Keeps.refl _ _).drewN _
                    have hA6 := hA5.keeps hkq List.not_mem_nil
                    have c0 := hA6.cell0
                    by_cases hja : j < acc.length
                    · obtain ⟨gg, x, rfl, hca⟩ := ((Lies.of_row ho5).keeps hkq).addr (by omega)
                      have q0 := hca _ _ (pair_at0 acc j hja)
                      have hts : (acc.take (j + 1)).map (·.1) = (acc.take j).map (·.1) ++ [acc[j].1] := by rw [List.take_succ_eq_append_getElem hja, List.map_append]; rfl
                      have HTS := hide hts
                      clear hts hca HX hnm
                      cases hd : decide (n ∈ (acc.take j).map (·.1))
                      · by_cases he : acc[j].1 = n
                        · have hse : ((⟨acc[j].1.toArray⟩ : ByteArray).toList == (⟨n.toArray⟩ : ByteArray).toList) = true := by rw [strEq]; simpa using he
                          have heb : (acc[j].1 == n) = true := by simpa using he
                          have HD : Hid (decide (n ∈ (acc.take (j + 1)).map (·.1)) = true) := by rw [Hid, HTS.out]; simp [he]
                          clear he hd
                          go_wp2_with fail
                          go_quiet (fail)
                          go_wp2_with fail
                          go_roundw
                          case rel => exact ⟨j + 1, by omega, by go_num, by rw [HD.out], by obtain ⟨m, hm⟩ := hW.out; exact ⟨m + nq, by rw [hm]; simp⟩⟩
                          case measure => simp [intOf]; omega
                        · have hse : ((⟨acc[j].1.toArray⟩ : ByteArray).toList == (⟨n.toArray⟩ : ByteArray).toList) = false := by rw [strEq]; simpa using he
                          have heb : (acc[j].1 == n) = false := by simpa using he
                          have hed : decide (acc[j].1 = n) = false := by simpa using he
                          have HD : Hid (decide (n ∈ (acc.take (j + 1)).map (·.1)) = false) := by
                            rw [Hid, HTS.out]
                            have hd' := of_decide_eq_false hd
                            simp only [decide_eq_false_iff_not, List.mem_append, List.mem_singleton, not_or]
                            exact ⟨hd', fun h => he h.symm⟩
                          clear he hd
                          go_wp2_with fail
                          go_quiet (fail)
                          go_wp2_with fail
                          go_roundw
                          case rel => exact ⟨j + 1, by omega, by go_num, by rw [HD.out], by obtain ⟨m, hm⟩ := hW.out; exact ⟨m + nq, by rw [hm]; simp⟩⟩
                          case measure => simp [intOf]; omega
                      · have HD : Hid (decide (n ∈ (acc.take (j + 1)).map (·.1)) = true) := by
                          rw [Hid, HTS.out]
                          have hd' := of_decide_eq_true hd
                          simp only [decide_eq_true_eq, List.mem_append]
                          exact .inl hd'
                        clear hd
                        go_wp2_with fail
                        go_quiet (fail)
                        go_wp2_with fail
                        go_roundw
                        case rel => exact ⟨j + 1, by omega, by go_num, by rw [HD.out], by obtain ⟨m, hm⟩ := hW.out; exact ⟨m + nq, by rw [hm]; simp⟩⟩
                        case measure => simp [intOf]; omega
                    · have hall : acc.take j = acc := List.take_of_length_le (by omega)
                      rw [hall]
                      clear hall
                      have ho6 := hkq.owns ho5 (fun _ _ => List.not_mem_nil)
                      have hkp6 := hkp5.trans hkq
                      have HX2 := HX.out
                      cases hin : isNameL n
                      · rw [hin] at hnm
                        have HX3 : Hid (attrsAt s.data.toList f k' acc = R) := by
                          rw [Hid, ← HX2]
                          simp [nextAcc, hin]
                        clear HX HX2 hin
                        go_wp2_with fail
                        refine (hnm.out _).mono ?_
                        rintro e w6 ⟨rfl, rfl⟩
                        go_wp2_with fail
                        go_roundg f
                        case measure => omega
                        case rel => exact ⟨k', acc, hkb, by omega, rfl, ho6, hkp6, by omega, HX3⟩
                      · rw [hin] at hnm
                        cases hd : decide (n ∈ acc.map (·.1))
                        · have HX3 : Hid (attrsAt s.data.toList f k' (acc ++ [(n, V)]) = R) := by
                            rw [Hid, ← HX2]
                            have hd' := of_decide_eq_false hd
                            have hc : ¬ (n ∈ acc.map (·.1) ∨ isNameL n = false) := by rw [hin]; simpa using hd'
                            unfold nextAcc
                            rw [if_neg hc]
                          have b0 := hA6.cell0
                          have b1 := hA6.cell1
                          clear HX HX2 hin hd
                          have q := heap_alloc_new wr (.cells #[.string ⟨n.toArray⟩, .string ⟨V.toArray⟩] 52)
                          go_wp2_with fail
                          refine (hnm.out _).mono ?_
                          rintro e w6 ⟨rfl, rfl⟩
                          go_wp2_with (at_builtin; refine wpList_append_own _ rfl _ _ 43 rfl w.heap.size 52 i0 _ 2 32 Tryz.underlying43 hi hz0 hz1 hz2 (cells2 _ _) (by decide) _ _ _ rfl (ho6.alloc _) ⟨w6.heap.size, 0, none⟩ 1 1 [.string ⟨n.toArray⟩, .string ⟨V.toArray⟩] rfl rfl ?c1 ?c2 ?c3 ?c4 ?c5 ?_)
                          case c1 =>
                            intro j u hj
                            rw [add_zero]
                            have qq : IsPair (w6.alloc (.cells #[.string ⟨n.toArray⟩, .string ⟨V.toArray⟩] 52)) w6.heap.size ⟨n.toArray⟩ ⟨V.toArray⟩ := q
                            match j, hj with
                            | 0, hj => simp at hj; subst hj; exact qq.cell0
                            | 1, hj => simp at hj; subst hj; exact qq.cell1
                          case c2 => intro u hu; simp at hu; rcases hu with rfl | rfl <;> rfl
                          case c3 => unfold maxLen; omega
                          case c4 => omega
                          case c5 => have := hkp6.size; simp; omega
                          intro v7 w7 ho7 hg7 _
                          have hk7 : Keeps (Value.slice oo acc.length oc).ownBlock.toList w6 w7 := ((Keeps.refl _ w6).alloc _).grown hg7 fun i e => .inl (by simp [e])
                          have hro : ∀ g, g ∈ (Value.slice oo acc.length oc).ownBlock.toList → w.heap.size ≤ g := fun g hg => (ho6.lt g (by simpa using hg)).1
                          have hkp7 : Keeps [] w w7 := ((hkp6.to (by simp)).trans hk7).mono fun i hi hlt => by have := hro _ hi; omega
                          have ho7' : w7.ownsRow w.heap.size 52 2 v7 (acc ++ [(n, V)]).length (pairCells (acc ++ [(n, V)])) := by
                            rw [pairCells_add, List.length_append]; exact ho7
                          go_wp2_with fail
                          go_roundg f
                          case measure => omega
                          case rel => exact ⟨k', acc ++ [(n, V)], hkb, by omega, rfl, ho7', hkp7, by rw [List.length_append]; simp; omega, HX3⟩
                        · have HX3 : Hid (attrsAt s.data.toList f k' acc = R) := by
                            rw [Hid, ← HX2]
                            have hd' := of_decide_eq_true hd
                            unfold nextAcc
                            rw [if_pos (.inl hd')]
                          clear HX HX2 hin hd
                          go_wp2_with fail
                          refine (hnm.out _).mono ?_
                          rintro e w6 ⟨rfl, rfl⟩
                          go_wp2_with fail
                          go_roundg f
                          case measure => omega
                          case rel => exact ⟨k', acc, hkb, by omega, rfl, ho6, hkp6, by omega, HX3⟩
theorem encodeR_ne (n : Nat) : Lib.encodeRune n ≠ [] := by
  unfold Lib.encodeRune Lib.encodeRuneZ
  rw [Ne, List.map_eq_nil_iff]
  repeat' split
  all_goals simp
theorem takeOneR_ne (l : List UInt8) (h : l ≠ []) : (takeOne l).1 ≠ [] := by
  unfold takeOne
  split
  · split
    · exact encodeR_ne _
    · exact encodeR_ne _
  · cases l with
    | nil => exact absurd rfl h
    | cons a l => simp
theorem takeR_ne {l : List UInt8} (h : l ≠ []) : (takeL l).1 ≠ [] := by
  cases l with
  | nil => exact absurd rfl h
  | cons c l =>
    by_cases hc : c = 38
    · rw [takeL_and c l hc]
      intro e
      exact takeOneR_ne (c :: l) (by simp) (List.append_eq_nil_iff.1 e).1
    · rw [takeL_other c l hc]
      simp
theorem readAt_fuel (l : List UInt8) : ∀ (f f' k : Nat) (raw : List UInt8) (out : List Tok), l.length + 1 ≤ f + k → l.length + 1 ≤ f' + k → readAt l f k raw out = readAt l f' k raw out
  | 0, 0, _, _, _, _, _ => rfl
  | 0, f' + 1, k, raw, out, h, _ => by rw [readAt_end (by omega)]; rfl
  | f + 1, 0, k, raw, out, _, h => by rw [readAt_end (by omega)]; rfl
  | f + 1, f' + 1, k, raw, out, h, h' => by
    by_cases hk : l.length ≤ k
    · rw [readAt_end hk, readAt_end hk]
    · cases hp : pieceL l k raw out with
      | none =>
        rw [readAt_none (by omega) hp, readAt_none (by omega) hp]
        exact readAt_fuel l f f' _ _ _ (by omega) (by omega)
      | some t =>
        obtain ⟨k', raw', out'⟩ := t
        have hb := (pieceL_bound hp (by omega)).1
        rw [readAt_some (by omega) hp, readAt_some (by omega) hp]
        exact readAt_fuel l f f' _ _ _ (by omega) (by omega)
def Rds (l : List UInt8) (k : Nat) (raw : List UInt8) (out : List Tok) (R : List Tok) : Prop := ∀ f, l.length + 1 ≤ f + k → readAt l f k raw out = R
theorem Rds.start (l : List UInt8) : Rds l 0 [] [] (readL l) := fun f hf => readAt_fuel l f (l.length + 1) 0 [] [] hf (by omega)
theorem Rds.done {l : List UInt8} {k : Nat} {raw : List UInt8} {out R : List Tok} (h : Rds l k raw out R) (hk : l.length ≤ k) : out ++ endT raw = R := by
  have := h (l.length + 1) (by omega)
  rwa [readAt_end hk] at this
theorem Rds.piece {l : List UInt8} {k : Nat} {raw : List UInt8} {out R : List Tok} (h : Rds l k raw out R) (hk : k < l.length) {k' : Nat} {raw' : List UInt8} {out' : List Tok} (hp : pieceL l k raw out = some (k', raw', out')) : Rds l k' raw' out' R := fun f hf => by
  have hb := (pieceL_bound hp hk).1
  have := h (l.length + 1) (by omega)
  rw [readAt_some hk hp] at this
  rw [← this]
  exact readAt_fuel l _ _ _ _ _ hf (by omega)
theorem Rds.none {l : List UInt8} {k : Nat} {raw : List UInt8} {out R : List Tok} (h : Rds l k raw out R) (hk : k < l.length) (hp : pieceL l k raw out = none) : Rds l l.length (raw ++ l.drop k) out R := fun f hf => by
  have := h (l.length + 1) (by omega)
  rw [readAt_none hk hp] at this
  rw [← this]
  exact readAt_fuel l _ _ _ _ _ hf (by omega)
theorem stL_no {l : List UInt8} {k : Nat} (hk : k < l.length) (h : l[k] ≠ 60) (p : List UInt8) : stL l k (60 :: p) = false := by
  unfold stL
  rw [List.drop_eq_getElem_cons hk]
  simp only [List.isPrefixOf, Bool.and_eq_false_iff]
  left
  simpa using fun e => h e.symm
theorem piece_plainR {l : List UInt8} {k : Nat} (hk : k < l.length) (h : l[k] ≠ 60) (raw : List UInt8) (out : List Tok) : pieceL l k raw out = textL l k raw out := by
  unfold pieceL tagL
  simp [stL_no hk h]
theorem Rds.byte {l : List UInt8} {k : Nat} {raw : List UInt8} {out R : List Tok} (h : Rds l k raw out R) (hk : k < l.length) (hp : pieceL l k raw out = textL l k raw out) : Rds l (k + 1) (raw ++ [l[k]]) out R := by
  have e0 : l.getD k 0 = l[k] := by simp [List.getD, List.getElem?_eq_getElem hk]
  have h1 := h.piece hk (hp.trans (by unfold textL; rw [e0]))
  by_cases hk2 : k + 1 < l.length
  · by_cases hc : l[k + 1] = 60
    · have e : (l.drop (k + 1)).takeWhile noLt = [] := by
        rw [List.drop_eq_getElem_cons hk2, List.takeWhile_cons, if_neg (by simp [noLt, hc])]
      rw [e] at h1
      simpa using h1
    · have e : (l.drop (k + 1)).takeWhile noLt = l[k + 1] :: (l.drop (k + 1 + 1)).takeWhile noLt := by
        rw [List.drop_eq_getElem_cons hk2, List.takeWhile_cons, if_pos (by simpa [noLt] using hc)]
      intro f hf
      have e1 : l.getD (k + 1) 0 = l[k + 1] := by simp [List.getD, List.getElem?_eq_getElem hk2]
      have hp2 : pieceL l (k + 1) (raw ++ [l[k]]) out = some (k + 1 + 1 + ((l.drop (k + 1 + 1)).takeWhile noLt).length, (raw ++ [l[k]]) ++ [l[k + 1]] ++ (l.drop (k + 1 + 1)).takeWhile noLt, out) := by
        rw [piece_plainR hk2 hc]; unfold textL; rw [e1]
      obtain ⟨f', rfl⟩ : ∃ f', f = f' + 1 := ⟨f - 1, by omega⟩
      rw [readAt_some hk2 hp2]
      have h2 := h1 f' (by rw [e, List.length_cons]; omega)
      rw [e] at h2
      rw [← h2]
      simp only [List.length_cons, List.append_assoc, List.cons_append, List.nil_append]
      congr 1
      omega
  · have e : (l.drop (k + 1)).takeWhile noLt = [] := by rw [List.drop_eq_nil_of_le (by omega)]; rfl
    rw [e] at h1
    simpa using h1
theorem endOf_next (p l : List UInt8) (k : Nat) : endOf p (l.drop k) = if nextIR l p k < 0 then none else some ((nextIR l p k).toNat - k + p.length) := by
  unfold endOf nextIR
  have := Lib.index_ge (l.drop k) p
  by_cases h : Lib.index (l.drop k) p < 0
  · rw [if_pos h, if_pos h]
    simp
  · rw [if_neg h, if_neg h, if_neg (by omega)]
    congr 2
    omega
theorem nextIR_neg {l p : List UInt8} {k : Nat} (h : nextIR l p k < 0) : nextIR l p k = -1 := by
  unfold nextIR at *
  split at h
  · rename_i hn; rw [if_pos hn]
  · omega
structure Rf (w : World) (B bt bo : Nat) (outv : Value) (raw : List UInt8) (l : List (Tok × Value)) : Prop where
  tx : w.heap[bt]? = some (.cells #[.string ⟨raw.toArray⟩] 9 (0, 0))
  ob : w.heap[bo]? = some (.cells #[outv] 26 (0, 0))
  out : w.ownsRow B 117 4 outv l.length (outCells l)
  attrs : ∀ p ∈ l, HasAttrs w B p
  hbt : bt < B
  hbo : bo < B
  ne : bt ≠ bo
theorem Rf.keeps {w w' : World} {B bt bo : Nat} {outv : Value} {raw : List UInt8} {l : List (Tok × Value)} {S : List Nat} (h : Rf w B bt bo outv raw l) (hk : Keeps S w w') (h1 : bt ∉ S) (h2 : bo ∉ S) (hout : ∀ g, outv.ownBlock = some g → g ∉ S) (hat : ∀ p ∈ l, ∀ g, p.2.ownBlock = some g → g ∉ S) : Rf w' B bt bo outv raw l :=
  ⟨by rw [hk.block bt (lt_of_block h.tx) h1]; exact h.tx, by rw [hk.block bo (lt_of_block h.ob) h2]; exact h.ob, hk.owns h.out hout, fun p hp => hk.owns (h.attrs p hp) (hat p hp), h.hbt, h.hbo, h.ne⟩
theorem Rf.keepsNil {w w' : World} {B bt bo : Nat} {outv : Value} {raw : List UInt8} {l : List (Tok × Value)} (h : Rf w B bt bo outv raw l) (hk : Keeps [] w w') : Rf w' B bt bo outv raw l :=
  h.keeps hk List.not_mem_nil List.not_mem_nil (fun _ _ => List.not_mem_nil) (fun _ _ _ _ => List.not_mem_nil)
theorem Rf.keepsNew {w0 w w' : World} {B bt bo : Nat} {outv : Value} {raw : List UInt8} {l : List (Tok × Value)} (h0 : Rf w0 B bt bo outv raw l) (h : Rf w B bt bo outv raw l) {g : Nat} (hg : w0.heap.size ≤ g) (hk : Keeps [g] w w') : Rf w' B bt bo outv raw l := by
  refine h.keeps hk ?_ ?_ (fun b hb => ?_) (fun p hp b hb => ?_)
  · have := lt_of_block h0.tx; simp; omega
  · have := lt_of_block h0.ob; simp; omega
  · have := (h0.out.lt b hb).2; simp; omega
  · have := ((h0.attrs p hp).lt b hb).2; simp; omega
theorem one_cell {w : World} {b : Nat} {v : Value} {t : TypeId} (h : w.heap[b]? = some (.cells #[v] t (0, 0))) : w.cell? ⟨b, 0, none⟩ = some v := by
  simp [World.cell?]; simp [h]
theorem one_free {w : World} {b : Nat} {v : Value} {t : TypeId} (h : w.heap[b]? = some (.cells #[v] t (0, 0))) : w.frozen? ⟨b, 0, none⟩ = false := by
  simp [World.frozen?]; simp [h]
theorem one_set {w : World} {b : Nat} {v : Value} {t : TypeId} (h : w.heap[b]? = some (.cells #[v] t (0, 0))) (u : Value) : (w.setCell ⟨b, 0, none⟩ u).heap[b]? = some (.cells #[u] t (0, 0)) := by
  simp [World.setCell, Array.getElem?_modify]; simp [h]
theorem Rf.set {w : World} {B bt bo : Nat} {outv : Value} {raw : List UInt8} {l : List (Tok × Value)} (h : Rf w B bt bo outv raw l) (x : List UInt8) : Rf (w.setCell ⟨bt, 0, none⟩ (.string ⟨x.toArray⟩)) B bt bo outv x l := by
  have hk : Keeps [bt] w (w.setCell ⟨bt, 0, none⟩ (.string ⟨x.toArray⟩)) := (Keeps.refl [bt] w).setCell (.inl (by simp)) _
  refine ⟨one_set h.tx _, by rw [hk.block bo (lt_of_block h.ob) (by simpa using h.ne.symm)]; exact h.ob, hk.owns h.out (fun g hg hm => ?_), fun p hp => hk.owns (h.attrs p hp) (fun g hg hm => ?_), h.hbt, h.hbo, h.ne⟩
  · have := (h.out.lt g hg).1; have := h.hbt; simp at hm; omega
  · have := ((h.attrs p hp).lt g hg).1; have := h.hbt; simp at hm; omega
theorem Rf.grow {w w3 : World} {B bt bo : Nat} {outv : Value} {raw : List UInt8} {l : List (Tok × Value)} (h : Rf w B bt bo outv raw l) (hk : Keeps outv.ownBlock.toList w w3) {v3 : Value} {p : Tok × Value} (ho : w3.ownsRow B 117 4 v3 (l.length + 1) (outCells l ++ tokCells p)) (hp : HasAttrs w3 B p) :
    Rf (w3.setCell ⟨bo, 0, none⟩ v3) B bt bo v3 raw (l ++ [p]) := by
  have hbt := h.hbt
  have hbo := h.hbo
  have hne := h.ne
  have t3 : w3.heap[bt]? = some (.cells #[.string ⟨raw.toArray⟩] 9 (0, 0)) := by
    rw [hk.block bt (lt_of_block h.tx) (fun hm => by have := (h.out.lt bt (by simpa using hm)).1; omega)]; exact h.tx
  have o3 : w3.heap[bo]? = some (.cells #[outv] 26 (0, 0)) := by
    rw [hk.block bo (lt_of_block h.ob) (fun hm => by have := (h.out.lt bo (by simpa using hm)).1; omega)]; exact h.ob
  have hat3 : ∀ q ∈ l, HasAttrs w3 B q := fun q hq => hk.owns (h.attrs q hq) (fun g hg hm => rows_apart (h.attrs q hq) h.out (by decide) hg (by simpa using hm))
  have hk3 : Keeps [bo] w3 (w3.setCell ⟨bo, 0, none⟩ v3) := (Keeps.refl [bo] w3).setCell (.inl (by simp)) _
  have far : ∀ {e z n xs v}, w3.ownsRow B e z v n xs → ∀ g, v.ownBlock = some g → g ∉ [bo] := fun hv g hg hm => by have := (hv.lt g hg).1; simp at hm; omega
  refine ⟨by rw [hk3.block bt (lt_of_block t3) (by simpa using hne)]; exact t3, one_set o3 _, ?_, ?_, hbt, hbo, hne⟩
  · rw [outCells_add, List.length_append]
    exact hk3.owns ho (far ho)
  · intro q hq
    rcases List.mem_append.1 hq with hq | hq
    · exact hk3.owns (hat3 q hq) (far (hat3 q hq))
    · simp at hq
      subst hq
      exact hk3.owns hp (far hp)
theorem Rf.toks {w : World} {B bt bo : Nat} {outv : Value} {raw : List UInt8} {l : List (Tok × Value)} (h : Rf w B bt bo outv raw l) : IsToks w B outv (l.map (·.1)) := ⟨l, rfl, h.out, h.attrs⟩
theorem enters105 : Enters 105 := enters_of Tryz.func105 (by kernel_rfl) (by kernel_rfl)
set_option maxRecDepth 4000 in
set_option maxHeartbeats 4000000 in
theorem flush_any (w : World) (B bt bo : Nat) (outv : Value) (raw : List UInt8) (l : List (Tok × Value)) (h : Rf w B bt bo outv raw l) (hB : B ≤ w.heap.size) (hraw : raw.length ≤ 3000) (hl : l.length ≤ 100000) :
    Calls Tryz.prog 105 #[.pointer (some ⟨bt, 0, none⟩), .pointer (some ⟨bo, 0, none⟩)] w fun e w' =>
      e = .returned (.tuple #[]) ∧ ∃ outv', Rf w' B bt bo outv' [] (l ++ endToks raw) ∧ Keeps (bt :: bo :: outv.ownBlock.toList) w w' := by
  have htk := hide (fun w => takeOf_any ⟨raw.toArray⟩ w (by rw [str_size]; exact hraw))
  rw [str_list] at htk
  have c0 := one_cell h.tx
  obtain ⟨i0, hi, hz0, hz1, hz2⟩ := info_parts info43
  by_cases hne : raw = []
  · subst hne
    have e0 : endToks [] = [] := rfl
    rw [e0, List.append_nil]
    rw [show takeL [] = ([], true) from by kernel_rfl] at htk
    go_enter Tryz.func105, Tryz.ntmps105
    go_wp2_with fail
    refine (htk.out _).mono ?_
    rintro e w1 ⟨rfl, hk1⟩
    have h1 := h.keepsNil hk1
    have d0 := one_cell h1.tx
    have f0 := one_free h1.tx
    clear c0
    go_wp2_with fail
    go_end0
    exact ⟨rfl, _, h1.set [], (hk1.to (by simp)).setCell (.inl (by simp)) _⟩
  · have hT := takeR_ne hne
    have e0 : endToks raw = [(textTok (takeL raw).1, .slice none 0 0)] := by unfold endToks; rw [if_neg hne]
    rw [e0]
    obtain ⟨T, TB, hTT⟩ : ∃ T TB, takeL raw = (T, TB) := ⟨_, _, rfl⟩
    rw [hTT] at hT htk ⊢
    simp only at hT htk ⊢
    have hTe : T.isEmpty = false := by simpa using hT
    clear hTT hT hne e0
    obtain ⟨o, c, rfl⟩ := row_form h.out
    go_enter Tryz.func105, Tryz.ntmps105
    go_wp2_with fail
    refine (htk.out _).mono ?_
    rintro e w1 ⟨rfl, hk1⟩
    have h1 := h.keepsNil hk1
    have d1 := one_cell h1.ob
    have d1a : ∀ o, (w1.alloc o).cell? ⟨bo, 0, none⟩ = some (.slice _ l.length c) := fun o => (cell_past (a := ⟨bo, 0, none⟩) (lt_of_block h1.ob) o).trans d1
    have hB1 := Nat.le_trans hB hk1.size
    clear c0
    go_wp2_with (at_builtin; refine wpList_append_own _ rfl _ _ 26 rfl B 117 i0 _ 4 64 Tryz.underlying26 hi hz0 hz1 hz2 (by kernel_rfl) (by decide) _ _ _ rfl (h1.out.alloc _) ⟨w1.heap.size, 0, none⟩ 1 1 (tokCells (textTok T, .slice none 0 0)) rfl rfl ?c1 ?c2 ?c3 ?c4 ?c5 ?_)
    case c1 => exact lit_cells w1 _ 117
    case c2 => exact one_cells rfl
    case c3 => unfold maxLen; omega
    case c4 => omega
    case c5 => simp; omega
    intro v3 w3 ho3 hg3 _
    obtain ⟨ov, cv, rfl⟩ := row_form ho3
    have hk3 : Keeps (Value.slice o l.length c).ownBlock.toList w1 w3 := ((Keeps.refl _ w1).alloc _).grown hg3 fun i e => .inl (by simp [e])
    have hr := h1.grow hk3 ho3 (World.ownsRow_nil _ _ _ _)
    have o3 : w3.heap[bo]? = some (.cells #[.slice o l.length c] 26 (0, 0)) := by
      have := h1.hbo
      rw [hk3.block bo (lt_of_block h1.ob) (fun hm => by have := (h1.out.lt bo (by simpa using hm)).1; omega)]; exact h1.ob
    have x0 := one_cell o3
    have x1 := one_free o3
    have x2 := one_cell hr.tx
    have x3 := one_free hr.tx
    have hkf : Keeps (bt :: bo :: (Value.slice o l.length c).ownBlock.toList) w (w3.setCell ⟨bo, 0, none⟩ (.slice ov (l.length + 1) cv)) :=
      ((hk1.to (by simp)).trans (hk3.to (fun i hi => by simp at hi ⊢; exact .inr (.inr hi)))).setCell (.inl (by simp)) _
    go_wp2_with fail
    go_end0
    exact ⟨rfl, _, hr.set [], hkf.setCell (.inl (by simp)) _⟩
def Sw (l : List UInt8) (k : Nat) (raw : List UInt8) (out : List Tok) (z : Int) (t : Tok) : Prop :=
  (z = -1 ∧ pieceL l k raw out = none) ∨ (z = -2 ∧ pieceL l k raw out = textL l k raw out) ∨
  (∃ k' : Nat, z = k' ∧ t.kind = 0 ∧ pieceL l k raw out = some (k', raw, out)) ∨
  (∃ k' : Nat, z = k' ∧ (t.kind = 2 ∨ t.kind = 3) ∧ t.text = [] ∧ t.name.length ≤ 3000 ∧ pieceL l k raw out = some (k', if isNameL t.name = true then ([], out ++ endT raw ++ [t]) else (raw, out)))
theorem tagL_open (s : ByteArray) (k : Nat) (hk : k < s.size) (h : s[k] = 60) : tagL s.data.toList k [60] = (decide (k + 1 < s.size) && letterB (byteAt s (k + 1))) := by
  have e : stL s.data.toList k [60] = true := by
    unfold stL
    rw [drop_get s k hk, h]
    simp
  unfold tagL
  rw [e, len_size]
  rfl
theorem tagL_close (s : ByteArray) (k : Nat) : tagL s.data.toList k [60, 47] = (stAt s k [60, 47] && (decide (k + 2 < s.size) && letterB (byteAt s (k + 2)))) := by
  unfold tagL
  rw [len_size]
  rfl
theorem run_list (s : ByteArray) (k k2 : Nat) (h : runTo tagN s k = k2) : (s.data.toList.drop k).takeWhile tagN = (s.extract k k2).data.toList := by rw [← h]; exact runTo_list tagN s k
theorem run_len (s : ByteArray) (k k2 : Nat) (h : runTo tagN s k = k2) : k + ((s.data.toList.drop k).takeWhile tagN).length = k2 := h
theorem sw_open {s : ByteArray} {k k2 : Nat} {raw n : List UInt8} {out : List Tok} (hO : tagL s.data.toList k [60] = true) (hk2 : runTo tagN s (k + 1) = k2) (hn : lowerL (s.extract (k + 1) k2).data.toList = n) (hnl : n.length ≤ 3000)
    {a : List Pair} {k' : Nat} (ha : attrsAt s.data.toList (s.size + 1) k2 [] = some (a, k')) : Sw s.data.toList k raw out ((k' + 1 : Nat) : Int) ⟨2, n, a, []⟩ := by
  refine .inr (.inr (.inr ⟨k' + 1, rfl, .inl rfl, rfl, hnl, ?_⟩))
  unfold pieceL openL
  rw [if_pos hO, len_size, run_len s _ _ hk2, run_list s _ _ hk2, hn, ha]
theorem sw_open0 {s : ByteArray} {k k2 : Nat} {raw : List UInt8} {out : List Tok} (hO : tagL s.data.toList k [60] = true) (hk2 : runTo tagN s (k + 1) = k2)
    (ha : attrsAt s.data.toList (s.size + 1) k2 [] = none) (t : Tok) : Sw s.data.toList k raw out (-1) t := by
  refine .inl ⟨rfl, ?_⟩
  unfold pieceL openL
  rw [if_pos hO, len_size, run_len s _ _ hk2, ha]
theorem sw_close {s : ByteArray} {k k2 : Nat} {raw n : List UInt8} {out : List Tok} (hO : tagL s.data.toList k [60] = false) (hC : tagL s.data.toList k [60, 47] = true) (hk2 : runTo tagN s (k + 2) = k2) (hn : lowerL (s.extract (k + 2) k2).data.toList = n) (hnl : n.length ≤ 3000)
    {m : Nat} (hE : nextIR s.data.toList [62] k2 = m) (hm : k2 ≤ m) : Sw s.data.toList k raw out ((m + 1 : Nat) : Int) ⟨3, n, [], []⟩ := by
  refine .inr (.inr (.inr ⟨m + 1, rfl, .inr rfl, rfl, hnl, ?_⟩))
  unfold pieceL closeL
  rw [if_neg (by simp [hO]), if_pos hC, run_len s _ _ hk2, run_list s _ _ hk2, hn, endOf_next, hE, if_neg (by omega)]
  simp only [Int.toNat_natCast, List.length_cons, List.length_nil]
  congr 2
  omega
theorem sw_close0 {s : ByteArray} {k k2 : Nat} {raw : List UInt8} {out : List Tok} (hO : tagL s.data.toList k [60] = false) (hC : tagL s.data.toList k [60, 47] = true) (hk2 : runTo tagN s (k + 2) = k2)
    (hE : nextIR s.data.toList [62] k2 < 0) (t : Tok) : Sw s.data.toList k raw out (-1) t := by
  refine .inl ⟨rfl, ?_⟩
  unfold pieceL closeL
  rw [if_neg (by simp [hO]), if_pos hC, run_len s _ _ hk2, endOf_next, if_pos hE]
theorem sw_com {s : ByteArray} {k : Nat} {raw : List UInt8} {out : List Tok} (hO : tagL s.data.toList k [60] = false) (hC : tagL s.data.toList k [60, 47] = false) (h3 : stAt s k [60, 33, 45, 45] = true)
    {m : Nat} (hE : nextIR s.data.toList [45, 45, 62] (k + 2) = m) (hm : k + 2 ≤ m) {t : Tok} (ht : t.kind = 0) : Sw s.data.toList k raw out ((m + 3 : Nat) : Int) t := by
  refine .inr (.inr (.inl ⟨m + 3, rfl, ht, ?_⟩))
  unfold pieceL comL
  rw [if_neg (by simp [hO]), if_neg (by simp [hC]), if_pos (show stL s.data.toList k [60, 33, 45, 45] = true from h3), endOf_next, hE, if_neg (by omega)]
  simp only [Int.toNat_natCast, List.length_cons, List.length_nil]
  congr 2
  omega
theorem sw_com0 {s : ByteArray} {k : Nat} {raw : List UInt8} {out : List Tok} (hO : tagL s.data.toList k [60] = false) (hC : tagL s.data.toList k [60, 47] = false) (h3 : stAt s k [60, 33, 45, 45] = true)
    (hE : nextIR s.data.toList [45, 45, 62] (k + 2) < 0) (t : Tok) : Sw s.data.toList k raw out (-1) t := by
  refine .inl ⟨rfl, ?_⟩
  unfold pieceL comL
  rw [if_neg (by simp [hO]), if_neg (by simp [hC]), if_pos (show stL s.data.toList k [60, 33, 45, 45] = true from h3), endOf_next, if_pos hE]
theorem sw_decl {s : ByteArray} {k : Nat} {raw : List UInt8} {out : List Tok} (hO : tagL s.data.toList k [60] = false) (hC : tagL s.data.toList k [60, 47] = false) (h3 : stAt s k [60, 33, 45, 45] = false)
    (h4 : (stAt s k [60, 33] || (stAt s k [60, 63] || stAt s k [60, 47])) = true)
    {m : Nat} (hE : nextIR s.data.toList [62] k = m) (hm : k ≤ m) {t : Tok} (ht : t.kind = 0) : Sw s.data.toList k raw out ((m + 1 : Nat) : Int) t := by
  refine .inr (.inr (.inl ⟨m + 1, rfl, ht, ?_⟩))
  unfold pieceL declL
  rw [if_neg (by simp [hO]), if_neg (by simp [hC]), if_neg (by rw [show stL s.data.toList k [60, 33, 45, 45] = false from h3]; simp), if_pos (show (stL s.data.toList k [60, 33] || (stL s.data.toList k [60, 63] || stL s.data.toList k [60, 47])) = true from h4), endOf_next, hE, if_neg (by omega)]
  simp only [Int.toNat_natCast, List.length_cons, List.length_nil]
  congr 2
  omega
theorem sw_decl0 {s : ByteArray} {k : Nat} {raw : List UInt8} {out : List Tok} (hO : tagL s.data.toList k [60] = false) (hC : tagL s.data.toList k [60, 47] = false) (h3 : stAt s k [60, 33, 45, 45] = false)
    (h4 : (stAt s k [60, 33] || (stAt s k [60, 63] || stAt s k [60, 47])) = true) (hE : nextIR s.data.toList [62] k < 0) (t : Tok) : Sw s.data.toList k raw out (-1) t := by
  refine .inl ⟨rfl, ?_⟩
  unfold pieceL declL
  rw [if_neg (by simp [hO]), if_neg (by simp [hC]), if_neg (by rw [show stL s.data.toList k [60, 33, 45, 45] = false from h3]; simp), if_pos (show (stL s.data.toList k [60, 33] || (stL s.data.toList k [60, 63] || stL s.data.toList k [60, 47])) = true from h4), endOf_next, if_pos hE]
theorem sw_text {s : ByteArray} {k : Nat} {raw : List UInt8} {out : List Tok} (hO : tagL s.data.toList k [60] = false) (hC : tagL s.data.toList k [60, 47] = false) (h3 : stAt s k [60, 33, 45, 45] = false)
    (h4 : (stAt s k [60, 33] || (stAt s k [60, 63] || stAt s k [60, 47])) = false) (t : Tok) : Sw s.data.toList k raw out (-2) t := by
  refine .inr (.inl ⟨rfl, ?_⟩)
  unfold pieceL
  rw [if_neg (by simp [hO]), if_neg (by simp [hC]), if_neg (by rw [show stL s.data.toList k [60, 33, 45, 45] = false from h3]; simp), if_neg (by rw [show (stL s.data.toList k [60, 33] || (stL s.data.toList k [60, 63] || stL s.data.toList k [60, 47])) = false from h4]; simp)]
theorem tok_free {w : World} {g : Nat} {p : Tok × Value} (h : IsTok w g p) (j : Nat) : w.frozen? ⟨g, j, none⟩ = false := by
  simp [World.frozen?, IsTok] at h ⊢; simp [h]
theorem tok_set0 {w : World} {g : Nat} {t : Tok} {v : Value} (h : IsTok w g (t, v)) (x : Int) : IsTok (w.setCell ⟨g, 0, none⟩ (.int .i64 x)) g (⟨x, t.name, t.attrs, t.text⟩, v) := by
  simp [World.setCell, IsTok, Array.getElem?_modify] at h ⊢; simp [h]
theorem tok_set1 {w : World} {g : Nat} {t : Tok} {v : Value} (h : IsTok w g (t, v)) (x : List UInt8) : IsTok (w.setCell ⟨g, 1, none⟩ (.string ⟨x.toArray⟩)) g (⟨t.kind, x, t.attrs, t.text⟩, v) := by
  simp [World.setCell, IsTok, Array.getElem?_modify] at h ⊢; simp [h]
theorem tok_set2 {w : World} {g : Nat} {t : Tok} {v : Value} (h : IsTok w g (t, v)) (a : List Pair) (u : Value) : IsTok (w.setCell ⟨g, 2, none⟩ u) g (⟨t.kind, t.name, a, t.text⟩, u) := by
  simp [World.setCell, IsTok, Array.getElem?_modify] at h ⊢; simp [h]
theorem keeps_one {w : World} {g j : Nat} (u : Value) : Keeps [g] w (w.setCell ⟨g, j, none⟩ u) := (Keeps.refl [g] w).setCell (.inl (by simp)) _
end Go.Proofs.YtlcljanibjdejaaGreat
