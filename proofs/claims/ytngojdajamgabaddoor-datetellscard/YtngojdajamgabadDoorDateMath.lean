/- Dates: what is printed is read as it was; a later time is a greater text. -/
import Derived.Test.YtngojdajamgabadDoorPrint
import Derived.Test.YtngojdajamgabadDoorWeb2
namespace Go.Proofs.YtngojdajamgabadDoor
open Go.RowKit

theorem dg_nat (n : Nat) (h : n < 10) : (dg n).toNat = 48 + n := by
  unfold dg
  rw [UInt8.toNat_ofNat']
  omega
theorem dig_dg (n : Nat) (h : n < 10) : digB (dg n) = true := by unfold digB; rw [dg_nat n h]; simp; omega
theorem let_dg (n : Nat) (h : n < 10) : letterB (dg n) = false := by unfold letterB smallB bigB; rw [dg_nat n h]; simp; omega

/-- Two digits stand at a place. -/
theorem numL_two {l : List UInt8} {k n : Nat} (hn : n < 100) (h : l.drop k = d2 n ++ l.drop (k + 2)) : numL l 2 k 0 = some (n, k + 2) := by
  have hlen : k + 1 < l.length := by
    have := congrArg List.length h
    simp [d2] at this
    omega
  have h0 : l.getD k 0 = dg (n / 10) := by
    have := congrArg (fun x => x.getD 0 0) h
    simpa [d2, List.getD_eq_getElem?_getD, List.getElem?_drop] using this
  have h1 : l.getD (k + 1) 0 = dg (n % 10) := by
    have := congrArg (fun x => x.getD 1 0) h
    simpa [d2, List.getD_eq_getElem?_getD, List.getElem?_drop] using this
  simp only [numL]
  rw [h0, h1, dig_dg _ (by omega), dig_dg _ (by omega), dg_nat _ (by omega), dg_nat _ (by omega), if_pos ⟨by omega, rfl⟩, if_pos ⟨by omega, rfl⟩]
  simp
  omega
theorem numL_four {l : List UInt8} {k n : Nat} (hn : n < 10000) (h : l.drop k = d4 n ++ l.drop (k + 4)) : numL l 4 k 0 = some (n, k + 4) := by
  have hlen : k + 3 < l.length := by
    have := congrArg List.length h
    simp [d4] at this
    omega
  have h0 : l.getD k 0 = dg (n / 1000) := by
    have := congrArg (fun x => x.getD 0 0) h
    simpa [d4, List.getD_eq_getElem?_getD, List.getElem?_drop] using this
  have h1 : l.getD (k + 1) 0 = dg (n / 100 % 10) := by
    have := congrArg (fun x => x.getD 1 0) h
    simpa [d4, List.getD_eq_getElem?_getD, List.getElem?_drop] using this
  have h2 : l.getD (k + 1 + 1) 0 = dg (n / 10 % 10) := by
    have := congrArg (fun x => x.getD 2 0) h
    simpa [d4, List.getD_eq_getElem?_getD, List.getElem?_drop] using this
  have h3 : l.getD (k + 1 + 1 + 1) 0 = dg (n % 10) := by
    have := congrArg (fun x => x.getD 3 0) h
    simpa [d4, List.getD_eq_getElem?_getD, List.getElem?_drop] using this
  simp only [numL]
  rw [h0, h1, h2, h3, dig_dg _ (by omega), dig_dg _ (by omega), dig_dg _ (by omega), dig_dg _ (by omega), dg_nat _ (by omega), dg_nat _ (by omega), dg_nat _ (by omega), dg_nat _ (by omega), if_pos ⟨by omega, rfl⟩, if_pos ⟨by omega, rfl⟩, if_pos ⟨by omega, rfl⟩, if_pos ⟨by omega, rfl⟩]
  simp
  omega
theorem upL_two {l : List UInt8} {k n most : Nat} (hn : n < 100) (hm : n ≤ most) (h : l.drop k = d2 n ++ l.drop (k + 2)) : upL l k most = some (n, k + 2) := by
  unfold upL
  rw [numL_two hn h]
  simp [hm]
theorem mustL_one {l : List UInt8} {k : Nat} {p : List UInt8} (h : stL l k p = true) : mustL l k p = some (k + p.length) := if_pos h

/-- The time of a day, as it is printed. -/
def clock (c : Nat) : List UInt8 := d2 (c / 3600) ++ [58] ++ d2 (c / 60 % 60) ++ [58] ++ d2 (c % 60)
theorem todL_clock {l : List UInt8} {k c : Nat} (hc : c < 86400) (t : List UInt8) (h : l.drop k = clock c ++ t) : todL l k = some (c, k + 8) := by
  have hd : ∀ j, l.drop (k + j) = (clock c ++ t).drop j := fun j => by rw [← h, List.drop_drop]
  unfold todL
  rw [upL_two (n := c / 3600) (by omega) (by omega) (by rw [h, hd]; rfl)]
  simp only [Option.bind_some]
  rw [mustL_one (by unfold stL; rw [hd]; rfl)]
  simp only [Option.bind_some, List.length_singleton]
  rw [upL_two (n := c / 60 % 60) (by omega) (by omega) (by rw [Nat.add_assoc, Nat.add_assoc, hd, hd]; rfl)]
  simp only [Option.bind_some]
  rw [mustL_one (by unfold stL; rw [Nat.add_assoc, Nat.add_assoc, hd]; rfl)]
  simp only [Option.bind_some, List.length_singleton]
  rw [upL_two (n := c % 60) (by omega) (by omega) (by simp only [Nat.add_assoc]; rw [hd, hd]; rfl)]
  simp only [Option.bind_some]
  congr 2
  omega

/-- The day, as it is printed. -/
def dayT (y m d : Nat) : List UInt8 := d4 y ++ [45] ++ d2 m ++ [45] ++ d2 d
theorem stamp_is (y m d c : Nat) : stamp y m d c = dayT y m d ++ [84] ++ clock c ++ [90] := by simp [stamp, dayT, clock]
theorem webL_rest (y m d c : Nat) (t : List UInt8) (hy : y < 10000) (hm : m < 100) (hd : d < 100) (hc : c < 86400) :
    webL (dayT y m d ++ [84] ++ clock c ++ t) = if stL (dayT y m d ++ [84] ++ clock c ++ t) 19 [90] = true then some (y, m, d, c, 0, 20) else (offL (dayT y m d ++ [84] ++ clock c ++ t) 19 [58]).bind fun a => some (y, m, d, c, a.1, a.2) := by
  have h1 : (dayT y m d ++ [84] ++ clock c ++ t).drop 0 = d4 y ++ (dayT y m d ++ [84] ++ clock c ++ t).drop (0 + 4) := rfl
  have h2 : stL (dayT y m d ++ [84] ++ clock c ++ t) 4 [45] = true := rfl
  have h3 : (dayT y m d ++ [84] ++ clock c ++ t).drop 5 = d2 m ++ (dayT y m d ++ [84] ++ clock c ++ t).drop (5 + 2) := rfl
  have h4 : stL (dayT y m d ++ [84] ++ clock c ++ t) 7 [45] = true := rfl
  have h5 : (dayT y m d ++ [84] ++ clock c ++ t).drop 8 = d2 d ++ (dayT y m d ++ [84] ++ clock c ++ t).drop (8 + 2) := rfl
  have h6 : stL (dayT y m d ++ [84] ++ clock c ++ t) 10 [84] = true := rfl
  have h7 : (dayT y m d ++ [84] ++ clock c ++ t).drop 11 = clock c ++ t := rfl
  generalize dayT y m d ++ [84] ++ clock c ++ t = l at *
  unfold webL
  rw [numL_four hy h1]
  simp only [Option.bind_some, Nat.zero_add]
  rw [mustL_one h2]
  simp only [Option.bind_some, List.length_singleton, Nat.reduceAdd]
  rw [numL_two hm h3]
  simp only [Option.bind_some, Nat.reduceAdd]
  rw [mustL_one h4]
  simp only [Option.bind_some, List.length_singleton, Nat.reduceAdd]
  rw [numL_two hd h5]
  simp only [Option.bind_some, Nat.reduceAdd]
  rw [mustL_one h6]
  simp only [Option.bind_some, List.length_singleton, Nat.reduceAdd]
  rw [todL_clock hc t h7]
  simp only [Option.bind_some, Nat.reduceAdd]
theorem webL_z (y m d c : Nat) (hy : y < 10000) (hm : m < 100) (hd : d < 100) (hc : c < 86400) : webL (stamp y m d c) = some (y, m, d, c, 0, 20) := by
  rw [stamp_is, webL_rest y m d c [90] hy hm hd hc, if_pos (by rfl)]
theorem offTail_is {l : List UInt8} {k h i : Nat} {mark : List UInt8} (hh : h < 24) (hi : i < 60) (t : List UInt8) (e : l.drop k = d2 h ++ mark ++ d2 i ++ t) : offTail l k mark = some (h * 3600 + i * 60, k + (4 + mark.length)) := by
  have hd : ∀ j, l.drop (k + j) = (d2 h ++ mark ++ d2 i ++ t).drop j := fun j => by rw [← e, List.drop_drop]
  unfold offTail
  rw [upL_two (n := h) (by omega) (by omega) (by rw [e, hd]; simp [d2])]
  simp only [Option.bind_some]
  rw [mustL_one (by unfold stL; rw [hd]; simp [d2])]
  simp only [Option.bind_some]
  have e2 : ∀ x y : List UInt8, List.drop (2 + mark.length) (d2 h ++ mark ++ x ++ y) = x ++ y := fun x y => by
    rw [show 2 + mark.length = (d2 h ++ mark).length from by simp [d2]; omega, List.append_assoc, List.drop_left]
  rw [upL_two (n := i) (by omega) (by omega) (by
    rw [Nat.add_assoc, hd, e2, Nat.add_assoc, hd, ← List.drop_drop, e2]; rfl)]
  simp only [Option.bind_some]
  congr 2
  omega
theorem webL_plus (y m d c h i : Nat) (hy : y < 10000) (hm : m < 100) (hd : d < 100) (hc : c < 86400) (hh : h < 24) (hi : i < 60) :
    webL (dayT y m d ++ [84] ++ clock c ++ ([43] ++ d2 h ++ [58] ++ d2 i)) = some (y, m, d, c, ((h * 3600 + i * 60 : Nat) : Int), 25) := by
  rw [webL_rest y m d c _ hy hm hd hc, if_neg (by rw [show stL (dayT y m d ++ [84] ++ clock c ++ ([43] ++ d2 h ++ [58] ++ d2 i)) 19 [90] = false from rfl]; simp)]
  unfold offL
  rw [if_neg (by rw [show stL (dayT y m d ++ [84] ++ clock c ++ ([43] ++ d2 h ++ [58] ++ d2 i)) 19 [45] = false from rfl]; simp), mustL_one (by rfl)]
  simp only [Option.bind_some, List.length_singleton, Nat.reduceAdd]
  rw [offTail_is hh hi [] (by rfl)]
  rfl
theorem webL_minus (y m d c h i : Nat) (hy : y < 10000) (hm : m < 100) (hd : d < 100) (hc : c < 86400) (hh : h < 24) (hi : i < 60) :
    webL (dayT y m d ++ [84] ++ clock c ++ ([45] ++ d2 h ++ [58] ++ d2 i)) = some (y, m, d, c, -((h * 3600 + i * 60 : Nat) : Int), 25) := by
  rw [webL_rest y m d c _ hy hm hd hc, if_neg (by rw [show stL (dayT y m d ++ [84] ++ clock c ++ ([45] ++ d2 h ++ [58] ++ d2 i)) 19 [90] = false from rfl]; simp)]
  unfold offL
  rw [if_pos (by rfl)]
  simp only [Nat.reduceAdd]
  rw [offTail_is hh hi [] (by rfl)]
  rfl

theorem dayNum_is {days y m d : Nat} (h : IsDay days y m d) : dayNum y m d = days := by
  obtain ⟨h1, h2, h3, h4, h5, h6, h7⟩ := h
  have := ahead_mono 1970 y h1
  unfold dayNum
  omega
theorem stands_is {days y m d : Nat} (h : IsDay days y m d) : standsB y m d = true := by
  obtain ⟨h1, h2, h3, h4, h5, h6, h7⟩ := h
  simp [standsB]
  omega
theorem IsDay.small {days y m d : Nat} (h : IsDay days y m d) : y < 10000 ∧ m < 100 ∧ d < 100 := by
  obtain ⟨h1, h2, h3, h4, h5, h6, h7⟩ := h
  have := monthN_hi y m
  omega
/-- What is answered where a right day was read, whole. -/
theorem ans_is {days y m d c n : Nat} {a : Int} (h : IsDay days y m d) : ansL (some (y, m, d, c, a, n)) n = if (decide (0 ≤ (days : Int) * 86400 + c - a) && decide ((days : Int) * 86400 + c - a ≤ 4102444799)) = true then ((days : Int) * 86400 + c - a, 0) else (0, 3) := by
  simp only [ansL]
  rw [if_neg (by omega), if_pos (stands_is h), dayNum_is h]
theorem ans_stamp {a y m d : Nat} (h : IsDay (a / 86400) y m d) (ha : a ≤ 4102444799) : ansL (webL (stamp y m d (a % 86400))) 20 = ((a : Int), 0) := by
  obtain ⟨h1, h2, h3⟩ := h.small
  rw [webL_z _ _ _ _ h1 h2 h3 (by omega), ans_is h, if_pos (by simp; omega)]
  congr 1
  omega
theorem ans_plus {a y m d hh i : Nat} (h : IsDay (a / 86400) y m d) (ha : a ≤ 4102444799) (hh1 : hh < 24) (hi : i < 60) :
    ansL (webL (dayT y m d ++ [84] ++ clock (a % 86400) ++ ([43] ++ d2 hh ++ [58] ++ d2 i))) 25 = if hh * 3600 + i * 60 ≤ a then ((a : Int) - 3600 * hh - 60 * i, 0) else (0, 3) := by
  obtain ⟨h1, h2, h3⟩ := h.small
  rw [webL_plus _ _ _ _ _ _ h1 h2 h3 (by omega) hh1 hi, ans_is h]
  by_cases hle : hh * 3600 + i * 60 ≤ a
  · rw [if_pos (by simp; omega), if_pos hle]
    congr 1
    omega
  · rw [if_neg (by simp; omega), if_neg hle]
theorem ans_minus0 {a y m d : Nat} (h : IsDay (a / 86400) y m d) (ha : a ≤ 4102444799) :
    ansL (webL (dayT y m d ++ [84] ++ clock (a % 86400) ++ ([45] ++ d2 0 ++ [58] ++ d2 0))) 25 = ((a : Int), 0) := by
  obtain ⟨h1, h2, h3⟩ := h.small
  rw [webL_minus _ _ _ _ _ _ h1 h2 h3 (by omega) (by omega) (by omega), ans_is h, if_pos (by simp; omega)]
  congr 1
  omega

/-- A month's name. -/
def nameL (m : Nat) : List UInt8 := (monB.drop (3 * (m - 1))).take 3
theorem nameL_len (m : Nat) (h1 : 1 ≤ m) (h2 : m ≤ 12) : (nameL m).length = 3 := by
  obtain rfl | rfl | rfl | rfl | rfl | rfl | rfl | rfl | rfl | rfl | rfl | rfl : m = 1 ∨ m = 2 ∨ m = 3 ∨ m = 4 ∨ m = 5 ∨ m = 6 ∨ m = 7 ∨ m = 8 ∨ m = 9 ∨ m = 10 ∨ m = 11 ∨ m = 12 := by omega
  all_goals rfl
theorem monL_is {l : List UInt8} {k m : Nat} (h1 : 1 ≤ m) (h2 : m ≤ 12) (t : List UInt8) (e : l.drop k = nameL m ++ t) : monL l k = some (m, k + 3) := by
  have hs : ∀ p, stL l k p = p.isPrefixOf (nameL m ++ t) := fun p => by unfold stL; rw [e]
  unfold monL
  simp only [monF, hs]
  clear hs e
  obtain rfl | rfl | rfl | rfl | rfl | rfl | rfl | rfl | rfl | rfl | rfl | rfl : m = 1 ∨ m = 2 ∨ m = 3 ∨ m = 4 ∨ m = 5 ∨ m = 6 ∨ m = 7 ∨ m = 8 ∨ m = 9 ∨ m = 10 ∨ m = 11 ∨ m = 12 := by omega
  all_goals rfl
def mailT (y m d c : Nat) (t : List UInt8) : List UInt8 := d2 d ++ ([32] ++ (nameL m ++ ([32] ++ (d4 y ++ ([32] ++ (clock c ++ ([32] ++ t)))))))
theorem mailL_rest {l : List UInt8} {k y m d c : Nat} (t : List UInt8) (hw : weekL l 0 = some k) (hy : y < 10000) (hm1 : 1 ≤ m) (hm2 : m ≤ 12) (hd : d < 100) (hc : c < 86400) (e : l.drop k = mailT y m d c t) :
    mailL l = if stL l (k + 21) [71, 77, 84] = true then some (y, m, d, c, 0, k + 21 + 3) else if stL l (k + 21) [85, 84] = true then some (y, m, d, c, 0, k + 21 + 2) else (offL l (k + 21) []).bind fun a => some (y, m, d, c, a.1, a.2) := by
  have hn := nameL_len m hm1 hm2
  have ht : ∀ (a b : List UInt8) (n j : Nat), l.drop j = a ++ b → a.length = n → l.drop (j + n) = b := fun a b n j h1 h2 => by rw [← List.drop_drop, h1, ← h2, List.drop_left]
  have e2 := ht _ _ 2 _ e rfl
  have e3 := ht _ _ 1 _ e2 rfl
  have e6 := ht _ _ 3 _ e3 hn
  have e7 := ht _ _ 1 _ e6 rfl
  have e11 := ht _ _ 4 _ e7 rfl
  have e12 := ht _ _ 1 _ e11 rfl
  have e20 := ht _ _ 8 _ e12 rfl
  have hst : ∀ (c : UInt8) (j : Nat) (b : List UInt8), l.drop j = [c] ++ b → stL l j [c] = true := fun c j b h => by unfold stL; rw [h]; simp
  have hlen : k + 1 < l.length := by
    have := congrArg List.length e
    simp [mailT, d2] at this
    omega
  have h1 : l.getD (k + 1) 0 = dg (d % 10) := by
    have := congrArg (fun x => x.getD 1 0) e
    simpa [mailT, d2, List.getD_eq_getElem?_getD, List.getElem?_drop] using this
  unfold mailL
  rw [hw]
  simp only [Option.bind_some]
  unfold shortL
  rw [h1, dig_dg _ (by omega), if_pos (by simp [hlen]), numL_two hd (by rw [e, e2]; rfl)]
  simp only [Option.bind_some]
  rw [mustL_one (hst _ _ _ e2)]
  simp only [Option.bind_some, List.length_singleton]
  rw [monL_is hm1 hm2 _ e3]
  simp only [Option.bind_some]
  rw [mustL_one (hst _ _ _ e6)]
  simp only [Option.bind_some, List.length_singleton]
  rw [numL_four hy (by rw [e7, e11])]
  simp only [Option.bind_some]
  rw [mustL_one (hst _ _ _ e11)]
  simp only [Option.bind_some, List.length_singleton]
  rw [todL_clock hc _ e12]
  simp only [Option.bind_some]
  rw [mustL_one (hst _ _ _ e20)]
  simp only [Option.bind_some, List.length_singleton, Nat.add_assoc, Nat.reduceAdd]
theorem weekL_none (y m d c : Nat) (t : List UInt8) (hd : d < 100) : weekL (mailT y m d c t) 0 = some 0 := by
  unfold weekL
  rw [if_pos]
  simp [passLen, mailT, d2, let_dg (d / 10) (by omega)]
theorem weekL_xyz (y m d c : Nat) (t : List UInt8) : weekL ([88, 121, 122, 44, 32] ++ mailT y m d c t) 0 = some 5 := by
  have h : passLen letterB (([88, 121, 122, 44, 32] ++ mailT y m d c t).drop 0) = 3 := by
    rw [List.drop_zero, List.cons_append, List.cons_append, List.cons_append, List.cons_append]
    unfold passLen
    rw [List.takeWhile_cons_of_pos (by decide), List.takeWhile_cons_of_pos (by decide), List.takeWhile_cons_of_pos (by decide), List.takeWhile_cons_of_neg (by decide)]
    rfl
  unfold weekL
  rw [h, if_neg (by omega), if_pos rfl]
  rfl
theorem mailL_gmt (y m d c : Nat) (hy : y < 10000) (hm1 : 1 ≤ m) (hm2 : m ≤ 12) (hd : d < 100) (hc : c < 86400) : mailL (mailT y m d c [71, 77, 84]) = some (y, m, d, c, 0, 24) := by
  have hn := nameL_len m hm1 hm2
  rw [mailL_rest [71, 77, 84] (weekL_none y m d c _ hd) hy hm1 hm2 hd hc rfl, if_pos]
  unfold stL
  have : (mailT y m d c [71, 77, 84]).drop (0 + 21) = [71, 77, 84] := by
    unfold mailT
    simp only [← List.append_assoc]
    exact List.drop_left' (by simp [d2, d4, clock, hn])
  rw [this]
  rfl
theorem mailL_zero (y m d c : Nat) (hy : y < 10000) (hm1 : 1 ≤ m) (hm2 : m ≤ 12) (hd : d < 100) (hc : c < 86400) : mailL ([88, 121, 122, 44, 32] ++ mailT y m d c [43, 48, 48, 48, 48]) = some (y, m, d, c, 0, 31) := by
  have hn := nameL_len m hm1 hm2
  rw [mailL_rest [43, 48, 48, 48, 48] (weekL_xyz y m d c _) hy hm1 hm2 hd hc rfl]
  have e : ([88, 121, 122, 44, 32] ++ mailT y m d c [43, 48, 48, 48, 48]).drop (5 + 21) = [43, 48, 48, 48, 48] := by
    unfold mailT
    simp only [← List.append_assoc]
    exact List.drop_left' (by simp [d2, d4, clock, hn])
  generalize [88, 121, 122, 44, 32] ++ mailT y m d c [43, 48, 48, 48, 48] = l at *
  have hs : ∀ p, stL l (5 + 21) p = p.isPrefixOf [43, 48, 48, 48, 48] := fun p => by unfold stL; rw [e]
  rw [hs, hs, if_neg (by decide), if_neg (by decide)]
  unfold offL
  rw [hs, if_neg (by decide), mustL_one (by rw [hs]; rfl)]
  simp only [Option.bind_some, List.length_singleton]
  rw [offTail_is (h := 0) (i := 0) (by omega) (by omega) [] (by rw [← List.drop_drop, e]; rfl)]
  rfl
theorem ans_gmt {a y m d : Nat} (h : IsDay (a / 86400) y m d) (ha : a ≤ 4102444799) : ansL (mailL (mailT y m d (a % 86400) [71, 77, 84])) 24 = ((a : Int), 0) := by
  obtain ⟨h1, h2, h3⟩ := h.small
  rw [mailL_gmt _ _ _ _ h1 h.2.2.1 h.2.2.2.1 h3 (by omega), ans_is h, if_pos (by simp; omega)]
  congr 1
  omega
theorem ans_zero {a y m d : Nat} (h : IsDay (a / 86400) y m d) (ha : a ≤ 4102444799) : ansL (mailL ([88, 121, 122, 44, 32] ++ mailT y m d (a % 86400) [43, 48, 48, 48, 48])) 31 = ((a : Int), 0) := by
  obtain ⟨h1, h2, h3⟩ := h.small
  rw [mailL_zero _ _ _ _ h1 h.2.2.1 h.2.2.2.1 h3 (by omega), ans_is h, if_pos (by simp; omega)]
  congr 1
  omega

/-- A later time is a greater text. -/
theorem less_same (p a b : List UInt8) : Op.bytesLess (p ++ a) (p ++ b) = Op.bytesLess a b := by
  induction p with
  | nil => rfl
  | cons c p ih => simp [Op.bytesLess, ih]
theorem less_ahead : ∀ (p q a b : List UInt8), p.length = q.length → Op.bytesLess p q = true → Op.bytesLess (p ++ a) (q ++ b) = true
  | [], [], _, _, _, h => by simp [Op.bytesLess] at h
  | [], _ :: _, _, _, h, _ => by simp at h
  | _ :: _, [], _, _, h, _ => by simp at h
  | c :: p, d :: q, a, b, h, h2 => by
    simp only [Op.bytesLess, List.cons_append, Bool.or_eq_true, Bool.and_eq_true, decide_eq_true_eq] at h2 ⊢
    rcases h2 with h2 | ⟨h2, h3⟩
    · exact .inl h2
    · exact .inr ⟨h2, less_ahead p q a b (by simpa using h) h3⟩
theorem less_irr : ∀ a : List UInt8, Op.bytesLess a a = false
  | [] => rfl
  | c :: a => by simp [Op.bytesLess, less_irr a]
theorem less_asymm : ∀ (a b : List UInt8), Op.bytesLess a b = true → Op.bytesLess b a = false
  | _, [], h => by simp [Op.bytesLess] at h
  | [], _ :: _, _ => rfl
  | c :: a, d :: b, h => by
    simp only [Op.bytesLess, Bool.or_eq_true, Bool.and_eq_true, decide_eq_true_eq, beq_iff_eq] at h
    rcases h with h | ⟨rfl, h⟩
    · simp only [Op.bytesLess, Bool.or_eq_false_iff, Bool.and_eq_false_iff, decide_eq_false_iff_not]
      have h' := UInt8.lt_iff_toNat_lt.mp h
      refine ⟨fun h2 => ?_, .inl ?_⟩
      · have := UInt8.lt_iff_toNat_lt.mp h2; omega
      · rw [beq_eq_false_iff_ne]; rintro rfl; omega
    · simp [Op.bytesLess, less_asymm a b h]
theorem dg_less (a b : Nat) (h : a < b) (hb : b < 10) : dg a < dg b := by rw [UInt8.lt_iff_toNat_lt, dg_nat a (by omega), dg_nat b hb]; omega
theorem d2_less (a b : Nat) (h : a < b) (hb : b < 100) : Op.bytesLess (d2 a) (d2 b) = true := by
  unfold d2
  simp only [Op.bytesLess, Bool.or_eq_true, Bool.and_eq_true, decide_eq_true_eq, beq_iff_eq]
  rcases (show a / 10 < b / 10 ∨ (a / 10 = b / 10 ∧ a % 10 < b % 10) from by omega) with h | ⟨h1, h2⟩
  · exact .inl (dg_less _ _ h (by omega))
  · exact .inr ⟨by rw [h1], .inl (dg_less _ _ h2 (by omega))⟩
theorem d4_less (a b : Nat) (h : a < b) (hb : b < 10000) : Op.bytesLess (d4 a) (d4 b) = true := by
  have e : ∀ n, n < 10000 → d4 n = d2 (n / 100) ++ d2 (n % 100) := fun n hn => by
    unfold d4 d2
    rw [show n / 1000 = n / 100 / 10 from by omega, show n / 10 % 10 = n % 100 / 10 from by omega, show n % 10 = n % 100 % 10 from by omega]
    rfl
  rw [e a (by omega), e b hb]
  rcases (show a / 100 < b / 100 ∨ (a / 100 = b / 100 ∧ a % 100 < b % 100) from by omega) with h | ⟨h1, h2⟩
  · exact less_ahead _ _ _ _ rfl (d2_less _ _ h (by omega))
  · rw [h1, less_same]; exact d2_less _ _ h2 (by omega)
theorem clock_less (a b : Nat) (h : a < b) (hb : b < 86400) (t : List UInt8) : Op.bytesLess (clock a ++ t) (clock b ++ t) = true := by
  refine less_ahead _ _ _ _ rfl ?_
  unfold clock
  simp only [List.append_assoc]
  rcases (show a / 3600 < b / 3600 ∨ (a / 3600 = b / 3600 ∧ a / 60 % 60 < b / 60 % 60) ∨ (a / 3600 = b / 3600 ∧ a / 60 % 60 = b / 60 % 60 ∧ a % 60 < b % 60) from by omega) with h | ⟨h1, h2⟩ | ⟨h1, h2, h3⟩
  · exact less_ahead _ _ _ _ rfl (d2_less _ _ h (by omega))
  · rw [h1, less_same, less_same]; exact less_ahead _ _ _ _ rfl (d2_less _ _ h2 (by omega))
  · rw [h1, h2, less_same, less_same, less_same, less_same]; exact d2_less _ _ h3 (by omega)
theorem sum_mono (y : Nat) : ∀ a b, a ≤ b → sumTo y a ≤ sumTo y b := by
  intro a b h
  induction h with
  | refl => exact Nat.le_refl _
  | step _ ih => simp only [sumTo]; omega
theorem day_order {D y m d D' y' m' d' : Nat} (h : IsDay D y m d) (h' : IsDay D' y' m' d') : (D < D' → y < y' ∨ (y = y' ∧ m < m') ∨ (y = y' ∧ m = m' ∧ d < d')) ∧ (D = D' → y = y' ∧ m = m' ∧ d = d') := by
  obtain ⟨a1, a2, a3, a4, a5, a6, a7⟩ := h
  obtain ⟨b1, b2, b3, b4, b5, b6, b7⟩ := h'
  have am := ahead_mono 1970 y a1
  have bm := ahead_mono 1970 y' b1
  have aS := sumTo_pred y m a3
  have bS := sumTo_pred y' m' b3
  have a12 := sum_mono y m 12 a4
  have b12 := sum_mono y' m' 12 b4
  rw [sumTo_12] at a12 b12
  have asu := ahead_succ y
  have bsu := ahead_succ y'
  rcases Nat.lt_trichotomy y y' with hy | hy | hy
  · have := ahead_mono (y + 1) y' hy
    exact ⟨fun _ => .inl hy, fun _ => by omega⟩
  · subst hy
    rcases Nat.lt_trichotomy m m' with hm | hm | hm
    · have := sum_mono y m (m' - 1) (by omega)
      exact ⟨fun _ => .inr (.inl ⟨rfl, hm⟩), fun _ => by omega⟩
    · subst hm
      exact ⟨fun _ => .inr (.inr ⟨rfl, rfl, by omega⟩), fun _ => ⟨rfl, rfl, by omega⟩⟩
    · have := sum_mono y m' (m - 1) (by omega)
      exact ⟨fun _ => by omega, fun _ => by omega⟩
  · have := ahead_mono (y' + 1) y hy
    exact ⟨fun _ => by omega, fun _ => by omega⟩
theorem stamp_less {a b y m d y' m' d' : Nat} (h : IsDay (a / 86400) y m d) (h' : IsDay (b / 86400) y' m' d') (hab : a < b) : Op.bytesLess (stamp y m d (a % 86400)) (stamp y' m' d' (b % 86400)) = true := by
  obtain ⟨s1, s2, s3⟩ := h'.small
  rw [stamp_is, stamp_is]
  unfold dayT
  simp only [List.append_assoc]
  rcases (show a / 86400 < b / 86400 ∨ (a / 86400 = b / 86400 ∧ a % 86400 < b % 86400) from by omega) with hd | ⟨hd, hc⟩
  · rcases (day_order h h').1 hd with h1 | ⟨h1, h2⟩ | ⟨h1, h2, h3⟩
    · exact less_ahead _ _ _ _ rfl (d4_less _ _ h1 s1)
    · rw [h1, less_same, less_same]; exact less_ahead _ _ _ _ rfl (d2_less _ _ h2 s2)
    · rw [h1, h2, less_same, less_same, less_same, less_same]; exact less_ahead _ _ _ _ rfl (d2_less _ _ h3 s3)
  · obtain ⟨h1, h2, h3⟩ := (day_order h h').2 hd
    rw [h1, h2, h3, less_same, less_same, less_same, less_same, less_same, less_same]
    exact clock_less _ _ hc (by omega) _
theorem stamp_order {a b y m d y' m' d' : Nat} (h : IsDay (a / 86400) y m d) (h' : IsDay (b / 86400) y' m' d') : Op.bytesLess (stamp y m d (a % 86400)) (stamp y' m' d' (b % 86400)) = decide (a < b) := by
  rcases Nat.lt_trichotomy a b with hab | hab | hab
  · rw [stamp_less h h' hab, decide_eq_true hab]
  · subst hab
    obtain ⟨rfl, rfl, rfl⟩ := (day_order h h').2 rfl
    rw [less_irr, decide_eq_false (by omega)]
  · rw [less_asymm _ _ (stamp_less h' h hab), decide_eq_false (by omega)]
end Go.Proofs.YtngojdajamgabadDoor
