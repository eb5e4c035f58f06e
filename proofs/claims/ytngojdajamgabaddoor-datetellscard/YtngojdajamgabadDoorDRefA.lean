/- The small calls of the document's answer for dates: between, digit, isLetter, isLeap, yearLong, monthLong, form, number. -/
import Derived.Test.YtngojdajamgabadDoorDBegun
import Derived.BigQuiet
namespace Go.Proofs.YtngojdajamgabadDoor
open Go.RowKit

theorem between_any (n a b : Int) (w : World) :
    Calls Tryd.prog 43 #[.int .i64 n, .int .i64 a, .int .i64 b] w fun e w' => e = .returned (.bool (decide (a ≤ n) && decide (n ≤ b))) ∧ w' = w := by
  by_cases h1 : a ≤ n
  · go_enter Tryd.func43, Tryd.ntmps43
    go_wp2
    go_ret
    exact ⟨ret_bool (by simp [h1]), rfl⟩
  · go_enter Tryd.func43, Tryd.ntmps43
    go_wp2
    go_ret
    exact ⟨ret_bool (by rw [decide_eq_false (show ¬ a ≤ n from by omega)]; rfl), rfl⟩

/-- A digit's worth, or -1. -/
def digR (c : UInt8) : Int := if digB c = true then (c.toNat : Int) - 48 else -1
set_option maxHeartbeats 1000000 in
theorem rdigit_any (c : UInt8) (w : World) :
    Calls Tryd.prog 41 #[.int .u8 c.toNat, .int .i64 10] w fun e w' => e = .returned (.int .i64 (digR c)) ∧ w' = w := by
  have hc : c.toNat < 256 := UInt8.toNat_lt c
  unfold digR digB
  generalize c.toNat = n at *
  rcases (show (48 ≤ n ∧ n ≤ 57) ∨ (97 ≤ n ∧ n ≤ 102) ∨ (65 ≤ n ∧ n ≤ 70) ∨ n < 48 ∨ (57 < n ∧ n < 65) ∨ (70 < n ∧ n < 97) ∨ 102 < n from by omega) with h | h | h | h | h | h | h
  · rw [if_pos (by simp; omega)]
    go_enter Tryd.func41, Tryd.ntmps41
    go_wp2
    go_ret
    exact ⟨ret_int (by omega), rfl⟩
  all_goals
    rw [if_neg (by simp; omega)]
    go_enter Tryd.func41, Tryd.ntmps41
    go_wp2
    go_ret
    exact ⟨ret_int (by omega), rfl⟩

theorem all_bytesR {p : UInt8 → Prop} [DecidablePred p] (h : ∀ n : Fin 256, p ⟨⟨n⟩⟩) (c : UInt8) : p c := by
  have := h c.toBitVec.toFin
  exact this
theorem letter_eqR : ∀ c : UInt8, letterB c = ((decide ((97 : Int) ≤ (c.toNat : Int)) && decide ((c.toNat : Int) ≤ 122)) || (decide ((65 : Int) ≤ (c.toNat : Int)) && decide ((c.toNat : Int) ≤ 90))) := all_bytesR (by decide +kernel)
set_option maxHeartbeats 1000000 in
theorem isLetter_any (c : UInt8) (w : World) : Calls Tryd.prog 42 #[.int .u8 c.toNat] w fun e w' => e = .returned (.bool (letterB c)) ∧ w' = w := by
  rw [letter_eqR]
  have hb := hide (fun w => between_any (c.toNat : Int) 97 122 w)
  have hb2 := hide (fun w => between_any (c.toNat : Int) 65 90 w)
  have hc : c.toNat < 256 := UInt8.toNat_lt c
  generalize (decide ((97 : Int) ≤ (c.toNat : Int)) && decide ((c.toNat : Int) ≤ 122)) = b at *
  generalize (decide ((65 : Int) ≤ (c.toNat : Int)) && decide ((c.toNat : Int) ≤ 90)) = b2 at *
  generalize c.toNat = n at *
  cases b
  · go_enter Tryd.func42, Tryd.ntmps42
    go_wp2_with fail
    refine (hb.out _).mono ?_
    rintro e w' ⟨rfl, rfl⟩
    go_wp2_with fail
    refine (hb2.out _).mono ?_
    rintro e w' ⟨rfl, rfl⟩
    go_wp2_with fail
    go_ret
    exact ⟨by simp, rfl⟩
  · go_enter Tryd.func42, Tryd.ntmps42
    go_wp2_with fail
    refine (hb.out _).mono ?_
    rintro e w' ⟨rfl, rfl⟩
    go_wp2_with fail
    go_ret
    exact ⟨by simp, rfl⟩

/-! ### years and months -/
def leapB (y : Nat) : Bool := if y % 100 = 0 then decide (y % 400 = 0) else decide (y % 4 = 0)
set_option maxHeartbeats 2000000 in
theorem year_leap (y : Nat) : yearN y = if leapB y = true then 366 else 365 := by
  unfold yearN aheadN leapB
  by_cases h1 : y % 100 = 0
  · rw [if_pos h1]
    by_cases h2 : y % 400 = 0
    · rw [if_pos (by simp [h2])]; omega
    · rw [if_neg (by simp [h2])]; omega
  · rw [if_neg h1]
    by_cases h2 : y % 4 = 0
    · rw [if_pos (by simp [h2])]; omega
    · rw [if_neg (by simp [h2])]; omega
theorem isLeap_any (y : Nat) (w : World) (hy : y ≤ 10000) : Calls Tryd.prog 44 #[.int .i64 y] w fun e w' => e = .returned (.bool (leapB y)) ∧ w' = w := by
  unfold leapB
  have e1 : ((y : Int) % 100) = ((y % 100 : Nat) : Int) := by omega
  have e2 : ((y : Int) % 400) = ((y % 400 : Nat) : Int) := by omega
  have e3 : ((y : Int) % 4) = ((y % 4 : Nat) : Int) := by omega
  by_cases h : y % 100 = 0
  · rw [if_pos h]
    have h2 : (y : Int) % 100 = 0 := by omega
    have H1 := hide e2
    clear e1 e2 e3
    go_enter Tryd.func44, Tryd.ntmps44
    go_wp2
    go_ret
    refine ⟨ret_bool ?_, rfl⟩
    rw [H1.out, Bool.eq_iff_iff]
    simp
    omega
  · rw [if_neg h]
    have h2 : ¬ (y : Int) % 100 = 0 := by omega
    have H1 := hide e3
    clear e1 e2 e3
    go_enter Tryd.func44, Tryd.ntmps44
    go_wp2
    go_ret
    refine ⟨ret_bool ?_, rfl⟩
    rw [H1.out, Bool.eq_iff_iff]
    simp
    omega
theorem yearLong_any (y : Nat) (w : World) (hy : y ≤ 10000) : Calls Tryd.prog 22 #[.int .i64 y] w fun e w' => e = .returned (.int .i64 (yearN y : Nat)) ∧ w' = w := by
  have hl := hide (fun w => isLeap_any y w hy)
  rw [year_leap]
  generalize leapB y = b at *
  cases b
  all_goals
    go_enter Tryd.func22, Tryd.ntmps22
    go_wp2_with (refine (hl.out _).mono ?_; rintro e w' ⟨rfl, rfl⟩)
    go_ret
    exact ⟨rfl, rfl⟩
theorem month_leap (y m : Nat) : monthN y m = if m = 2 then (if leapB y = true then 29 else 28) else if m = 4 ∨ m = 6 ∨ m = 9 ∨ m = 11 then 30 else 31 := by
  unfold monthN
  rw [year_leap]
  split
  · split <;> rfl
  · rfl
set_option maxHeartbeats 1000000 in
theorem monthLong_any (y m : Nat) (w : World) (hy : y ≤ 10000) (h1 : 1 ≤ m) (h2 : m ≤ 12) : Calls Tryd.prog 23 #[.int .i64 y, .int .i64 m] w fun e w' => e = .returned (.int .i64 (monthN y m : Nat)) ∧ w' = w := by
  have hl := hide (fun w => isLeap_any y w hy)
  rw [month_leap]
  generalize leapB y = b at *
  obtain rfl | rfl | rfl | rfl | rfl | rfl | rfl | rfl | rfl | rfl | rfl | rfl : m = 1 ∨ m = 2 ∨ m = 3 ∨ m = 4 ∨ m = 5 ∨ m = 6 ∨ m = 7 ∨ m = 8 ∨ m = 9 ∨ m = 10 ∨ m = 11 ∨ m = 12 := by omega
  all_goals
    cases b
    all_goals
      go_enter Tryd.func23, Tryd.ntmps23
      go_wp2_with (refine (hl.out _).mono ?_; rintro e w' ⟨rfl, rfl⟩)
      go_ret
      exact ⟨rfl, rfl⟩

/-! ### forms -/
def okC (c f : UInt8) : Bool := if f = 100 then digB c else if f = 97 then letterB c else c == f
def formL : List UInt8 → List UInt8 → Bool
  | [], [] => true
  | c :: s, f :: r => okC c f && formL s r
  | _, _ => false
theorem formL_len : ∀ (s f : List UInt8), formL s f = true → s.length = f.length
  | [], [], _ => rfl
  | c :: s, f :: r, h => by simp only [formL, Bool.and_eq_true] at h; simp [formL_len s r h.2]
  | [], _ :: _, h => by simp [formL] at h
  | _ :: _, [], h => by simp [formL] at h
theorem formL_ne (s f : List UInt8) (h : s.length ≠ f.length) : formL s f = false := by
  cases hb : formL s f
  · rfl
  · exact absurd (formL_len s f hb) h
theorem formL_drop (s f : List UInt8) (k : Nat) (h1 : k < s.length) (h2 : k < f.length) : formL (s.drop k) (f.drop k) = (okC s[k] f[k] && formL (s.drop (k + 1)) (f.drop (k + 1))) := by
  rw [List.drop_eq_getElem_cons h1, List.drop_eq_getElem_cons h2]
  rfl
theorem digR_neg (c : UInt8) : decide (digR c < 0) = !digB c := by
  unfold digR digB
  split
  · next h => rw [h]; simp at h ⊢; omega
  · next h => rw [Bool.not_eq_true] at h; rw [h]; rfl

set_option maxRecDepth 8000 in
set_option maxHeartbeats 4000000 in
theorem form_any (s f : ByteArray) (w : World) (hf : f.size ≤ 3000) :
    Calls Tryd.prog 18 #[.string s, .string f] w fun e w' => e = .returned (.bool (formL s.data.toList f.data.toList)) ∧ ∃ n, w' = w.drewN n := by
  obtain ⟨R, hR⟩ : ∃ R, formL s.data.toList f.data.toList = R := ⟨_, rfl⟩
  rw [hR]
  have HR := hide hR
  clear hR
  have l1 := len_size s
  have l2 := len_size f
  have L1 := hide l1
  have L2 := hide l2
  clear l1 l2
  by_cases hl : s.size = f.size
  · have hne : ((s.size : Int) != (f.size : Int)) = false := by simp [hl]
    have HL := hide hl
    go_enter Tryd.func18, Tryd.ntmps18
    go_wp2_with fail
    go_loopw [5] (fun i wr => ∃ (k m : Nat), k ≤ s.size ∧ i = .int .i64 k ∧ Hid (wr = w.drewN m) ∧ Hid (formL (s.data.toList.drop k) (f.data.toList.drop k) = R)) (fun i _ => s.size - (intOf i).toNat)
    case atStart => exact ⟨0, 0, Nat.zero_le _, rfl, rfl, HR⟩
    case round =>
      obtain ⟨k, m, hk, rfl, hW, hH⟩ := hrel
      clear HR hl hne
      have hfs := HL.out
      by_cases hlt : k < s.size
      · have hlt2 : k < f.size := by omega
        have hH1 := hH.out
        rw [formL_drop _ _ k (by rw [L1.out]; exact hlt) (by rw [L2.out]; exact hlt2)] at hH1
        have ec : s.data.toList[k]'(by rw [L1.out]; exact hlt) = s[k] := by simp [ByteArray.getElem_eq_getElem_data]
        have ef : f.data.toList[k]'(by rw [L2.out]; exact hlt2) = f[k] := by simp [ByteArray.getElem_eq_getElem_data]
        rw [ec, ef] at hH1
        have hdg := hide (fun w => rdigit_any s[k] w)
        have hlt' := hide (fun w => isLetter_any s[k] w)
        have hneg := digR_neg s[k]
        clear ec ef hH
        obtain ⟨Y, hY⟩ : ∃ Y, formL (s.data.toList.drop (k + 1)) (f.data.toList.drop (k + 1)) = Y := ⟨_, rfl⟩
        rw [hY] at hH1
        have HY := hide hY
        clear hY
        by_cases g1 : f[k] = 100
        · have t1 : ((f[k].toNat : Int) == 100) = true := by rw [g1]; rfl
          have ho : okC s[k] f[k] = digB s[k] := by unfold okC; rw [if_pos g1]
          rw [ho] at hH1
          clear ho g1 hlt'
          generalize digR s[k] = v at *
          cases hb : digB s[k]
          · rw [hb] at hH1 hneg
            have hRf : false = R := hH1
            subst hRf
            have hneg2 : decide (v < 0) = true := hneg
            clear hH1 hneg
            go_wp2_with fail
            refine (hdg.out _).mono ?_
            rintro e w' ⟨rfl, h9⟩
            obtain rfl : wr = w' := h9.symm
            go_wp2_with fail
            go_ret
            exact ⟨rfl, m, hW.out⟩
          · rw [hb] at hH1 hneg
            have HH := hide (show Y = R from hH1)
            have hneg2 : decide (v < 0) = false := hneg
            clear hH1 hneg
            go_wp2_with fail
            refine (hdg.out _).mono ?_
            rintro e w' ⟨rfl, h9⟩
            obtain rfl : wr = w' := h9.symm
            go_wp2_with fail
            go_roundw
            case rel => exact ⟨k + 1, m, by omega, by go_num, hW, by rw [Hid, HY.out]; exact HH.out⟩
            case measure => simp [intOf]; omega
        · have t1 : ((f[k].toNat : Int) == 100) = false := by
            rw [beq_eq_false_iff_ne]
            intro h
            exact g1 (UInt8.toNat_inj.1 (by have : (100 : UInt8).toNat = 100 := rfl; omega))
          by_cases g2 : f[k] = 97
          · have t2 : ((f[k].toNat : Int) == 97) = true := by rw [g2]; rfl
            have ho : okC s[k] f[k] = letterB s[k] := by unfold okC; rw [if_neg g1, if_pos g2]
            rw [ho] at hH1
            clear ho g1 g2 hdg hneg
            generalize letterB s[k] = bb at *
            cases bb
            · have hRf : false = R := hH1
              subst hRf
              clear hH1
              go_wp2_with fail
              refine (hlt'.out _).mono ?_
              rintro e w' ⟨rfl, h9⟩
              obtain rfl : wr = w' := h9.symm
              go_wp2_with fail
              go_ret
              exact ⟨rfl, m, hW.out⟩
            · have HH := hide (show Y = R from hH1)
              clear hH1
              go_wp2_with fail
              refine (hlt'.out _).mono ?_
              rintro e w' ⟨rfl, h9⟩
              obtain rfl : wr = w' := h9.symm
              go_wp2_with fail
              go_roundw
              case rel => exact ⟨k + 1, m, by omega, by go_num, hW, by rw [Hid, HY.out]; exact HH.out⟩
              case measure => simp [intOf]; omega
          · have t2 : ((f[k].toNat : Int) == 97) = false := by
              rw [beq_eq_false_iff_ne]
              intro h
              exact g2 (UInt8.toNat_inj.1 (by have : (97 : UInt8).toNat = 97 := rfl; omega))
            have ho : okC s[k] f[k] = (s[k] == f[k]) := by unfold okC; rw [if_neg g1, if_neg g2]
            rw [ho] at hH1
            clear ho g1 g2 hdg hneg hlt'
            by_cases g3 : s[k] = f[k]
            · have t3 : ((s[k].toNat : Int) != (f[k].toNat : Int)) = false := by rw [g3]; simp
              have HH := hide (show Y = R from by rw [g3] at hH1; simpa using hH1)
              clear hH1 g3
              go_wp2_with fail
              go_quiet (fail)
              go_wp2_with fail
              go_roundw
              case rel => exact ⟨k + 1, m + nq, by omega, by go_num, (by rw [Hid, hW.out]; simp), by rw [Hid, HY.out]; exact HH.out⟩
              case measure => simp [intOf]; omega
            · have t3 : ((s[k].toNat : Int) != (f[k].toNat : Int)) = true := by
                rw [bne_iff_ne]
                intro h
                exact g3 (UInt8.toNat_inj.1 (by omega))
              have hRf : false = R := by
                have : (s[k] == f[k]) = false := by simpa using g3
                rw [this] at hH1
                exact hH1
              subst hRf
              clear hH1 g3
              go_wp2_with fail
              go_quiet (fail)
              go_wp2_with fail
              go_ret
              exact ⟨rfl, m + nq, by rw [hW.out]; simp⟩
      · have hRt : true = R := by
          have := hH.out
          rw [List.drop_eq_nil_of_le (by rw [L1.out]; omega), List.drop_eq_nil_of_le (by rw [L2.out]; omega)] at this
          exact this
        subst hRt
        clear hH
        go_wp2_with fail
        go_ret
        exact ⟨rfl, m, hW.out⟩
  · have hne : ((s.size : Int) != (f.size : Int)) = true := by simp; omega
    have hRf : false = R := by
      rw [← HR.out]
      exact (formL_ne _ _ (by rw [L1.out, L2.out]; exact hl)).symm
    subst hRf
    clear HR
    go_enter Tryd.func18, Tryd.ntmps18
    go_wp2_with fail
    go_ret
    exact ⟨rfl, 0, rfl⟩

/-! ### numbers -/
def nmL (l : List UInt8) : Nat := l.foldl (fun a c => a * 10 + (c.toNat - 48)) 0
theorem nmL_snoc (l : List UInt8) (c : UInt8) : nmL (l ++ [c]) = nmL l * 10 + (c.toNat - 48) := by simp [nmL]
theorem fold_lt (l : List UInt8) (a : Nat) (h : ∀ c ∈ l, digB c = true) : l.foldl (fun a c => a * 10 + (c.toNat - 48)) a < (a + 1) * 10 ^ l.length := by
  induction l generalizing a with
  | nil => simp
  | cons c l ih =>
    have hc := h c (by simp)
    simp [digB] at hc
    have h1 := ih (a * 10 + (c.toNat - 48)) (fun d hd => h d (by simp [hd]))
    rw [List.foldl_cons, List.length_cons, Nat.pow_succ]
    refine Nat.lt_of_lt_of_le h1 ?_
    rw [Nat.mul_comm (10 ^ l.length) 10, ← Nat.mul_assoc]
    exact Nat.mul_le_mul_right _ (by omega)
theorem nmL_lt (l : List UInt8) (h : ∀ c ∈ l, digB c = true) : nmL l < 10 ^ l.length := by
  have := fold_lt l 0 h
  simpa [nmL] using this
set_option maxRecDepth 8000 in
set_option maxHeartbeats 2000000 in
theorem rnumber_any (s : ByteArray) (w : World) (hs : s.size ≤ 4) (hd : ∀ c ∈ s.data.toList, digB c = true) :
    Calls Tryd.prog 21 #[.string s] w fun e w' => e = .returned (.int .i64 (nmL s.data.toList : Nat)) ∧ w' = w := by
  have L1 := hide (len_size s)
  have HD := hide hd
  clear hd
  go_enter Tryd.func21, Tryd.ntmps21
  go_wp2_with fail
  go_loopw [3, 4] (fun v i wr => ∃ (k : Nat), k ≤ s.size ∧ i = .int .i64 k ∧ v = .int .i64 (nmL (s.data.toList.take k) : Nat) ∧ w = wr) (fun _ i _ => s.size - (intOf i).toNat)
  case atStart => exact ⟨0, Nat.zero_le _, rfl, rfl, rfl⟩
  case round =>
    obtain ⟨k, hk, rfl, rfl, rfl⟩ := hrel
    by_cases hlt : k < s.size
    · have hkl : k < s.data.toList.length := by rw [L1.out]; exact hlt
      have ec : s.data.toList[k] = s[k] := by simp [ByteArray.getElem_eq_getElem_data]
      have hdk : digB s[k] = true := by rw [← ec]; exact HD.out _ (List.getElem_mem hkl)
      have hst := hide (show nmL (s.data.toList.take (k + 1)) = nmL (s.data.toList.take k) * 10 + (s[k].toNat - 48) from by
        rw [List.take_succ_eq_append_getElem hkl, nmL_snoc, ec])
      have hb : nmL (s.data.toList.take k) < 10 ^ 4 := by
        have h1 := nmL_lt (s.data.toList.take k) (fun c hc => HD.out c (List.mem_of_mem_take hc))
        rw [List.length_take, L1.out] at h1
        exact Nat.lt_of_lt_of_le h1 (Nat.pow_le_pow_right (by omega) (by omega))
      have hv : digR s[k] = (s[k].toNat : Int) - 48 := by unfold digR; rw [if_pos hdk]
      have hdg := hide (fun w => rdigit_any s[k] w)
      rw [hv] at hdg
      have hcc : 48 ≤ s[k].toNat ∧ s[k].toNat ≤ 57 := by simpa [digB] using hdk
      obtain ⟨hc1, hc2⟩ := hcc
      clear hv hdk ec
      generalize nmL (s.data.toList.take k) = u at *
      go_wp2_with fail
      refine (hdg.out _).mono ?_
      rintro e w' ⟨rfl, h9⟩
      obtain rfl : w = w' := h9.symm
      go_wp2_with fail
      go_roundw
      case rel => exact ⟨k + 1, by omega, by go_num, by rw [hst.out]; exact congrArg (Value.int .i64) (by omega), trivial⟩
      case measure => simp [intOf]; omega
    · obtain rfl : k = s.size := by omega
      have e1 : s.data.toList.take s.size = s.data.toList := List.take_of_length_le (by rw [L1.out]; exact Nat.le_refl _)
      rw [e1]
      obtain ⟨u, hu⟩ : ∃ u, nmL s.data.toList = u := ⟨_, rfl⟩
      have HU := hide hu
      rw [hu]
      clear hu
      go_wp2_with fail
      go_ret
      exact ⟨by rw [HU.out]; rfl, rfl⟩
end Go.Proofs.YtngojdajamgabadDoor
