/- Names of elements that close others; innermost, closedBy. -/
import Derived.Test.YtngojdajamgababGreatSame
namespace Go.Proofs.YtngojdajamgababGreat
open Go.RowKit Go.Maps

def emptyN (n : List UInt8) : Bool := (n == [98, 114]) || (n == [104, 114]) || (n == [105, 109, 103])
def listN (n : List UInt8) : Bool := (n == [117, 108]) || (n == [111, 108])
def wallN (n : List UInt8) : Bool := listN n || (n == [108, 105]) || (n == [98, 108, 111, 99, 107, 113, 117, 111, 116, 101])
def blockN (n : List UInt8) : Bool := wallN n || (n == [112]) || (n == [104, 114])

theorem nameEq (L l : List UInt8) : ((⟨L.toArray⟩ : ByteArray).toList == l) = (L == l) := by rw [ByteArray.toList_eq]

set_option maxHeartbeats 1000000 in
theorem isEmpty_any (n : List UInt8) (w : World) : Calls Tryz.prog 51 #[.string ⟨n.toArray⟩] w fun e w' => e = .returned (.bool (emptyN n)) ∧ w' = w := by
  unfold emptyN
  cases h1 : (n == [98, 114]) <;> cases h2 : (n == [104, 114]) <;> cases h3 : (n == [105, 109, 103])
  all_goals
    have p1 := (nameEq n _).trans h1
    have p2 := (nameEq n _).trans h2
    have p3 := (nameEq n _).trans h3
    go_enter Tryz.func51, Tryz.ntmps51
    go_wp2_with fail
    go_ret
    exact ⟨rfl, rfl⟩

set_option maxHeartbeats 1000000 in
theorem isList_any (n : List UInt8) (w : World) : Calls Tryz.prog 80 #[.string ⟨n.toArray⟩] w fun e w' => e = .returned (.bool (listN n)) ∧ w' = w := by
  unfold listN
  cases h1 : (n == [117, 108]) <;> cases h2 : (n == [111, 108])
  all_goals
    have p1 := (nameEq n _).trans h1
    have p2 := (nameEq n _).trans h2
    go_enter Tryz.func80, Tryz.ntmps80
    go_wp2_with fail
    go_ret
    exact ⟨rfl, rfl⟩

set_option maxHeartbeats 1000000 in
theorem isWall_any (n : List UInt8) (w : World) : Calls Tryz.prog 78 #[.string ⟨n.toArray⟩] w fun e w' => e = .returned (.bool (wallN n)) ∧ w' = w := by
  have hc := hide (fun w => isList_any n w)
  unfold wallN
  generalize listN n = b at *
  cases b <;> cases h2 : (n == [108, 105]) <;> cases h3 : (n == [98, 108, 111, 99, 107, 113, 117, 111, 116, 101])
  all_goals
    have p2 := (nameEq n _).trans h2
    have p3 := (nameEq n _).trans h3
    go_enter Tryz.func78, Tryz.ntmps78
    go_wp2_with (go_at_call 80; refine (hc.out _).mono ?_; rintro e w' ⟨rfl, rfl⟩)
    go_ret
    exact ⟨rfl, rfl⟩

set_option maxHeartbeats 1000000 in
theorem isBlock_any (n : List UInt8) (w : World) : Calls Tryz.prog 76 #[.string ⟨n.toArray⟩] w fun e w' => e = .returned (.bool (blockN n)) ∧ w' = w := by
  have hc := hide (fun w => isWall_any n w)
  unfold blockN
  generalize wallN n = b at *
  cases b <;> cases h2 : (n == [112]) <;> cases h3 : (n == [104, 114])
  all_goals
    have p2 := (nameEq n _).trans h2
    have p3 := (nameEq n _).trans h3
    go_enter Tryz.func76, Tryz.ntmps76
    go_wp2_with (go_at_call 78; refine (hc.out _).mono ?_; rintro e w' ⟨rfl, rfl⟩)
    go_ret
    exact ⟨rfl, rfl⟩

theorem isP_any (n : List UInt8) (w : World) : Calls Tryz.prog 77 #[.string ⟨n.toArray⟩] w fun e w' => e = .returned (.bool (n == [112])) ∧ w' = w := by
  cases h1 : (n == [112])
  all_goals
    have p1 := (nameEq n _).trans h1
    go_enter Tryz.func77, Tryz.ntmps77
    go_wp2_with fail
    go_ret
    exact ⟨rfl, rfl⟩

theorem isLi_any (n : List UInt8) (w : World) : Calls Tryz.prog 79 #[.string ⟨n.toArray⟩] w fun e w' => e = .returned (.bool (n == [108, 105])) ∧ w' = w := by
  cases h1 : (n == [108, 105])
  all_goals
    have p1 := (nameEq n _).trans h1
    go_enter Tryz.func79, Tryz.ntmps79
    go_wp2_with fail
    go_ret
    exact ⟨rfl, rfl⟩

theorem never_any (n : List UInt8) (w : World) : Calls Tryz.prog 55 #[.string ⟨n.toArray⟩] w fun e w' => e = .returned (.bool false) ∧ w' = w := by
  go_enter Tryz.func55, Tryz.ntmps55
  go_wp2_with fail
  go_ret
  exact ⟨rfl, rfl⟩

theorem isName1_any (n m : List UInt8) (b : Nat) (w : World) (hc : w.cell? ⟨b, 0, none⟩ = some (.string ⟨m.toArray⟩)) :
    Calls Tryz.prog 54 #[.string ⟨n.toArray⟩, .pointer (some ⟨b, 0, none⟩)] w fun e w' => e = .returned (.bool (n == m)) ∧ w' = w := by
  have p0 : ((⟨n.toArray⟩ : ByteArray).toList == (⟨m.toArray⟩ : ByteArray).toList) = (n == m) := by rw [ByteArray.toList_eq, ByteArray.toList_eq]
  cases h1 : (n == m)
  all_goals
    have p1 := p0.trans h1
    clear p0
    go_enter Tryz.func54, Tryz.ntmps54
    go_wp2_with fail
    go_ret
    exact ⟨rfl, rfl⟩

/-! ### innermost -/
/-- Nodes whose names are these lie in a row. -/
def Named (w : World) (v : Value) (ns : List (List UInt8)) : Prop :=
  ∃ a c, v = .slice a ns.length c ∧ ns.length ≤ c ∧ c ≤ maxLen ∧ ∀ i (h : i < ns.length), ∃ g x, a = some ⟨g, x, none⟩ ∧ w.cell? ⟨g, x + i * 4, none⟩ = some (.string ⟨ns[i].toArray⟩)

/-- The place of the innermost one that is looked for, of the first i ones. -/
def innerTo (is hides : List UInt8 → Bool) (ns : List (List UInt8)) : Nat → Nat
  | 0 => ns.length
  | i + 1 => if is (ns.getD i []) = true then i else if hides (ns.getD i []) = true then ns.length else innerTo is hides ns i
def innerL (is hides : List UInt8 → Bool) (ns : List (List UInt8)) : Nat := innerTo is hides ns ns.length

theorem innerTo_le (is hides : List UInt8 → Bool) (ns : List (List UInt8)) : ∀ i, i ≤ ns.length → innerTo is hides ns i ≤ ns.length
  | 0, _ => Nat.le_refl _
  | i + 1, h => by
    unfold innerTo
    split
    · omega
    · split
      · exact Nat.le_refl _
      · exact innerTo_le is hides ns i (by omega)

set_option maxRecDepth 4000 in
set_option maxHeartbeats 4000000 in
theorem innermost_any (K1 K2 : Nat) (caps1 caps2 : Array Value) (is hides : List UInt8 → Bool) (w : World) (v : Value) (ns : List (List UInt8)) (h : Named w v ns) (hK1 : Enters K1) (hK2 : Enters K2)
    (h1 : ∀ n : List UInt8, Calls Tryz.prog K1 (#[.string ⟨n.toArray⟩] ++ caps1) w fun e w' => e = .returned (.bool (is n)) ∧ w' = w)
    (h2 : ∀ n : List UInt8, Calls Tryz.prog K2 (#[.string ⟨n.toArray⟩] ++ caps2) w fun e w' => e = .returned (.bool (hides n)) ∧ w' = w) :
    Calls Tryz.prog 53 #[v, .func (.func K1) #[] caps1, .func (.func K2) #[] caps2] w fun e w' => e = .returned (.int .i64 (innerL is hides ns)) ∧ w' = w := by
  obtain ⟨a, c, rfl, hc1, hc2, hcell⟩ := h
  unfold maxLen at hc2
  unfold Enters at hK1 hK2
  obtain ⟨R, hR⟩ : ∃ R, innerL is hides ns = R := ⟨_, rfl⟩
  rw [hR]
  have HR := hide hR
  clear hR
  have H1 := hide h1
  have H2 := hide h2
  have HC := hide hcell
  clear h1 h2 hcell
  go_enter Tryz.func53, Tryz.ntmps53
  go_wp2_with fail
  go_loopw [7] (fun i wr => ∃ k : Nat, k ≤ ns.length ∧ i = .int .i64 ((k : Int) - 1) ∧ w = wr ∧ Hid (innerTo is hides ns k = R)) (fun i _ => (intOf i + 1).toNat)
  case atStart => exact ⟨ns.length, Nat.le_refl _, rfl, rfl, HR⟩
  case round =>
    obtain ⟨k, hk, rfl, rfl, hH⟩ := hrel
    clear HR
    cases k with
    | zero =>
      have hRe : R = ns.length := hH.out.symm
      subst hRe
      clear hH
      go_wp2_with fail
      go_ret
      exact ⟨rfl, rfl⟩
    | succ i =>
      obtain ⟨g, x, rfl, hx⟩ := HC.out i (by omega)
      have hge : decide ((0 : Int) ≤ (i : Int)) = true := by simp
      have e1 : ((i + 1 : Nat) : Int) - 1 = i := by omega
      rw [e1]
      have hS := hH.out
      unfold innerTo at hS
      have hg : ns.getD i [] = ns[i] := by simp [List.getD, List.getElem?_eq_getElem (show i < ns.length by omega)]
      rw [hg] at hS
      have HS := hide hS
      have C1 := hide (H1.out ns[i])
      have C2 := hide (H2.out ns[i])
      clear hS hH hg e1
      generalize ns[i] = n at *
      cases hi : is n
      · rw [hi] at C1 HS
        cases hh : hides n
        · rw [hh] at C2 HS
          have HS2 : Hid (innerTo is hides ns i = R) := by have := HS.out; rw [Hid]; simpa using this
          clear HS hi hh
          go_wp2_with fail
          refine C1.out.mono ?_
          rintro e w1 ⟨rfl, rfl⟩
          go_wp2_with fail
          refine C2.out.mono ?_
          rintro e w2 ⟨rfl, rfl⟩
          go_wp2_with fail
          go_roundw
          case rel => exact ⟨i, by omega, by go_num, by first | rfl | trivial, HS2⟩
          case measure => simp [intOf]
        · rw [hh] at C2 HS
          have hRe : R = ns.length := by have := HS.out; simpa using this.symm
          subst hRe
          clear HS hi hh
          go_wp2_with fail
          refine C1.out.mono ?_
          rintro e w1 ⟨rfl, rfl⟩
          go_wp2_with fail
          refine C2.out.mono ?_
          rintro e w2 ⟨rfl, rfl⟩
          go_wp2_with fail
          go_ret
          exact ⟨rfl, rfl⟩
      · rw [hi] at C1 HS
        have hRe : R = i := by have := HS.out; simpa using this.symm
        subst hRe
        clear HS hi
        go_wp2_with fail
        refine C1.out.mono ?_
        rintro e w1 ⟨rfl, rfl⟩
        go_wp2_with fail
        go_ret
        exact ⟨rfl, rfl⟩

/-! ### closedBy -/
theorem enters77 : Enters 77 := enters_of Tryz.func77 (by kernel_rfl) (by kernel_rfl)
theorem enters78 : Enters 78 := enters_of Tryz.func78 (by kernel_rfl) (by kernel_rfl)
theorem enters79 : Enters 79 := enters_of Tryz.func79 (by kernel_rfl) (by kernel_rfl)
theorem enters80 : Enters 80 := enters_of Tryz.func80 (by kernel_rfl) (by kernel_rfl)
theorem enters54 : Enters 54 := enters_of Tryz.func54 (by kernel_rfl) (by kernel_rfl)
theorem enters55 : Enters 55 := enters_of Tryz.func55 (by kernel_rfl) (by kernel_rfl)

theorem Named.take {w : World} {a : Option Addr} {n c : Nat} {ns : List (List UInt8)} (h : Named w (.slice a n c) ns) {m : Nat} (hm : m ≤ ns.length) : Named w (.slice a m c) (ns.take m) := by
  obtain ⟨a', c', he, h1, h2, h3⟩ := h
  simp only [Value.slice.injEq] at he
  obtain ⟨rfl, rfl, rfl⟩ := he
  refine ⟨a, c, by rw [List.length_take, Nat.min_eq_left hm], by rw [List.length_take]; omega, h2, fun i hi => ?_⟩
  rw [List.length_take] at hi
  obtain ⟨g, x, e, hx⟩ := h3 i (by omega)
  exact ⟨g, x, e, by rw [List.getElem_take]; exact hx⟩

/-- Where an element of this name closes others from. -/
def closedL (ns : List (List UInt8)) (n : List UInt8) : Nat :=
  if n = [108, 105] then innerL (· == [108, 105]) listN (ns.take (if blockN n = true then innerL (· == [112]) wallN ns else ns.length))
  else if blockN n = true then innerL (· == [112]) wallN ns else ns.length

set_option maxRecDepth 4000 in
set_option maxHeartbeats 4000000 in
theorem closedBy_any (w : World) (v : Value) (ns : List (List UInt8)) (n : List UInt8) (h : Named w v ns) :
    Calls Tryz.prog 48 #[v, .string ⟨n.toArray⟩] w fun e w' => e = .returned (.int .i64 (closedL ns n)) ∧ w' = w := by
  have hb := hide (fun w => isBlock_any n w)
  have hp := hide (innermost_any 77 78 #[] #[] (· == [112]) wallN w v ns h enters77 enters78 (fun n => isP_any n w) (fun n => isWall_any n w))
  have hle : innerL (· == [112]) wallN ns ≤ ns.length := innerTo_le _ _ _ _ (Nat.le_refl _)
  obtain ⟨F, hF⟩ : ∃ F, (if blockN n = true then innerL (· == [112]) wallN ns else ns.length) = F := ⟨_, rfl⟩
  have hFl : F ≤ ns.length := by rw [← hF]; split <;> omega
  obtain ⟨a, c, rfl, hc1, hc2, hcell⟩ := id h
  have hl := hide (innermost_any 79 80 #[] #[] (· == [108, 105]) listN w (.slice a F c) (ns.take F) (h.take hFl) enters79 enters80 (fun n => isLi_any n w) (fun n => isList_any n w))
  unfold closedL
  rw [hF]
  have hbl : n = [108, 105] → blockN n = true := fun e => by subst e; rfl
  unfold maxLen at hc2
  have HF := hide hF
  clear hF hcell h
  generalize innerL (· == [108, 105]) listN (ns.take F) = L at *
  generalize innerL (· == [112]) wallN ns = Q at *
  cases hbk : blockN n
  · have hne : n ≠ [108, 105] := fun e => by have := hbl e; rw [hbk] at this; simp at this
    have e1 : (n == [108, 105]) = false := by simpa using hne
    have e2 := (nameEq n _).trans e1
    rw [hbk] at hb
    rw [if_neg hne]
    have hFn : F = ns.length := by rw [← HF.out, hbk]; simp
    subst hFn
    clear hbk hbl HF hl hp hne hFl
    go_enter Tryz.func48, Tryz.ntmps48
    go_wp2_with fail
    refine (hb.out _).mono ?_
    rintro e w1 ⟨rfl, rfl⟩
    go_wp2_with fail
    go_ret
    exact ⟨rfl, rfl⟩
  · rw [hbk] at hb
    have hFQ : F = Q := by rw [← HF.out, hbk]; simp
    subst hFQ
    by_cases hli : n = [108, 105]
    · have e1 : (n == [108, 105]) = true := by simpa using hli
      have e2 := (nameEq n _).trans e1
      rw [if_pos hli]
      clear hbk hbl HF hli
      go_enter Tryz.func48, Tryz.ntmps48
      go_wp2_with fail
      refine (hb.out _).mono ?_
      rintro e w1 ⟨rfl, h1⟩
      obtain rfl : w = w1 := h1.symm
      go_wp2_with fail
      refine hp.out.mono ?_
      rintro e w1 ⟨rfl, h1⟩
      obtain rfl : w = w1 := h1.symm
      go_wp2_with fail
      refine hl.out.mono ?_
      rintro e w1 ⟨rfl, h1⟩
      obtain rfl : w = w1 := h1.symm
      go_wp2_with fail
      go_ret
      exact ⟨rfl, rfl⟩
    · have e1 : (n == [108, 105]) = false := by simpa using hli
      have e2 := (nameEq n _).trans e1
      rw [if_neg hli]
      clear hbk hbl HF hli hl
      go_enter Tryz.func48, Tryz.ntmps48
      go_wp2_with fail
      refine (hb.out _).mono ?_
      rintro e w1 ⟨rfl, h1⟩
      obtain rfl : w = w1 := h1.symm
      go_wp2_with fail
      refine hp.out.mono ?_
      rintro e w1 ⟨rfl, h1⟩
      obtain rfl : w = w1 := h1.symm
      go_wp2_with fail
      go_ret
      exact ⟨rfl, rfl⟩
end Go.Proofs.YtngojdajamgababGreat
