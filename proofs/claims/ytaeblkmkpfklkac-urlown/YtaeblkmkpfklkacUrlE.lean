/- The last / of a path, and its first part. -/
import Derived.Test.YtaeblkmkpfklkacUrlD
import Derived.Lib.IndexLaws
namespace Go.Proofs.Ytaeblkmkpfklkac
open Go.RowKit

/-- Where the last / stands; -1: nowhere. -/
def LastAt (l : List UInt8) (i : Int) : Prop := (i = -1 ∧ ∀ d ∈ l, d ≠ 47) ∨ ∃ k : Nat, i = k ∧ ∃ h : k < l.length, l[k] = 47 ∧ ∀ j (hj : j < l.length), k < j → l[j] ≠ 47

theorem LastAt.split {l : List UInt8} {k : Nat} (h : k < l.length) (h1 : l[k] = 47) (h2 : ∀ j (hj : j < l.length), k < j → l[j] ≠ 47) : l = l.take k ++ 47 :: l.drop (k + 1) ∧ ∀ d ∈ l.drop (k + 1), d ≠ 47 := by
  refine ⟨?_, ?_⟩
  · rw [← h1, List.getElem_cons_drop, List.take_append_drop]
  · intro d hd
    obtain ⟨j, hj, rfl⟩ := List.getElem_of_mem hd
    rw [List.getElem_drop]
    exact h2 _ _ (by omega)

theorem LastAt.cut {l : List UInt8} {i : Int} (h : LastAt l i) : cutLast l = l.take (max i 0).toNat ∧ (max i 0).toNat ≤ l.length := by
  rcases h with ⟨rfl, hn⟩ | ⟨k, rfl, hk, h1, h2⟩
  · rw [cutLast_none l hn]
    exact ⟨rfl, Nat.zero_le _⟩
  · obtain ⟨e, hn⟩ := LastAt.split hk h1 h2
    have : cutLast l = l.take k := by
      conv => lhs; rw [e]
      exact cutLast_at _ _ hn
    rw [this]
    have e2 : (max (k : Int) 0).toNat = k := by omega
    rw [e2]
    exact ⟨rfl, by omega⟩

theorem LastAt.up {l : List UInt8} {i : Int} (h : LastAt l i) : upSl l = l.take (i + 1).toNat ∧ -1 ≤ i ∧ i < l.length := by
  rcases h with ⟨rfl, hn⟩ | ⟨k, rfl, hk, h1, h2⟩
  · rw [upSl_none l hn]; simp; omega
  · obtain ⟨e, hn⟩ := LastAt.split hk h1 h2
    have : upSl l = l.take (k + 1) := by
      conv => lhs; rw [e]
      rw [upSl_at _ _ hn, List.take_succ_eq_append_getElem hk, h1]
    rw [this]
    have e2 : ((k : Int) + 1).toNat = k + 1 := by omega
    rw [e2]
    exact ⟨rfl, by omega, by omega⟩

theorem index_tw : ∀ l : List UInt8, (Lib.indexByte l 47 = -1 ∧ l.takeWhile noSl = l) ∨ (Lib.indexByte l 47 = (l.takeWhile noSl).length ∧ (l.takeWhile noSl).length < l.length)
  | [] => .inl ⟨rfl, rfl⟩
  | c :: l => by
    unfold Lib.indexByte
    by_cases h : c = 47
    · subst h
      right
      simp [noSl]
    · have hb : (c == 47) = false := by simpa using h
      have hn : noSl c = true := by simpa [noSl] using h
      rw [hb]
      rcases index_tw l with ⟨e1, e2⟩ | ⟨e1, e2⟩
      · left
        rw [e1]
        simp [hn, e2]
      · right
        rw [e1]
        have : (((l.takeWhile noSl).length : Int) == -1) = false := by simp
        rw [this]
        simp [hn]
        try omega

theorem first_index (l : List UInt8) (h : l ≠ []) : (Lib.indexByte (l.drop 1) 47 < 0 ∧ firstL l = l.length) ∨ (∃ k : Nat, Lib.indexByte (l.drop 1) 47 = k ∧ firstL l = k + 1) := by
  have hp := List.length_pos_iff.2 h
  unfold firstL
  rcases index_tw (l.drop 1) with ⟨e1, e2⟩ | ⟨e1, e2⟩
  · left
    rw [e1, e2, List.length_drop]
    exact ⟨by omega, by omega⟩
  · right
    exact ⟨_, e1, by omega⟩

theorem enters48 : Enters 48 := enters_of Try.func48 (by kernel_rfl) (by kernel_rfl)

set_option maxHeartbeats 1000000 in
theorem firstPart_any (X : ByteArray) (w : World) (h0 : 0 < X.size) (hX : X.size ≤ 100000) :
    Calls Try.prog 34 #[.string X] w fun e w' => e = .returned (.int .i64 (firstL X.data.toList)) ∧ w' = w := by
  have hi := hide (fun w => Try.strings_IndexByte (X.extract 1 X.size) 47 w)
  have e47 : (47 : Int).toNat.toUInt8 = 47 := by decide
  rw [Lib.extract_to_end, e47] at hi
  have hne : X.data.toList ≠ [] := by
    intro h
    have := len_size X
    rw [h] at this
    simp at this
    omega
  have hl := len_size X
  rcases first_index X.data.toList hne with ⟨h1, h2⟩ | ⟨k, h1, h2⟩
  · rw [h2, hl]
    generalize Lib.indexByte (X.data.toList.drop 1) 47 = i at *
    have hd : decide (i < 0) = true := by simpa using h1
    clear h2 hne hl
    go_enter Try.func34, Try.ntmps34
    go_wp2_with (go_at_call 48; refine (hi.out _).mono ?_; rintro e w' ⟨rfl, rfl⟩)
    go_ret
    exact ⟨by simp, rfl⟩
  · have hk := firstL_le _ hne
    rw [h2, hl] at hk
    rw [h2]
    rw [h1] at hi
    clear h2 hne h1 hl
    go_enter Try.func34, Try.ntmps34
    go_wp2_with (go_at_call 48; refine (hi.out _).mono ?_; rintro e w' ⟨rfl, rfl⟩)
    go_ret
    exact ⟨by simp, rfl⟩

set_option maxHeartbeats 2000000 in
theorem lastIndex_any (v : Value) (B : Nat) (l : List UInt8) (w : World) (h : w.ownsRow B 5 1 v l.length (Lib.byteCells l)) (hl : l.length ≤ 100000) :
    Calls Try.prog 59 #[v, .int .u8 47] w fun e w' => (∃ i, e = .returned (.int .i64 i) ∧ LastAt l i) ∧ w' = w := by
  obtain ⟨o, c, hv⟩ := row_form h
  subst hv
  go_enter Try.func59, Try.ntmps59
  go_wp2_with fail
  go_loopw [5] (fun i wr => ∃ k : Nat, k ≤ l.length ∧ i = .int .i64 ((k : Int) - 1) ∧ wr = w ∧ Hid (∀ j (hj : j < l.length), k ≤ j → l[j] ≠ 47)) (fun i _ => ((intOf i) + 1).toNat)
  case atStart => exact ⟨l.length, Nat.le_refl _, rfl, rfl, fun j hj h => by omega⟩
  case round =>
    obtain ⟨k, hk, rfl, rfl, hH⟩ := hrel
    by_cases h0 : k = 0
    · subst h0
      go_wp2_with fail
      go_ret
      exact ⟨⟨_, rfl, .inl ⟨rfl, fun d hd => by
        obtain ⟨j, hj, rfl⟩ := List.getElem_of_mem hd
        exact hH.out j hj (Nat.zero_le _)⟩⟩, rfl⟩
    · obtain ⟨m, rfl⟩ : ∃ m, k = m + 1 := ⟨k - 1, by omega⟩
      have e1 : (((m + 1 : Nat) : Int) - 1) = (m : Int) := by omega
      rw [e1]
      have hm : m < l.length := by omega
      rcases h.2 with ⟨he, h0'⟩ | ⟨g, cap, cur, he, _⟩
      · omega
      simp only [Value.slice.injEq] at he
      obtain ⟨rfl, _, rfl⟩ := he
      have hc := h.cells (g := g) rfl m (.int .u8 (l[m].toNat : Int)) (by simp [Lib.byteCells, hm])
      rw [add_zero] at hc
      have HH := hide h
      cases hb : ((l[m].toNat : Int) == 47)
      · have hne : l[m] ≠ 47 := by
          rw [← (beq_at rfl : (l[m] == 47) = ((l[m].toNat : Int) == 47))] at hb
          simpa using hb
        have HN : Hid (∀ j (hj : j < l.length), m ≤ j → l[j] ≠ 47) := fun j hj hmj => by
          rcases Nat.lt_or_ge m j with h' | h'
          · exact hH.out j hj (by omega)
          · have : j = m := by omega
            subst this
            exact hne
        clear hne hH h e1
        generalize l[m] = d at *
        go_wp2_with fail
        go_roundw
        case rel => exact ⟨m, by omega, by go_num, by first | rfl | trivial, HN⟩
        case measure => simp [intOf] <;> omega
      · have heq : l[m] = 47 := by
          rw [← (beq_at rfl : (l[m] == 47) = ((l[m].toNat : Int) == 47))] at hb
          simpa using hb
        have HQ := hide heq
        clear heq h e1
        go_wp2_with fail
        go_ret
        exact ⟨⟨_, rfl, .inr ⟨m, rfl, hm, HQ.out, fun j hj h' => hH.out j hj h'⟩⟩, rfl⟩

theorem bytesLast_any (v : Value) (B : Nat) (l : List UInt8) (w : World) (h : w.ownsRow B 5 1 v l.length (Lib.byteCells l)) (hl : l.length ≤ 100000) :
    Calls Try.prog 53 #[v, .int .u8 47] w fun e w' => (∃ i, e = .returned (.int .i64 i) ∧ LastAt l i) ∧ w' = w := by
  have hh := hide (lastIndex_any v B l w h hl)
  clear h
  go_enter Try.func53, Try.ntmps53
  go_wp2_with fail
  refine hh.out.mono ?_
  rintro e w1 ⟨⟨i, rfl, hi⟩, rfl⟩
  go_wp2_with fail
  go_ret
  exact ⟨⟨i, by simp, hi⟩, rfl⟩

theorem row_take {w : World} {B : Nat} {g cap : Nat} {l : List UInt8} (h : w.ownsRow B 5 1 (.slice (some ⟨g, 0, none⟩) l.length cap) l.length (Lib.byteCells l)) (m : Nat) (hm : m ≤ l.length) :
    w.ownsRow B 5 1 (.slice (some ⟨g, 0, none⟩) m cap) (l.take m).length (Lib.byteCells (l.take m)) := by
  rcases h.2 with ⟨h1, _⟩ | ⟨g', cap', cur, he, h2, h3, h4, h5, h6, h7⟩
  · simp at h1
  · simp at he
    obtain ⟨rfl, rfl⟩ := he
    have e1 : (l.take m).length = m := by simp; omega
    refine ⟨by rw [Lib.byteCells_length]; omega, .inr ⟨g, cap, cur, by rw [e1], h2, h3, by rw [e1]; omega, h5, h6, ?_⟩⟩
    rw [e1]
    simp only [Nat.mul_one] at h7 ⊢
    have : cur.toList.take m = (cur.toList.take l.length).take m := by rw [List.take_take, Nat.min_eq_left hm]
    rw [this, h7]
    simp [Lib.byteCells]

set_option maxHeartbeats 1000000 in
/-- A path without its last /, and what is behind it. -/
theorem withoutLast_any (v : Value) (B : Nat) (l : List UInt8) (w : World) (h : w.ownsRow B 5 1 v l.length (Lib.byteCells l)) (hl : l.length ≤ 100000) :
    Calls Try.prog 33 #[v] w fun e w' => (∃ v', e = .returned v' ∧ w.ownsRow B 5 1 v' (cutLast l).length (Lib.byteCells (cutLast l)) ∧ v'.ownBlock = v.ownBlock) ∧ w' = w := by
  have hb := hide (fun w h => bytesLast_any v B l w h hl)
  rcases h.2 with ⟨hv, h0⟩ | ⟨g, cap, cur, hv, _, _, hc1, hc2, _⟩
  · have hl0 : l = [] := List.eq_nil_of_length_eq_zero h0
    subst hl0
    subst hv
    have HH := hide h
    go_enter Try.func33, Try.ntmps33
    go_wp2_with fail
    refine (hb.out _ HH.out).mono ?_
    rintro e w1 ⟨⟨i, rfl, hi⟩, rfl⟩
    have hi' : i = -1 := by
      rcases hi with ⟨h1, _⟩ | ⟨k, _, hk, _⟩
      · exact h1
      · simp at hk
    subst hi'
    go_wp2_with fail
    go_ret
    exact ⟨⟨_, rfl, by simpa [cutLast, show (max (-1 : Int) 0).toNat = 0 from by decide] using HH.out, rfl⟩, rfl⟩
  · subst hv
    unfold maxLen at hc2
    have HH := hide h
    clear h
    go_enter Try.func33, Try.ntmps33
    go_wp2_with fail
    refine (hb.out _ HH.out).mono ?_
    rintro e w1 ⟨⟨i, rfl, hi⟩, rfl⟩
    obtain ⟨e1, e2⟩ := hi.cut
    obtain ⟨m, hm⟩ : ∃ m : Nat, max i 0 = m := ⟨(max i 0).toNat, by omega⟩
    rw [hm] at e1 e2
    simp only [Int.toNat_natCast] at e1 e2
    have E1 := hide e1
    clear e1
    go_wp2_with fail
    go_ret
    refine ⟨⟨_, rfl, ?_, rfl⟩, rfl⟩
    rw [E1.out]
    simpa [hm] using row_take HH.out m e2
end Go.Proofs.Ytaeblkmkpfklkac
