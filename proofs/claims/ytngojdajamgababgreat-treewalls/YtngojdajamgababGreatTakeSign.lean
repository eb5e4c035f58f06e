/- takeSign: what stands at a & is put behind a row of bytes. -/
import Derived.Test.YtngojdajamgababGreatTry
namespace Go.Proofs.YtngojdajamgababGreat
open Go.RowKit

set_option maxHeartbeats 400000 in
theorem read70 (b : Nat) (s : ByteArray) (k bx cd : Nat) (w : World) (hs : s.size ≤ 3000) (hT : IsText w b s k) (hk : k < s.size)
    (hbx : w.heap[bx]? = some (.cells #[.pointer (some ⟨b, 0, none⟩)] 71 (0, 0))) (hcd : w.heap[cd]? = some (.cells #[.int .i64 0] 3 (0, 0))) :
    Calls Tryz.prog 119 #[.pointer (some ⟨bx, 0, none⟩), .pointer (some ⟨cd, 0, none⟩)] w fun e w' =>
      (e = .returned (.tuple #[]) ∧ (∃ n m, signL (s.data.toList.drop (k + 1)) = some (n, m) ∧ IsText w' b s (k + 1 + m) ∧ w'.heap[cd]? = some (.cells #[.int .i64 (n : Nat)] 3 (0, 0))) ∨
        e = .panicked gave ∧ signL (s.data.toList.drop (k + 1)) = none ∧ ∃ j, IsText w' b s j) ∧ Keeps [b, cd] w w' := by
  have cb := cell_of_one hbx
  have hne : cd ≠ b := by
    intro h
    subst h
    rw [IsText, hcd] at hT
    simp at hT
  go_enter Tryz.func119, Tryz.ntmps119
  go_wp2_with fail
  refine (sign_any b s k _ hs hT hk).mono ?_
  rintro e w1 ⟨⟨n, m, he, rfl, hT1⟩ | ⟨he, rfl, hT1⟩, hk1⟩
  · have hcd1 : w1.heap[cd]? = some (.cells #[.int .i64 0] 3 (0, 0)) := by rw [hk1.block cd (lt_of_block hcd) (by simpa using hne)]; exact hcd
    have fc := free_of_one hcd1
    have cc := cell_of_one hcd1
    have HE := hide he
    clear he
    go_wp2_with fail
    go_end0
    exact ⟨.inl ⟨rfl, n, m, HE.out, hT1.keeps ((Keeps.refl [cd] w1).setCell (by simp) _) (by simpa using Ne.symm hne), one_setCell hcd1⟩, (hk1.mono fun i hi _ => by simp at hi; simp [hi]).setCell (by simp) _⟩
  · go_wp2_with fail
    exact ⟨rfl, .inr ⟨rfl, he, hT1⟩, hk1.mono fun i hi _ => by simp at hi; simp [hi]⟩

theorem enters119 : Enters 119 := enters_of Tryz.func119 (by kernel_rfl) (by kernel_rfl)

theorem Tryz.info5 : (Tryz.prog.info? 5).map (fun i => (i.zero, i.size, i.bytes)) = some (some (.int .u8 0), 1, 1) := by kernel_rfl

/-- A row of bytes is no text. -/
theorem row_ne {w : World} {B : Nat} {v : Value} {n : Nat} {xs : List Value} {b : Nat} {s : ByteArray} {k : Nat} (ho : w.ownsRow B 5 1 v n xs) (hT : IsText w b s k) : ∀ g, v.ownBlock = some g → g ≠ b := by
  intro g hg h
  subst h
  rcases ho.2 with ⟨rfl, _⟩ | ⟨g', cap, cur, rfl, _, hh, _⟩
  · simp [Value.ownBlock] at hg
  · simp [Value.ownBlock] at hg
    subst hg
    rw [IsText, hh] at hT
    simp at hT

theorem tried52 (b : Nat) (s : ByteArray) (k : Nat) (w : World) (B : Nat) (v : Value) (n : Nat) (xs : List Value) (hs : s.size ≤ 3000) (hT : IsText w b s k) (hk : k < s.size) (ho : w.ownsRow B 5 1 v n xs) :
    Calls Tryz.prog 43 #[.pointer (some ⟨b, 0, none⟩), .func (.func 119) #[] #[.pointer (some ⟨w.heap.size, 0, none⟩), .pointer (some ⟨w.heap.size + 1, 0, none⟩)]]
      ((w.alloc (.cells #[.pointer (some ⟨b, 0, none⟩)] 71)).alloc (.cells #[.int .i64 0] 3)) fun e w2 =>
      (e = .returned (.bool true) ∧ (∃ c m, signL (s.data.toList.drop (k + 1)) = some (c, m) ∧ IsText w2 b s (k + 1 + m) ∧ w2.heap[w.heap.size + 1]? = some (.cells #[.int .i64 (c : Nat)] 3 (0, 0))) ∨
        e = .returned (.bool false) ∧ signL (s.data.toList.drop (k + 1)) = none ∧ IsText w2 b s k) ∧
      w2.heap[w.heap.size]? = some (.cells #[.pointer (some ⟨b, 0, none⟩)] 71 (0, 0)) ∧ w2.ownsRow B 5 1 v n xs ∧ Keeps [b] w w2 := by
  have hlt := hT.lt
  have hk0 : Keeps [] w ((w.alloc (.cells #[.pointer (some ⟨b, 0, none⟩)] 71)).alloc (.cells #[.int .i64 0] 3)) := ((Keeps.refl [] w).alloc _).alloc _
  refine (try_any 119 _ (fun w2 => ∃ c m, signL (s.data.toList.drop (k + 1)) = some (c, m) ∧ IsText w2 b s (k + 1 + m) ∧ w2.heap[w.heap.size + 1]? = some (.cells #[.int .i64 (c : Nat)] 3 (0, 0)))
    (fun _ => signL (s.data.toList.drop (k + 1)) = none) [b, w.heap.size + 1] b s k _ (hT.keeps hk0 (by simp)) enters119 (by simp) ?_ (fun _ _ h _ => h) ?_).mono ?_
  · intro i hi
    rw [two_size]
    simp at hi
    omega
  · intro w1 hk1
    refine read70 b s k w.heap.size (w.heap.size + 1) w1 hs ((hT.keeps hk0 (by simp)).keeps hk1 (by simp)) hk ?_ ?_
    · rw [hk1.block _ (by rw [two_size]; omega) (by simp)]
      exact two_fst _ _ _
    · rw [hk1.block _ (by rw [two_size]; omega) (by simp)]
      exact two_snd _ _ _
  · rintro e w2 ⟨h1, h2⟩
    refine ⟨h1, ?_, ?_, ?_⟩
    · rw [h2.block _ (by rw [two_size]; omega) (by simp; omega)]
      exact two_fst _ _ _
    · refine h2.owns (hk0.owns ho (by simp)) ?_
      intro g hg
      have h3 := row_ne ho hT g hg
      have h4 := (ho.lt g hg).2
      simp
      omega
    · exact ⟨h2.os, h2.tape, h2.output, Nat.le_trans hk0.size h2.size, fun i hi hS => (h2.block i (by rw [two_size]; omega) (by simp at hS ⊢; omega)).trans (hk0.block i hi (by simp))⟩

theorem takeOne_none {s : ByteArray} {k : Nat} (hk : k < s.size) (h : signL (s.data.toList.drop (k + 1)) = none) : takeOne (s.data.toList.drop k) = ([byteAt s k], 1, false) := by
  have hl : k < s.data.toList.length := by simpa using hk
  unfold takeOne
  rw [List.drop_drop, h]
  rw [List.drop_eq_getElem_cons hl]
  simp [byteAt, List.getElem?_eq_getElem hl]

theorem takeOne_some {s : ByteArray} {k c m : Nat} (h : signL (s.data.toList.drop (k + 1)) = some (c, m)) :
    takeOne (s.data.toList.drop k) = if standsL c then (Lib.encodeRune c, 1 + m, true) else (Lib.encodeRune 65533, 1 + m, false) := by
  unfold takeOne
  rw [List.drop_drop, h]

theorem own_tail {b : Nat} {s : ByteArray} {q : Nat} {v : Value} {w w2 w4 : World} {o : Obj} (hk2 : Keeps [b] w w2) (hT2 : IsText w2 b s q) (hg : (w2.alloc o).grownBy w4 v.ownBlock) (hrow : ∀ g, v.ownBlock = some g → g ≠ b) :
    IsText w4 b s q ∧ Keeps (b :: v.ownBlock.toList) w w4 := by
  have k1 : Keeps v.ownBlock.toList w2 w4 := ((Keeps.refl _ w2).alloc o).grown hg (fun k e => .inl (by simp [e]))
  refine ⟨hT2.keeps k1 ?_, (hk2.mono fun i hi _ => by simp at hi; simp [hi]).trans (k1.mono fun i hi _ => by simp [hi])⟩
  intro h
  simp at h
  exact hrow b h rfl

theorem own_rune {w : World} {B : Nat} {v : Value} {n : Nat} {xs : List Value} {r : Int} (h : w.ownsRow B 5 1 v (n + (Lib.runeCells r).length) (xs ++ Lib.runeCells r)) :
    w.ownsRow B 5 1 v (n + (Lib.encodeRune r).length) (xs ++ Lib.byteCells (Lib.encodeRune r)) := by
  rw [Lib.byteCells_encodeRune, ← Lib.runeCells_length]; exact h

set_option maxHeartbeats 1000000 in
theorem takeSign_any (b : Nat) (s : ByteArray) (k : Nat) (w : World) (B : Nat) (v : Value) (n : Nat) (xs : List Value) (hs : s.size ≤ 3000) (hT : IsText w b s k) (hk : k < s.size)
    (ho : w.ownsRow B 5 1 v n xs) (hn : n ≤ 100000) (hB : B ≤ w.heap.size) :
    Calls Tryz.prog 113 #[.pointer (some ⟨b, 0, none⟩), v] w fun e w' =>
      ∃ v', e = .returned (.tuple #[v', .bool (takeOne (s.data.toList.drop k)).2.2]) ∧
        w'.ownsRow B 5 1 v' (n + (takeOne (s.data.toList.drop k)).1.length) (xs ++ Lib.byteCells (takeOne (s.data.toList.drop k)).1) ∧
        IsText w' b s (k + (takeOne (s.data.toList.drop k)).2.1) ∧ Keeps (b :: v.ownBlock.toList) w w' := by
  have hmf : ∀ (fn : Fn) (first cap : Array Value) (w : World), (Instr.makeFunc fn first cap).run Tryz.prog w = .ok (.func fn first cap) w := fun _ _ _ _ => rfl
  have hrow := row_ne ho hT
  obtain ⟨i0, hi, hz0, hz1, hz2⟩ := info_parts Tryz.info5
  obtain ⟨T, hTk⟩ : ∃ T, takeOne (s.data.toList.drop k) = T := ⟨_, rfl⟩
  rw [hTk]
  have HT := hide hTk
  clear hTk
  go_enter Tryz.func113, Tryz.ntmps113
  go_wp2_with fail
  refine (tried52 b s k w B v n xs hs hT hk ho).mono ?_
  rintro e w2 ⟨⟨rfl, c, m, he, hT2, hcd⟩ | ⟨rfl, he, hT2⟩, hbx, ho2, hk2⟩
  · have hcc := cell_of_one hcd
    have hle := (signL_le he).2.2
    have H2 := hide (HT.out.symm.trans (takeOne_some he))
    clear he HT
    cases hst : standsL c
    · rw [hst] at H2
      go_wp2_with fail
      refine (stands_any c hle _).mono ?_
      rintro e w3 ⟨rfl, rfl⟩
      rw [hst]
      go_wp2_with fail
      refine (Tryz.utf8_AppendRune_plain B v n xs 65533 (by omega) (by omega) _ ho2 (by omega) (Nat.le_trans hB hk2.size)).mono ?_
      rintro e w4 ⟨v', rfl, ho4, o, hg4⟩
      go_wp2_with fail
      go_ret2
      rw [H2.out]
      exact ⟨v', rfl, own_rune ho4, by simp only [Bool.false_eq_true, if_false]; rw [← Nat.add_assoc]; exact (own_tail hk2 hT2 hg4 hrow).1, (own_tail hk2 hT2 hg4 hrow).2⟩
    · rw [hst] at H2
      go_wp2_with fail
      refine (stands_any c hle _).mono ?_
      rintro e w3 ⟨rfl, rfl⟩
      rw [hst]
      go_wp2_with fail
      refine (Tryz.utf8_AppendRune_plain B v n xs c (by omega) (by omega) _ ho2 (by omega) (Nat.le_trans hB hk2.size)).mono ?_
      rintro e w4 ⟨v', rfl, ho4, o, hg4⟩
      go_wp2_with fail
      go_ret2
      rw [H2.out]
      exact ⟨v', rfl, own_rune ho4, by simp only [if_true]; rw [← Nat.add_assoc]; exact (own_tail hk2 hT2 hg4 hrow).1, (own_tail hk2 hT2 hg4 hrow).2⟩
  · have hcb := cell_of_one hbx
    have H2 := hide (HT.out.symm.trans (takeOne_none hk he))
    clear he HT
    go_wp2_with fail
    refine (one_yes b s k _ hs hT2 hk).mono ?_
    rintro e w3 ⟨rfl, hT3, hk3⟩
    have ho3 := hk3.owns ho2 (fun g hg => by simpa using hrow g hg)
    have hsz3 : w.heap.size ≤ w3.heap.size := Nat.le_trans hk2.size hk3.size
    go_wp2_with (at_builtin; refine wpList_append_own _ rfl _ _ 43 rfl B 5 i0 (.int .u8 0) 1 1 Tryz.underlying43 hi hz0 hz1 hz2 rfl (by decide) _ _ _ rfl (ho3.alloc _) ⟨w3.heap.size, 0, none⟩ 1 1 [.int .u8 (byteAt s k).toNat] rfl rfl ?c1 ?c2 ?c3 ?c4 ?c5 ?_)
    case c1 =>
      intro j u hj
      match j, hj with
      | 0, hj => simp at hj; subst hj; simp [Addr.add]
    case c2 => intro u hu; simp at hu; subst hu; rfl
    case c3 => unfold maxLen; omega
    case c4 => omega
    case c5 => simp; omega
    intro v' w4 ho4 hg4 _
    go_wp2_with fail
    go_ret2
    rw [H2.out]
    exact ⟨v', rfl, ho4, (own_tail (hk2.trans hk3) hT3 hg4 hrow).1, (own_tail (hk2.trans hk3) hT3 hg4 hrow).2⟩
end Go.Proofs.YtngojdajamgababGreat
