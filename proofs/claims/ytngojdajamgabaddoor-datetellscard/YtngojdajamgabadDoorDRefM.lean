/- What the document asks of a text that tells a time is just what Web and Mail answer (pure). -/
import Derived.Test.YtngojdajamgabadDoorDRefC
namespace Go.Proofs.YtngojdajamgabadDoor
open Go.RowKit

/-! ### forms, piece by piece -/
/-- So many bytes from a place on. -/
def piece (l : List UInt8) (k n : Nat) : List UInt8 := (l.drop k).take n
theorem piece_succ {l : List UInt8} {k : Nat} (h : k < l.length) (n : Nat) : piece l k (n + 1) = l.getD k 0 :: piece l (k + 1) n := by
  unfold piece
  rw [List.drop_eq_getElem_cons h, List.take_succ_cons, List.getD_eq_getElem?_getD, List.getElem?_eq_getElem h]
  rfl
theorem piece_none {l : List UInt8} {k : Nat} (h : ¬ k < l.length) (n : Nat) : piece l k n = [] := by
  unfold piece
  rw [List.drop_eq_nil_of_le (by omega)]
  simp
theorem numL_form (l : List UInt8) : ∀ (n k a : Nat), numL l n k a = if formL (piece l k n) (List.replicate n 100) = true then some ((piece l k n).foldl (fun a c => a * 10 + (c.toNat - 48)) a, k + n) else none
  | 0, k, a => by simp [numL, piece, formL]
  | n + 1, k, a => by
    rw [numL]
    by_cases h : k < l.length
    · rw [piece_succ h, List.replicate_succ, formL, show okC (l.getD k 0) 100 = digB (l.getD k 0) from rfl]
      cases hd : digB (l.getD k 0)
      · rw [if_neg (by simp), if_neg (by simp)]
      · rw [if_pos ⟨h, rfl⟩, numL_form l n (k + 1), Bool.true_and, List.foldl_cons, show k + 1 + n = k + (n + 1) from by omega]
    · rw [piece_none h, if_neg (fun hh => h hh.1), if_neg (by simp [List.replicate_succ, formL])]
theorem num_one (l : List UInt8) (k : Nat) : numL l 1 k 0 = if formL (piece l k 1) [100] = true then some (nmL (piece l k 1), k + 1) else none := numL_form l 1 k 0
theorem num_two (l : List UInt8) (k : Nat) : numL l 2 k 0 = if formL (piece l k 2) [100, 100] = true then some (nmL (piece l k 2), k + 2) else none := numL_form l 2 k 0
theorem num_four (l : List UInt8) (k : Nat) : numL l 4 k 0 = if formL (piece l k 4) [100, 100, 100, 100] = true then some (nmL (piece l k 4), k + 4) else none := numL_form l 4 k 0
theorem must_form (l : List UInt8) (k : Nat) (c : UInt8) (h1 : c ≠ 100) (h2 : c ≠ 97) : mustL l k [c] = if formL (piece l k 1) [c] = true then some (k + 1) else none := by
  unfold mustL stL
  by_cases h : k < l.length
  · rw [piece_succ h, List.drop_eq_getElem_cons h]
    have e : l.getD k 0 = l[k] := by rw [List.getD_eq_getElem?_getD, List.getElem?_eq_getElem h]; rfl
    have e2 : piece l (k + 1) 0 = [] := by simp [piece]
    rw [e, e2]
    have e3 : formL [l[k]] [c] = (l[k] == c) := by simp only [formL, okC, if_neg h1, if_neg h2, Bool.and_true]
    rw [e3]
    simp [List.isPrefixOf, Bool.beq_eq_decide_eq, eq_comm]
  · rw [piece_none h, List.drop_eq_nil_of_le (by omega)]
    rfl
theorem formL_split : ∀ (s F G : List UInt8) (n : Nat), formL (s.take (F.length + n)) (F ++ G) = (formL (s.take F.length) F && formL ((s.drop F.length).take n) G)
  | s, [], G, n => by simp [formL]
  | [], f :: F, G, n => by simp [formL]
  | c :: s, f :: F, G, n => by
    rw [List.length_cons, show F.length + 1 + n = F.length + n + 1 from by omega, List.take_succ_cons, List.cons_append, formL, formL_split s F G n, List.take_succ_cons, formL, List.drop_succ_cons, Bool.and_assoc]
theorem form_split (l : List UInt8) (k : Nat) (F G : List UInt8) (a b : Nat) (ha : F.length = a) : formL (piece l k (a + b)) (F ++ G) = (formL (piece l k a) F && formL (piece l (k + a) b) G) := by
  subst ha
  unfold piece
  rw [formL_split, List.drop_drop]
theorem form_whole (s F : List UInt8) : formL s F = (decide (s.length ≤ F.length) && formL (s.take F.length) F) := by
  by_cases h : s.length ≤ F.length
  · rw [decide_eq_true h, List.take_of_length_le h, Bool.true_and]
  · rw [decide_eq_false h, Bool.false_and, formL_ne s F (by omega)]
theorem ans_time (y m d h n s k : Nat) (a zone : Int) (h1 : h ≤ 23) (h2 : n ≤ 59) (h3 : s ≤ 59) (ha : a = 60 * zone) : ansL (some (y, m, d, h * 3600 + n * 60 + s, a, k)) k = timeL y m d h n s zone := by
  subst ha
  unfold timeL
  rw [if_neg (by omega)]
  simp only [ansL]
  rw [if_neg (by omega)]

/-! ### the clock -/
theorem tod_form (l : List UInt8) (k : Nat) : todL l k = if formL (piece l k 8) [100, 100, 58, 100, 100, 58, 100, 100] = true then (if nmL (piece l k 2) ≤ 23 ∧ nmL (piece l (k + 3) 2) ≤ 59 ∧ nmL (piece l (k + 6) 2) ≤ 59 then some (nmL (piece l k 2) * 3600 + nmL (piece l (k + 3) 2) * 60 + nmL (piece l (k + 6) 2), k + 8) else none) else none := by
  have s1 := form_split l k [100, 100] [58, 100, 100, 58, 100, 100] 2 6 rfl
  have s2 := form_split l (k + 2) [58] [100, 100, 58, 100, 100] 1 5 rfl
  have s3 := form_split l (k + 2 + 1) [100, 100] [58, 100, 100] 2 3 rfl
  have s4 := form_split l (k + 2 + 1 + 2) [58] [100, 100] 1 2 rfl
  simp only [List.cons_append, List.nil_append, Nat.reduceAdd, Nat.add_assoc] at s1 s2 s3 s4
  rw [s1, s2, s3, s4]
  unfold todL upL
  rw [num_two]
  cases formL (piece l k 2) [100, 100]
  · simp
  simp only [if_true, Option.bind_some, Bool.true_and]
  by_cases g1 : nmL (piece l k 2) ≤ 23
  · rw [if_pos g1]
    simp only [Option.bind_some]
    rw [must_form _ _ _ (by decide) (by decide)]
    cases formL (piece l (k + 2) 1) [58]
    · simp
    simp only [if_true, Option.bind_some, Bool.true_and, Nat.add_assoc, Nat.reduceAdd]
    rw [num_two]
    cases formL (piece l (k + 3) 2) [100, 100]
    · simp
    simp only [if_true, Option.bind_some, Bool.true_and]
    by_cases g2 : nmL (piece l (k + 3) 2) ≤ 59
    · rw [if_pos g2]
      simp only [Option.bind_some, Nat.add_assoc, Nat.reduceAdd]
      rw [must_form _ _ _ (by decide) (by decide)]
      cases formL (piece l (k + 5) 1) [58]
      · simp
      simp only [if_true, Option.bind_some, Bool.true_and, Nat.add_assoc, Nat.reduceAdd]
      rw [num_two]
      cases formL (piece l (k + 6) 2) [100, 100]
      · simp
      simp only [if_true, Option.bind_some, Nat.add_assoc, Nat.reduceAdd]
      by_cases g3 : nmL (piece l (k + 6) 2) ≤ 59
      · rw [if_pos g3, if_pos ⟨g1, g2, g3⟩]
        rfl
      · rw [if_neg g3, if_neg (fun h => g3 h.2.2)]
        rfl
    · rw [if_neg g2]
      simp [g2]
  · rw [if_neg g1]
    simp [g1]

/-! ### what is ahead of UTC -/
theorem offTail_form (l : List UInt8) (k : Nat) (mark : List UInt8) (hm : mark = [58] ∨ mark = []) : offTail l k mark = if formL (piece l k (4 + mark.length)) ([100, 100] ++ mark ++ [100, 100]) = true then (if zoneB (nmL (piece l k 2)) (nmL (piece l (k + 2 + mark.length) 2)) = true then some (nmL (piece l k 2) * 3600 + nmL (piece l (k + 2 + mark.length) 2) * 60, k + 4 + mark.length) else none) else none := by
  unfold zoneB
  rcases hm with rfl | rfl
  · have s1 := form_split l k [100, 100] [58, 100, 100] 2 3 rfl
    have s2 := form_split l (k + 2) [58] [100, 100] 1 2 rfl
    simp only [List.cons_append, List.nil_append, Nat.reduceAdd, Nat.add_assoc] at s1 s2
    simp only [List.cons_append, List.nil_append, Nat.reduceAdd, Nat.add_assoc, List.length_singleton]
    rw [s1, s2]
    unfold offTail upL
    rw [num_two]
    cases formL (piece l k 2) [100, 100]
    · simp
    simp only [if_true, Option.bind_some, Bool.true_and]
    by_cases g1 : nmL (piece l k 2) ≤ 23
    · rw [if_pos g1]
      simp only [Option.bind_some]
      rw [must_form _ _ _ (by decide) (by decide)]
      cases formL (piece l (k + 2) 1) [58]
      · simp
      simp only [if_true, Option.bind_some, Bool.true_and, Nat.add_assoc, Nat.reduceAdd]
      rw [num_two]
      cases formL (piece l (k + 3) 2) [100, 100]
      · simp
      simp only [if_true, Option.bind_some, Nat.add_assoc, Nat.reduceAdd]
      by_cases g3 : nmL (piece l (k + 3) 2) ≤ 59
      · rw [if_pos g3]
        simp [g1, g3]
      · rw [if_neg g3]
        simp [g3]
    · rw [if_neg g1]
      simp [g1]
  · have s1 := form_split l k [100, 100] [100, 100] 2 2 rfl
    simp only [List.cons_append, List.nil_append, Nat.reduceAdd] at s1
    simp only [List.cons_append, List.nil_append, Nat.add_zero, List.length_nil]
    rw [s1]
    unfold offTail upL
    rw [num_two]
    cases formL (piece l k 2) [100, 100]
    · simp
    simp only [if_true, Option.bind_some, Bool.true_and]
    by_cases g1 : nmL (piece l k 2) ≤ 23
    · rw [if_pos g1]
      have hm : ∀ k, mustL l k [] = some k := fun k => by unfold mustL stL; simp
      simp only [Option.bind_some, hm]
      rw [num_two]
      cases formL (piece l (k + 2) 2) [100, 100]
      · simp
      simp only [if_true, Option.bind_some, Nat.add_assoc, Nat.reduceAdd]
      by_cases g3 : nmL (piece l (k + 2) 2) ≤ 59
      · rw [if_pos g3]
        simp [g1, g3]
      · rw [if_neg g3]
        simp [g3]
    · rw [if_neg g1]
      simp [g1]

/-! ### a time as Web reads it -/
def FW : List UInt8 := [100, 100, 100, 100, 45, 100, 100, 45, 100, 100, 84, 100, 100, 58, 100, 100, 58, 100, 100]
theorem web_form (l : List UInt8) : webL l = if formL (piece l 0 19) FW = true then (if nmL (piece l 11 2) ≤ 23 ∧ nmL (piece l 14 2) ≤ 59 ∧ nmL (piece l 17 2) ≤ 59 then (if stL l 19 [90] = true then some (nmL (piece l 0 4), nmL (piece l 5 2), nmL (piece l 8 2), nmL (piece l 11 2) * 3600 + nmL (piece l 14 2) * 60 + nmL (piece l 17 2), 0, 20) else (offL l 19 [58]).bind fun a => some (nmL (piece l 0 4), nmL (piece l 5 2), nmL (piece l 8 2), nmL (piece l 11 2) * 3600 + nmL (piece l 14 2) * 60 + nmL (piece l 17 2), a.1, a.2)) else none) else none := by
  have s1 := form_split l 0 [100, 100, 100, 100] [45, 100, 100, 45, 100, 100, 84, 100, 100, 58, 100, 100, 58, 100, 100] 4 15 rfl
  have s2 := form_split l 4 [45] [100, 100, 45, 100, 100, 84, 100, 100, 58, 100, 100, 58, 100, 100] 1 14 rfl
  have s3 := form_split l 5 [100, 100] [45, 100, 100, 84, 100, 100, 58, 100, 100, 58, 100, 100] 2 12 rfl
  have s4 := form_split l 7 [45] [100, 100, 84, 100, 100, 58, 100, 100, 58, 100, 100] 1 11 rfl
  have s5 := form_split l 8 [100, 100] [84, 100, 100, 58, 100, 100, 58, 100, 100] 2 9 rfl
  have s6 := form_split l 10 [84] [100, 100, 58, 100, 100, 58, 100, 100] 1 8 rfl
  simp only [List.cons_append, List.nil_append, Nat.reduceAdd, Nat.zero_add] at s1 s2 s3 s4 s5 s6
  unfold FW
  rw [s1, s2, s3, s4, s5, s6]
  unfold webL
  rw [num_four]
  cases formL (piece l 0 4) [100, 100, 100, 100]
  · simp
  simp only [if_true, Option.bind_some, Bool.true_and, Nat.zero_add]
  rw [must_form _ _ _ (by decide) (by decide)]
  cases formL (piece l 4 1) [45]
  · simp
  simp only [if_true, Option.bind_some, Bool.true_and, Nat.reduceAdd]
  rw [num_two]
  cases formL (piece l 5 2) [100, 100]
  · simp
  simp only [if_true, Option.bind_some, Bool.true_and, Nat.reduceAdd]
  rw [must_form _ _ _ (by decide) (by decide)]
  cases formL (piece l 7 1) [45]
  · simp
  simp only [if_true, Option.bind_some, Bool.true_and, Nat.reduceAdd]
  rw [num_two]
  cases formL (piece l 8 2) [100, 100]
  · simp
  simp only [if_true, Option.bind_some, Bool.true_and, Nat.reduceAdd]
  rw [must_form _ _ _ (by decide) (by decide)]
  cases formL (piece l 10 1) [84]
  · simp
  simp only [if_true, Option.bind_some, Bool.true_and, Nat.reduceAdd]
  rw [tod_form]
  cases formL (piece l 11 8) [100, 100, 58, 100, 100, 58, 100, 100]
  · simp
  simp only [if_true, Nat.reduceAdd]
  by_cases g : nmL (piece l 11 2) ≤ 23 ∧ nmL (piece l 14 2) ≤ 59 ∧ nmL (piece l 17 2) ≤ 59
  · rw [if_pos g, if_pos g]
    rfl
  · rw [if_neg g, if_neg g]
    rfl

/-- What the document asks of a text that is read as Web does. -/
def refWeb (l : List UInt8) : Int × Int :=
  if l.length < 20 then (0, 1)
  else if formL (l.take 19) FW = false then (0, 1)
  else if (formL (l.drop 19) [43, 100, 100, 58, 100, 100] || formL (l.drop 19) [45, 100, 100, 58, 100, 100]) = true then
    (if zoneB (nmL (piece l 20 2)) (nmL (piece l 23 2)) = true then timeL (nmL (piece l 0 4)) (nmL (piece l 5 2)) (nmL (piece l 8 2)) (nmL (piece l 11 2)) (nmL (piece l 14 2)) (nmL (piece l 17 2)) (zoneV (l.getD 19 0) (nmL (piece l 20 2)) (nmL (piece l 23 2))) else (0, 1))
  else if l.drop 19 = [90] then timeL (nmL (piece l 0 4)) (nmL (piece l 5 2)) (nmL (piece l 8 2)) (nmL (piece l 11 2)) (nmL (piece l 14 2)) (nmL (piece l 17 2)) 0
  else (0, 1)
theorem timeL_bad (y m d h n s : Nat) (z : Int) (hb : ¬ (h ≤ 23 ∧ n ≤ 59 ∧ s ≤ 59)) : timeL y m d h n s z = (0, 1) := by
  unfold timeL
  rw [if_pos (by omega)]
/-- A sign and what is ahead of UTC, at the end. -/
theorem sign_form (l : List UInt8) (k : Nat) (c : UInt8) (F : List UInt8) (h1 : c ≠ 100) (h2 : c ≠ 97) (hk : k < l.length) : formL (l.drop k) (c :: F) = ((l.getD k 0 == c) && (decide (l.length ≤ k + 1 + F.length) && formL (piece l (k + 1) F.length) F)) := by
  rw [List.drop_eq_getElem_cons hk, formL, form_whole (l.drop (k + 1)) F]
  have e : l.getD k 0 = l[k] := by rw [List.getD_eq_getElem?_getD, List.getElem?_eq_getElem hk]; rfl
  have e2 : okC l[k] c = (l[k] == c) := by simp only [okC, if_neg h1, if_neg h2]
  have e3 : decide (l.length - (k + 1) ≤ F.length) = decide (l.length ≤ k + 1 + F.length) := by rw [decide_eq_decide]; omega
  rw [e, e2, List.length_drop, e3]
  rfl
theorem st_at (l : List UInt8) (k : Nat) (c : UInt8) (hk : k < l.length) : stL l k [c] = (l.getD k 0 == c) := by
  unfold stL
  have e : l.getD k 0 = l[k] := by rw [List.getD_eq_getElem?_getD, List.getElem?_eq_getElem hk]; rfl
  rw [List.drop_eq_getElem_cons hk, e]
  simp [List.isPrefixOf, Bool.beq_eq_decide_eq, eq_comm]
theorem form_len_le (l : List UInt8) (k n : Nat) (F : List UInt8) (h : formL (piece l k n) F = true) (hF : F.length = n) (hn : 0 < n) : k + n ≤ l.length := by
  have := formL_len _ _ h
  unfold piece at this
  rw [List.length_take, List.length_drop] at this
  omega
theorem web_ref (l : List UInt8) : ansL (webL l) l.length = refWeb l := by
  rw [web_form]
  unfold refWeb
  have e0 : piece l 0 19 = l.take 19 := by simp [piece]
  rw [e0]
  cases hf : formL (l.take 19) FW
  · simp [ansL]
  · rw [if_pos rfl]
    have hlen : 19 ≤ l.length := by
      have := form_len_le l 0 19 FW (by rw [e0]; exact hf) rfl (by omega)
      omega
    by_cases hl : l.length < 20
    · have h19 : l.length = 19 := by omega
      rw [if_pos hl]
      have hd : l.drop 19 = [] := List.drop_eq_nil_of_le (by omega)
      have hs : ∀ c, stL l 19 [c] = false := fun c => by unfold stL; rw [hd]; rfl
      unfold offL mustL
      rw [hs, hs, hs]
      split <;> simp [ansL]
    · rw [if_neg hl, if_neg (show ¬ (true = false) from by simp)]
      have hk : 19 < l.length := by omega
      rw [sign_form l 19 43 _ (by decide) (by decide) hk, sign_form l 19 45 _ (by decide) (by decide) hk, st_at l 19 90 hk]
      unfold offL
      rw [st_at l 19 45 hk, offTail_form l 20 [58] (.inl rfl)]
      simp only [List.length_cons, List.length_nil, List.cons_append, List.nil_append, Nat.reduceAdd]
      by_cases g : nmL (piece l 11 2) ≤ 23 ∧ nmL (piece l 14 2) ≤ 59 ∧ nmL (piece l 17 2) ≤ 59
      · rw [if_pos g]
        by_cases c1 : l.getD 19 0 = 90
        · rw [c1]
          rw [if_pos (by rfl), if_neg (by simp)]
          by_cases h20 : l.drop 19 = [90]
          · have : l.length = 20 := by
              have := congrArg List.length h20
              rw [List.length_drop] at this
              simp at this
              omega
            rw [if_pos h20, this]
            exact ans_time _ _ _ _ _ _ _ _ _ g.1 g.2.1 g.2.2 (by simp)
          · rw [if_neg h20]
            have : 20 < l.length := by
              rcases Nat.lt_or_ge 20 l.length with h | h
              · exact h
              · refine absurd ?_ h20
                rw [List.drop_eq_getElem_cons hk, List.drop_eq_nil_of_le (by omega)]
                have e : l.getD 19 0 = l[19] := by rw [List.getD_eq_getElem?_getD, List.getElem?_eq_getElem hk]; rfl
                rw [← e, c1]
            simp [ansL, this]
        · have hn90 : ¬ l.drop 19 = [90] := fun h => by
            have h2 := congrArg (fun x => x.getD 0 0) h
            refine c1 ?_
            simpa [List.getD_eq_getElem?_getD, List.getElem?_drop] using h2
          have b1 : (l.getD 19 0 == 90) = false := by simpa using c1
          rw [b1, if_neg (show ¬ (false = true) from by simp), if_neg hn90]
          by_cases c2 : l.getD 19 0 = 45
          · rw [c2, if_pos (by rfl)]
            have hfl : formL (piece l 20 5) [100, 100, 58, 100, 100] = true → 25 ≤ l.length := fun h => form_len_le l 20 5 _ h rfl (by omega)
            cases hq : formL (piece l 20 5) [100, 100, 58, 100, 100]
            · simp [ansL]
            · have h25 := hfl hq
              cases hz : zoneB (nmL (piece l 20 2)) (nmL (piece l 23 2))
              · simp [ansL]
              · simp only [if_true, Option.map_some, Option.bind_some]
                by_cases h26 : l.length ≤ 25
                · have h25' : l.length = 25 := by omega
                  rw [h25']
                  refine (ans_time _ _ _ _ _ _ _ _ (zoneV 45 (nmL (piece l 20 2)) (nmL (piece l 23 2))) g.1 g.2.1 g.2.2 (by unfold zoneV; rw [if_pos rfl]; omega)).trans ?_
                  rfl
                · rw [decide_eq_false h26]
                  simp only [ansL]
                  rw [if_pos (show 25 < l.length from by omega)]
                  rfl
          · have b2 : (l.getD 19 0 == 45) = false := by simpa using c2
            rw [b2, if_neg (show ¬ (false = true) from by simp)]
            unfold mustL
            rw [st_at l 19 43 hk]
            by_cases c3 : l.getD 19 0 = 43
            · rw [c3, if_pos (by rfl)]
              simp only [Option.bind_some, List.length_singleton, Nat.reduceAdd]
              rw [offTail_form l 20 [58] (.inl rfl)]
              simp only [List.length_cons, List.length_nil, List.cons_append, List.nil_append, Nat.reduceAdd]
              have hfl : formL (piece l 20 5) [100, 100, 58, 100, 100] = true → 25 ≤ l.length := fun h => form_len_le l 20 5 _ h rfl (by omega)
              cases hq : formL (piece l 20 5) [100, 100, 58, 100, 100]
              · simp [ansL]
              · have h25 := hfl hq
                cases hz : zoneB (nmL (piece l 20 2)) (nmL (piece l 23 2))
                · simp [ansL]
                · simp only [if_true, Option.map_some, Option.bind_some]
                  by_cases h26 : l.length ≤ 25
                  · have h25' : l.length = 25 := by omega
                    rw [h25']
                    refine (ans_time _ _ _ _ _ _ _ _ (zoneV 43 (nmL (piece l 20 2)) (nmL (piece l 23 2))) g.1 g.2.1 g.2.2 (by unfold zoneV; rw [if_neg (by decide)]; omega)).trans ?_
                    rfl
                  · rw [decide_eq_false h26]
                    simp only [ansL]
                    rw [if_pos (show 25 < l.length from by omega)]
                    rfl
            · have b3 : (l.getD 19 0 == 43) = false := by simpa using c3
              rw [b3]
              simp [ansL]
      · rw [if_neg g]
        rw [timeL_bad _ _ _ _ _ _ _ g, timeL_bad _ _ _ _ _ _ _ g]
        simp [ansL]

/-! ### a time as Mail reads it -/
def mailAt (l : List UInt8) (k0 : Nat) : Option Stamp :=
  (shortL l k0).bind fun d => (mustL l d.2 [32]).bind fun k1 => (monL l k1).bind fun m => (mustL l m.2 [32]).bind fun k2 => (numL l 4 k2 0).bind fun y => (mustL l y.2 [32]).bind fun k3 => (todL l k3).bind fun c => (mustL l c.2 [32]).bind fun k4 =>
    if stL l k4 [71, 77, 84] = true then some (y.1, m.1, d.1, c.1, 0, k4 + 3) else if stL l k4 [85, 84] = true then some (y.1, m.1, d.1, c.1, 0, k4 + 2) else (offL l k4 []).bind fun a => some (y.1, m.1, d.1, c.1, a.1, a.2)
theorem mail_at (l : List UInt8) : mailL l = (weekL l 0).bind (mailAt l) := rfl
/-- Which month it is; 0: none. -/
def monG (p : List UInt8) : Nat → Nat
  | 0 => 0
  | n + 1 => if p = (monB.drop (3 * (11 - n))).take 3 then 12 - n else monG p n
theorem st_piece (l : List UInt8) (k : Nat) (p : List UInt8) : stL l k p = (piece l k p.length == p) := by
  unfold stL piece
  generalize l.drop k = r
  induction p generalizing r with
  | nil => simp
  | cons c p ih =>
    cases r with
    | nil => simp
    | cons d r =>
      rw [List.length_cons, List.take_succ_cons, List.isPrefixOf, ih]
      rw [Bool.eq_iff_iff]
      simp only [Bool.and_eq_true, beq_iff_eq, List.cons.injEq]
      exact ⟨fun h => ⟨h.1.symm, h.2⟩, fun h => ⟨h.1.symm, h.2⟩⟩
theorem mon_form (l : List UInt8) (k : Nat) : ∀ n, n ≤ 12 → monF l k n = if monG (piece l k 3) n = 0 then none else some (monG (piece l k 3) n, k + 3)
  | 0, _ => rfl
  | n + 1, h => by
    have hl : ((monB.drop (3 * (11 - n))).take 3).length = 3 := by
      rw [List.length_take, List.length_drop, show monB.length = 36 from rfl]
      omega
    rw [monF, monG, st_piece, hl]
    by_cases hp : piece l k 3 = (monB.drop (3 * (11 - n))).take 3
    · rw [if_pos (by simpa using hp), if_pos hp, if_neg (by omega)]
    · rw [if_neg (by simpa using hp), if_neg hp]
      exact mon_form l k n (by omega)
theorem mon_letters (p : List UInt8) : ∀ n, n ≤ 12 → monG p n ≠ 0 → formL p [97, 97, 97] = true
  | 0, _, h => absurd rfl h
  | n + 1, hn, h => by
    rw [monG] at h
    by_cases hp : p = (monB.drop (3 * (11 - n))).take 3
    · rw [hp]
      obtain rfl | rfl | rfl | rfl | rfl | rfl | rfl | rfl | rfl | rfl | rfl | rfl : n = 0 ∨ n = 1 ∨ n = 2 ∨ n = 3 ∨ n = 4 ∨ n = 5 ∨ n = 6 ∨ n = 7 ∨ n = 8 ∨ n = 9 ∨ n = 10 ∨ n = 11 := by omega
      all_goals decide
    · rw [if_neg hp] at h
      exact mon_letters p n (by omega) h

def FM : List UInt8 := [32, 97, 97, 97, 32, 100, 100, 100, 100, 32, 100, 100, 58, 100, 100, 58, 100, 100, 32]
/-- Behind the day's number. -/
def mailRest (l : List UInt8) (d j : Nat) : Option Stamp :=
  (mustL l j [32]).bind fun k1 => (monL l k1).bind fun m => (mustL l m.2 [32]).bind fun k2 => (numL l 4 k2 0).bind fun y => (mustL l y.2 [32]).bind fun k3 => (todL l k3).bind fun c => (mustL l c.2 [32]).bind fun k4 =>
    if stL l k4 [71, 77, 84] = true then some (y.1, m.1, d, c.1, 0, k4 + 3) else if stL l k4 [85, 84] = true then some (y.1, m.1, d, c.1, 0, k4 + 2) else (offL l k4 []).bind fun a => some (y.1, m.1, d, c.1, a.1, a.2)
/-- What is at the end. -/
def mailZone (l : List UInt8) (y m d c j : Nat) : Option Stamp :=
  if stL l j [71, 77, 84] = true then some (y, m, d, c, 0, j + 3) else if stL l j [85, 84] = true then some (y, m, d, c, 0, j + 2) else (offL l j []).bind fun a => some (y, m, d, c, a.1, a.2)
theorem rest_form (l : List UInt8) (d j : Nat) : mailRest l d j = if formL (piece l j 19) FM = true then (if monG (piece l (j + 1) 3) 12 = 0 then none else if nmL (piece l (j + 10) 2) ≤ 23 ∧ nmL (piece l (j + 13) 2) ≤ 59 ∧ nmL (piece l (j + 16) 2) ≤ 59 then mailZone l (nmL (piece l (j + 5) 4)) (monG (piece l (j + 1) 3) 12) d (nmL (piece l (j + 10) 2) * 3600 + nmL (piece l (j + 13) 2) * 60 + nmL (piece l (j + 16) 2)) (j + 19) else none) else none := by
  have s1 := form_split l j [32] [97, 97, 97, 32, 100, 100, 100, 100, 32, 100, 100, 58, 100, 100, 58, 100, 100, 32] 1 18 rfl
  have s2 := form_split l (j + 1) [97, 97, 97] [32, 100, 100, 100, 100, 32, 100, 100, 58, 100, 100, 58, 100, 100, 32] 3 15 rfl
  have s3 := form_split l (j + 4) [32] [100, 100, 100, 100, 32, 100, 100, 58, 100, 100, 58, 100, 100, 32] 1 14 rfl
  have s4 := form_split l (j + 5) [100, 100, 100, 100] [32, 100, 100, 58, 100, 100, 58, 100, 100, 32] 4 10 rfl
  have s5 := form_split l (j + 9) [32] [100, 100, 58, 100, 100, 58, 100, 100, 32] 1 9 rfl
  have s6 := form_split l (j + 10) [100, 100, 58, 100, 100, 58, 100, 100] [32] 8 1 rfl
  simp only [List.cons_append, List.nil_append, Nat.reduceAdd, Nat.add_assoc] at s1 s2 s3 s4 s5 s6
  unfold FM
  rw [s1, s2, s3, s4, s5, s6]
  unfold mailRest monL
  rw [must_form _ _ _ (by decide) (by decide)]
  cases formL (piece l j 1) [32]
  · simp
  simp only [if_true, Option.bind_some, Bool.true_and]
  rw [mon_form l (j + 1) 12 (by omega)]
  have hlet := mon_letters (piece l (j + 1) 3) 12 (by omega)
  generalize monG (piece l (j + 1) 3) 12 = m at *
  by_cases hm : m = 0
  · subst hm
    simp
  · rw [if_neg hm, hlet hm]
    simp only [Option.bind_some, Bool.true_and, Nat.add_assoc, Nat.reduceAdd, if_neg hm]
    rw [must_form _ _ _ (by decide) (by decide)]
    cases formL (piece l (j + 4) 1) [32]
    · simp
    simp only [if_true, Option.bind_some, Bool.true_and, Nat.add_assoc, Nat.reduceAdd]
    rw [num_four]
    cases formL (piece l (j + 5) 4) [100, 100, 100, 100]
    · simp
    simp only [if_true, Option.bind_some, Bool.true_and, Nat.add_assoc, Nat.reduceAdd]
    rw [must_form _ _ _ (by decide) (by decide)]
    cases formL (piece l (j + 9) 1) [32]
    · simp
    simp only [if_true, Option.bind_some, Bool.true_and, Nat.add_assoc, Nat.reduceAdd]
    rw [tod_form]
    cases formL (piece l (j + 10) 8) [100, 100, 58, 100, 100, 58, 100, 100]
    · simp
    simp only [if_true, Bool.true_and, Nat.add_assoc, Nat.reduceAdd]
    by_cases g : nmL (piece l (j + 10) 2) ≤ 23 ∧ nmL (piece l (j + 13) 2) ≤ 59 ∧ nmL (piece l (j + 16) 2) ≤ 59
    · rw [if_pos g, if_pos g]
      simp only [Option.bind_some]
      rw [must_form _ _ _ (by decide) (by decide)]
      cases formL (piece l (j + 18) 1) [32]
      · simp
      simp only [if_true, Option.bind_some, Nat.add_assoc, Nat.reduceAdd]
      rfl
    · rw [if_neg g, if_neg g]
      simp

/-- What the document asks of what is at the end. -/
def refZone (l : List UInt8) (y m d h n s j : Nat) : Int × Int :=
  if (formL (l.drop j) [43, 100, 100, 100, 100] || formL (l.drop j) [45, 100, 100, 100, 100]) = true then
    (if zoneB (nmL (piece l (j + 1) 2)) (nmL (piece l (j + 3) 2)) = true then timeL y m d h n s (zoneV (l.getD j 0) (nmL (piece l (j + 1) 2)) (nmL (piece l (j + 3) 2))) else (0, 1))
  else if l.drop j = [71, 77, 84] ∨ l.drop j = [85, 84] then timeL y m d h n s 0
  else (0, 1)
theorem whole_st (l : List UInt8) (j : Nat) (p : List UInt8) (h : stL l j p = true) : l.drop j = p ↔ l.length ≤ j + p.length := by
  have h1 : p <+: l.drop j := by simpa [stL] using h
  obtain ⟨t, ht⟩ := h1
  have hl := congrArg List.length ht
  rw [List.length_append, List.length_drop] at hl
  constructor
  · intro h2
    rw [h2] at ht
    have := congrArg List.length h2
    rw [List.length_drop] at this
    omega
  · intro h2
    have : t = [] := List.eq_nil_of_length_eq_zero (by omega)
    rw [← ht, this, List.append_nil]
theorem zone_ref (l : List UInt8) (y m d h n s j : Nat) (g : h ≤ 23 ∧ n ≤ 59 ∧ s ≤ 59) : ansL (mailZone l y m d (h * 3600 + n * 60 + s) j) l.length = refZone l y m d h n s j := by
  unfold mailZone refZone
  rcases Nat.lt_or_ge j l.length with hk | hk
  · rw [sign_form l j 43 _ (by decide) (by decide) hk, sign_form l j 45 _ (by decide) (by decide) hk]
    have e : l.getD j 0 = l[j] := by rw [List.getD_eq_getElem?_getD, List.getElem?_eq_getElem hk]; rfl
    have hd := List.drop_eq_getElem_cons hk
    simp only [List.length_cons, List.length_nil, Nat.reduceAdd]
    cases h1 : stL l j [71, 77, 84]
    · rw [if_neg (by simp)]
      have hG : ¬ l.drop j = [71, 77, 84] := fun hh => by
        have : stL l j [71, 77, 84] = true := by unfold stL; rw [hh]; rfl
        rw [h1] at this
        simp at this
      cases h2 : stL l j [85, 84]
      · rw [if_neg (by simp)]
        have hU : ¬ l.drop j = [85, 84] := fun hh => by
          have : stL l j [85, 84] = true := by unfold stL; rw [hh]; rfl
          rw [h2] at this
          simp at this
        rw [if_neg (show ¬ (l.drop j = [71, 77, 84] ∨ l.drop j = [85, 84]) from fun hh => hh.elim hG hU)]
        unfold offL
        rw [st_at l j 45 hk, offTail_form l (j + 1) [] (.inr rfl)]
        simp only [List.length_nil, List.cons_append, List.nil_append, List.append_nil, Nat.add_zero, Nat.add_assoc, Nat.reduceAdd]
        have hfl : formL (piece l (j + 1) 4) [100, 100, 100, 100] = true → j + 5 ≤ l.length := fun h => by have := form_len_le l (j + 1) 4 _ h rfl (by omega); omega
        by_cases c2 : l.getD j 0 = 45
        · rw [c2, if_pos (show ((45 : UInt8) == 45) = true from rfl)]
          cases hq : formL (piece l (j + 1) 4) [100, 100, 100, 100]
          · simp [ansL]
          · have h25 := hfl hq
            cases hz : zoneB (nmL (piece l (j + 1) 2)) (nmL (piece l (j + 3) 2))
            · simp [ansL]
            · simp only [if_true, Option.map_some, Option.bind_some]
              by_cases h26 : l.length ≤ j + 5
              · have h25' : l.length = j + 5 := by omega
                rw [decide_eq_true h26, h25']
                have hzz : -((nmL (piece l (j + 1) 2) * 3600 + nmL (piece l (j + 3) 2) * 60 : Nat) : Int) = 60 * zoneV 45 (nmL (piece l (j + 1) 2)) (nmL (piece l (j + 3) 2)) := by unfold zoneV; rw [if_pos rfl]; omega
                rw [hzz]
                rw [show h * 3600 + (n * 60 + s) = h * 3600 + n * 60 + s from by omega]
                refine (ans_time y m d h n s (j + 5) _ (zoneV 45 (nmL (piece l (j + 1) 2)) (nmL (piece l (j + 3) 2))) g.1 g.2.1 g.2.2 rfl).trans ?_
                rfl
              · rw [decide_eq_false h26]
                simp only [ansL]
                rw [if_pos (show j + 5 < l.length from by omega)]
                rfl
        · have b2 : (l.getD j 0 == 45) = false := by simpa using c2
          rw [b2, if_neg (show ¬ (false = true) from by simp)]
          unfold mustL
          rw [st_at l j 43 hk]
          by_cases c3 : l.getD j 0 = 43
          · rw [c3, if_pos (show ((43 : UInt8) == 43) = true from rfl)]
            simp only [Option.bind_some, List.length_singleton]
            rw [offTail_form l (j + 1) [] (.inr rfl)]
            simp only [List.length_nil, List.cons_append, List.nil_append, List.append_nil, Nat.add_zero, Nat.add_assoc, Nat.reduceAdd]
            cases hq : formL (piece l (j + 1) 4) [100, 100, 100, 100]
            · simp [ansL]
            · have h25 := hfl hq
              cases hz : zoneB (nmL (piece l (j + 1) 2)) (nmL (piece l (j + 3) 2))
              · simp [ansL]
              · simp only [if_true, Option.map_some, Option.bind_some]
                by_cases h26 : l.length ≤ j + 5
                · have h25' : l.length = j + 5 := by omega
                  rw [decide_eq_true h26, h25']
                  have hzz : ((nmL (piece l (j + 1) 2) * 3600 + nmL (piece l (j + 3) 2) * 60 : Nat) : Int) = 60 * zoneV 43 (nmL (piece l (j + 1) 2)) (nmL (piece l (j + 3) 2)) := by unfold zoneV; rw [if_neg (by decide)]; omega
                  rw [hzz]
                  rw [show h * 3600 + (n * 60 + s) = h * 3600 + n * 60 + s from by omega]
                  refine (ans_time y m d h n s (j + 5) _ (zoneV 43 (nmL (piece l (j + 1) 2)) (nmL (piece l (j + 3) 2))) g.1 g.2.1 g.2.2 rfl).trans ?_
                  rfl
                · rw [decide_eq_false h26]
                  simp only [ansL]
                  rw [if_pos (show j + 5 < l.length from by omega)]
                  rfl
          · have b3 : (l.getD j 0 == 43) = false := by simpa using c3
            rw [b3]
            simp [ansL]
      · have hc : l.getD j 0 = 85 := by
          have := h2
          unfold stL at this
          rw [hd, List.isPrefixOf, Bool.and_eq_true] at this
          rw [e]
          exact (eq_of_beq this.1).symm
        rw [if_pos rfl, hc]
        have hw := whole_st l j _ h2
        simp only [List.length_cons, List.length_nil, Nat.reduceAdd] at hw
        by_cases hl : l.length ≤ j + 2
        · have hst : j + 2 ≤ l.length := by
            have : ([85, 84] : List UInt8) <+: l.drop j := by simpa [stL] using h2
            have := this.length_le
            rw [List.length_drop] at this
            simp at this
            omega
          have h3 : l.length = j + 2 := by omega
          rw [if_pos (show l.drop j = [71, 77, 84] ∨ l.drop j = [85, 84] from .inr (hw.2 hl)), if_neg (by simp), h3]
          exact ans_time _ _ _ _ _ _ _ _ _ g.1 g.2.1 g.2.2 (by simp)
        · rw [if_neg (show ¬ (l.drop j = [71, 77, 84] ∨ l.drop j = [85, 84]) from fun hh => hh.elim hG (fun h => hl (hw.1 h))), if_neg (by simp)]
          simp only [ansL]
          rw [if_pos (by omega)]
    · have hc : l.getD j 0 = 71 := by
        have := h1
        unfold stL at this
        rw [hd, List.isPrefixOf, Bool.and_eq_true] at this
        rw [e]
        exact (eq_of_beq this.1).symm
      rw [if_pos rfl, hc]
      have hw := whole_st l j _ h1
      simp only [List.length_cons, List.length_nil, Nat.reduceAdd] at hw
      have hU : ¬ l.drop j = [85, 84] := fun hh => by
        have h2 := congrArg (fun x => x.getD 0 0) hh
        have h3 : (l.drop j).getD 0 0 = l.getD j 0 := by simp [List.getD_eq_getElem?_getD, List.getElem?_drop]
        simp only [h3, hc] at h2
        simp at h2
      by_cases hl : l.length ≤ j + 3
      · have hst : j + 3 ≤ l.length := by
          have : ([71, 77, 84] : List UInt8) <+: l.drop j := by simpa [stL] using h1
          have := this.length_le
          rw [List.length_drop] at this
          simp at this
          omega
        have h3 : l.length = j + 3 := by omega
        rw [if_pos (show l.drop j = [71, 77, 84] ∨ l.drop j = [85, 84] from .inl (hw.2 hl)), if_neg (by simp), h3]
        exact ans_time _ _ _ _ _ _ _ _ _ g.1 g.2.1 g.2.2 (by simp)
      · rw [if_neg (show ¬ (l.drop j = [71, 77, 84] ∨ l.drop j = [85, 84]) from fun hh => hh.elim (fun h => hl (hw.1 h)) hU), if_neg (by simp)]
        simp only [ansL]
        rw [if_pos (by omega)]
  · have hdn : l.drop j = [] := List.drop_eq_nil_of_le hk
    have hs : ∀ c r, stL l j (c :: r) = false := fun c r => by unfold stL; rw [hdn]; rfl
    unfold offL mustL
    rw [hs, hs, hs, hs, hdn]
    simp [ansL, formL]

/-- What the document asks of a text from its day on. -/
def refMailAt (l : List UInt8) (k : Nat) : Int × Int :=
  if formL (piece l k ((if (decide (k + 1 < l.length) && (l.getD (k + 1) 0 == 32)) = true then 1 else 2) + 19)) (List.replicate (if (decide (k + 1 < l.length) && (l.getD (k + 1) 0 == 32)) = true then 1 else 2) 100 ++ FM) = false then (0, 1)
  else if monG (piece l (k + (if (decide (k + 1 < l.length) && (l.getD (k + 1) 0 == 32)) = true then 1 else 2) + 1) 3) 12 = 0 then (0, 1)
  else refZone l (nmL (piece l (k + (if (decide (k + 1 < l.length) && (l.getD (k + 1) 0 == 32)) = true then 1 else 2) + 5) 4)) (monG (piece l (k + (if (decide (k + 1 < l.length) && (l.getD (k + 1) 0 == 32)) = true then 1 else 2) + 1) 3) 12) (nmL (piece l k (if (decide (k + 1 < l.length) && (l.getD (k + 1) 0 == 32)) = true then 1 else 2))) (nmL (piece l (k + (if (decide (k + 1 < l.length) && (l.getD (k + 1) 0 == 32)) = true then 1 else 2) + 10) 2)) (nmL (piece l (k + (if (decide (k + 1 < l.length) && (l.getD (k + 1) 0 == 32)) = true then 1 else 2) + 13) 2)) (nmL (piece l (k + (if (decide (k + 1 < l.length) && (l.getD (k + 1) 0 == 32)) = true then 1 else 2) + 16) 2)) (k + (if (decide (k + 1 < l.length) && (l.getD (k + 1) 0 == 32)) = true then 1 else 2) + 19)
theorem refZone_bad (l : List UInt8) (y m d h n s j : Nat) (hb : ¬ (h ≤ 23 ∧ n ≤ 59 ∧ s ≤ 59)) : refZone l y m d h n s j = (0, 1) := by
  unfold refZone
  rw [timeL_bad _ _ _ _ _ _ _ hb, timeL_bad _ _ _ _ _ _ _ hb]
  simp
theorem rest_ref (l : List UInt8) (d j : Nat) : ansL (mailRest l d j) l.length = if formL (piece l j 19) FM = true then (if monG (piece l (j + 1) 3) 12 = 0 then (0, 1) else refZone l (nmL (piece l (j + 5) 4)) (monG (piece l (j + 1) 3) 12) d (nmL (piece l (j + 10) 2)) (nmL (piece l (j + 13) 2)) (nmL (piece l (j + 16) 2)) (j + 19)) else (0, 1) := by
  rw [rest_form]
  cases hf : formL (piece l j 19) FM
  · simp [ansL]
  · rw [if_pos rfl, if_pos rfl]
    by_cases hm : monG (piece l (j + 1) 3) 12 = 0
    · rw [if_pos hm, if_pos hm]
      rfl
    · rw [if_neg hm, if_neg hm]
      by_cases g : nmL (piece l (j + 10) 2) ≤ 23 ∧ nmL (piece l (j + 13) 2) ≤ 59 ∧ nmL (piece l (j + 16) 2) ≤ 59
      · rw [if_pos g]
        exact zone_ref _ _ _ _ _ _ _ _ g
      · rw [if_neg g, refZone_bad _ _ _ _ _ _ _ _ g]
        rfl
theorem mailAt_rest (l : List UInt8) (k : Nat) : mailAt l k = (shortL l k).bind fun d => mailRest l d.1 d.2 := rfl
theorem dig_space (c : UInt8) (h : c = 32) : digB c = false := by subst h; rfl
theorem at_ref (l : List UInt8) (k : Nat) : ansL (mailAt l k) l.length = refMailAt l k := by
  rw [mailAt_rest]
  unfold refMailAt shortL
  cases hb : (decide (k + 1 < l.length) && (l.getD (k + 1) 0 == 32))
  · -- two digits are asked for
    simp only [Bool.false_eq_true, if_false, List.replicate_succ, List.replicate_zero, Nat.reduceAdd]
    have sp := form_split l k [100, 100] FM 2 19 rfl
    simp only [Nat.reduceAdd] at sp
    rw [sp]
    cases hd : (decide (k + 1 < l.length) && digB (l.getD (k + 1) 0))
    · rw [if_neg (by simp), num_one]
      have hne : formL (piece l k 2) [100, 100] = false := by
        by_cases hk : k + 1 < l.length
        · rw [decide_eq_true hk, Bool.true_and] at hd
          rw [piece_succ (by omega), piece_succ hk]
          rw [formL, formL, show okC (l.getD k 0) 100 = digB (l.getD k 0) from rfl, show okC (l.getD (k + 1) 0) 100 = digB (l.getD (k + 1) 0) from rfl, hd]
          simp
        · refine formL_ne _ _ ?_
          unfold piece
          rw [List.length_take, List.length_drop]
          simp
          omega
      rw [hne]
      simp only [Bool.false_and, if_true]
      cases hp : formL (piece l k 1) [100]
      · simp [ansL]
      · simp only [if_true, Option.bind_some]
        rw [rest_ref]
        have hFM : formL (piece l (k + 1) 19) FM = false := by
          have s1 := form_split l (k + 1) [32] [97, 97, 97, 32, 100, 100, 100, 100, 32, 100, 100, 58, 100, 100, 58, 100, 100, 32] 1 18 rfl
          have e1 : formL (piece l (k + 1) 19) FM = (formL (piece l (k + 1) 1) [32] && formL (piece l (k + 1 + 1) 18) [97, 97, 97, 32, 100, 100, 100, 100, 32, 100, 100, 58, 100, 100, 58, 100, 100, 32]) := s1
          rw [e1]
          have e2 : formL (piece l (k + 1) 1) [32] = false := by
            by_cases hk : k + 1 < l.length
            · rw [decide_eq_true hk, Bool.true_and] at hb
              rw [piece_succ hk]
              simp only [piece, List.take_zero, formL, okC]
              rw [if_neg (by decide), if_neg (by decide), hb]
              rfl
            · rw [piece_none hk]
              rfl
          rw [e2]
          rfl
        rw [hFM]
        rfl
    · rw [if_pos rfl, num_two]
      cases hp : formL (piece l k 2) [100, 100]
      · simp [ansL]
      · simp only [if_true, Option.bind_some, Bool.true_and]
        rw [rest_ref]
        cases formL (piece l (k + 2) 19) FM
        · rfl
        · simp only [if_true, Bool.true_eq_false, if_false]
  · -- one digit, and a blank behind it
    simp only [if_true, List.replicate_succ, List.replicate_zero, Nat.reduceAdd]
    have sp := form_split l k [100] FM 1 19 rfl
    simp only [Nat.reduceAdd] at sp
    rw [sp]
    rw [Bool.and_eq_true, beq_iff_eq] at hb
    rw [dig_space _ hb.2, Bool.and_false, if_neg (by simp), num_one]
    cases hp : formL (piece l k 1) [100]
    · simp [ansL]
    · simp only [if_true, Option.bind_some, Bool.true_and]
      rw [rest_ref]
      cases formL (piece l (k + 1) 19) FM
      · rfl
      · simp only [if_true, Bool.true_eq_false, if_false]

/-! ### the weekday -/
def preB (l : List UInt8) : Bool := decide (5 < l.length) && formL (l.take 5) [97, 97, 97, 44, 32]
def refMail (l : List UInt8) : Int × Int := refMailAt l (if preB l = true then 5 else 0)
theorem let_dig (c : UInt8) (h : letterB c = true) : digB c = false := by
  unfold letterB smallB bigB at h
  unfold digB
  simp at h
  simp
  omega
theorem ref_letter (l : List UInt8) (k : Nat) (hk : k < l.length) (h : letterB (l.getD k 0) = true) : refMailAt l k = (0, 1) := by
  unfold refMailAt
  have hd := let_dig _ h
  cases (decide (k + 1 < l.length) && (l.getD (k + 1) 0 == 32))
  · rw [if_pos]
    simp only [Bool.false_eq_true, if_false, List.replicate_succ, Nat.reduceAdd]
    rw [piece_succ hk, List.cons_append, formL, show okC (l.getD k 0) 100 = digB (l.getD k 0) from rfl, hd]
    rfl
  · rw [if_pos]
    simp only [if_true, List.replicate_succ, Nat.reduceAdd]
    rw [piece_succ hk, List.cons_append, formL, show okC (l.getD k 0) 100 = digB (l.getD k 0) from rfl, hd]
    rfl
theorem pass_zero (l : List UInt8) (h : passLen letterB l = 0) : l = [] ∨ (0 < l.length ∧ letterB (l.getD 0 0) = false) := by
  cases l with
  | nil => exact .inl rfl
  | cons c l =>
    right
    refine ⟨by simp, ?_⟩
    cases hc : letterB c
    · simpa using hc
    · simp [passLen, hc] at h
theorem pass_pos (l : List UInt8) (h : passLen letterB l ≠ 0) : 0 < l.length ∧ letterB (l.getD 0 0) = true := by
  cases l with
  | nil => simp [passLen] at h
  | cons c l =>
    refine ⟨by simp, ?_⟩
    cases hc : letterB c
    · simp [passLen, hc] at h
    · simpa using hc
theorem pre_pass (l : List UInt8) (h : formL (l.take 5) [97, 97, 97, 44, 32] = true) : passLen letterB l = 3 ∧ stL l 3 [44, 32] = true := by
  match l, h with
  | [], h => simp [formL] at h
  | [a], h => simp [formL] at h
  | [a, b], h => simp [formL] at h
  | [a, b, c], h => simp [formL] at h
  | [a, b, c, d], h => simp [formL] at h
  | a :: b :: c :: d :: e :: r, h =>
    simp only [List.take_succ_cons, List.take_zero, formL, okC, Bool.and_true, Bool.and_eq_true] at h
    obtain ⟨h1, h2, h3, h4, h5⟩ := h
    have h1 : letterB a = true := h1
    have h2 : letterB b = true := h2
    have h3 : letterB c = true := h3
    have h4 : d = 44 := eq_of_beq h4
    have h5 : e = 32 := eq_of_beq h5
    subst h4
    subst h5
    have h6 : letterB 44 = false := by decide
    constructor
    · simp [passLen, h1, h2, h3, h6]
    · rfl
theorem pass_pre (l : List UInt8) (h : passLen letterB l = 3) (hs : stL l 3 [44, 32] = true) : formL (l.take 5) [97, 97, 97, 44, 32] = true := by
  match l, h, hs with
  | [], h, _ => simp [passLen] at h
  | [a], h, hs => simp [stL] at hs
  | [a, b], h, hs => simp [stL] at hs
  | [a, b, c], h, hs => simp [stL] at hs
  | a :: b :: c :: r, h, hs =>
    have ha : letterB a = true := by
      cases hh : letterB a
      · simp [passLen, hh] at h
      · rfl
    have hb : letterB b = true := by
      cases hh : letterB b
      · simp [passLen, ha, hh] at h
      · rfl
    have hc : letterB c = true := by
      cases hh : letterB c
      · simp [passLen, ha, hb, hh] at h
      · rfl
    have hr : ([44, 32] : List UInt8) <+: r := by simpa [stL] using hs
    obtain ⟨t, rfl⟩ := hr
    show (letterB a && (letterB b && (letterB c && (true && (true && true))))) = true
    rw [ha, hb, hc]
    rfl
theorem mail_ref (l : List UInt8) : ansL (mailL l) l.length = refMail l := by
  rw [mail_at]
  unfold refMail weekL
  rw [List.drop_zero]
  by_cases h0 : passLen letterB l = 0
  · rw [if_pos h0]
    have hp : preB l = false := by
      unfold preB
      cases hf : formL (l.take 5) [97, 97, 97, 44, 32]
      · simp
      · have := (pre_pass l hf).1
        omega
    rw [hp]
    exact at_ref l 0
  · rw [if_neg h0]
    obtain ⟨hl, hlet⟩ := pass_pos l h0
    by_cases h3 : passLen letterB l = 3
    · rw [if_pos h3]
      unfold mustL
      simp only [Nat.zero_add]
      cases hs : stL l 3 [44, 32]
      · have hp : preB l = false := by
          unfold preB
          cases hf : formL (l.take 5) [97, 97, 97, 44, 32]
          · simp
          · have := (pre_pass l hf).2
            rw [hs] at this
            simp at this
        rw [hp, if_neg (by simp), if_neg (by simp), ref_letter l 0 hl hlet]
        rfl
      · rw [if_pos rfl]
        have hf := pass_pre l h3 hs
        by_cases h5 : 5 < l.length
        · have hp : preB l = true := by unfold preB; rw [decide_eq_true h5, hf]; rfl
          rw [hp, if_pos rfl]
          exact at_ref l 5
        · have hp : preB l = false := by unfold preB; rw [decide_eq_false h5]; rfl
          rw [hp, if_neg (by simp), ref_letter l 0 hl hlet]
          simp only [Option.bind_some, List.length_cons, List.length_nil, Nat.reduceAdd]
          rw [at_ref]
          unfold refMailAt
          rw [if_pos]
          refine formL_ne _ _ ?_
          rw [piece_none (by omega)]
          simp [FM]
    · rw [if_neg h3]
      have hp : preB l = false := by
        unfold preB
        cases hf : formL (l.take 5) [97, 97, 97, 44, 32]
        · simp
        · exact absurd (pre_pass l hf).1 h3
      rw [hp, if_neg (by simp), ref_letter l 0 hl hlet]
      rfl
end Go.Proofs.YtngojdajamgabadDoor
