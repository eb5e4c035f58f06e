/- piece, whatever stands there; how far it goes. Try, for a method's value. -/
import Derived.Test.YtngojdajamgababGreatPieceText
namespace Go.Proofs.YtngojdajamgababGreat
open Go.RowKit Go.Maps

def stL (l : List UInt8) (k : Nat) (p : List UInt8) : Bool := p.isPrefixOf (l.drop k)
def tagL (l : List UInt8) (k : Nat) (p : List UInt8) : Bool := stL l k p && (decide (k + p.length < l.length) && letterB (l.getD (k + p.length) 0))

/-- What a piece is, and what comes of it. -/
def pieceL (l : List UInt8) (k : Nat) (raw : List UInt8) (out : List Tok) : Option (Nat × List UInt8 × List Tok) :=
  if tagL l k [60] = true then openL l k raw out
  else if tagL l k [60, 47] = true then closeL l k raw out
  else if stL l k [60, 33, 45, 45] = true then comL l k raw out
  else if (stL l k [60, 33] || (stL l k [60, 63] || stL l k [60, 47])) = true then declL l k raw out
  else textL l k raw out

theorem piece_any (B r b : Nat) (rawv outv : Value) (raw : List UInt8) (l : List (Tok × Value)) (s : ByteArray) (k : Nat) (w : World) (hs : s.size ≤ 3000) (h : Rd w B r b rawv outv raw l) (hT : IsText w b s k) (hB : B ≤ w.heap.size) (hraw : raw.length ≤ 3000) (hl : l.length ≤ 90000) (hlt : k < s.size) :
    Calls Tryz.prog 44 #[.pointer (some ⟨r, 0, none⟩)] w fun e w' => PieceDone B r b rawv outv raw l s w (pieceL s.data.toList k raw (l.map (·.1))) e w' := by
  unfold pieceL
  by_cases c1 : tagL s.data.toList k [60] = true
  · rw [if_pos c1]
    exact piece_open B r b rawv outv raw l s k w hs h hT hB hraw hl hlt c1
  rw [if_neg c1]
  have c1' : tagAt s k ⟨#[60]⟩ = false := by simpa using (show ¬ tagAt s k ⟨#[60]⟩ = true from c1)
  by_cases c2 : tagL s.data.toList k [60, 47] = true
  · rw [if_pos c2]
    exact piece_close B r b rawv outv raw l s k w hs h hT hB hraw hl hlt c1' c2
  rw [if_neg c2]
  have c2' : tagAt s k ⟨#[60, 47]⟩ = false := by simpa using (show ¬ tagAt s k ⟨#[60, 47]⟩ = true from c2)
  by_cases c3 : stL s.data.toList k [60, 33, 45, 45] = true
  · rw [if_pos c3]
    exact piece_comment B r b rawv outv raw l s k w hs h hT hlt c1' c2' c3
  rw [if_neg c3]
  have c3' : stAt s k [60, 33, 45, 45] = false := by simpa using (show ¬ stAt s k [60, 33, 45, 45] = true from c3)
  by_cases c4 : (stL s.data.toList k [60, 33] || (stL s.data.toList k [60, 63] || stL s.data.toList k [60, 47])) = true
  · rw [if_pos c4]
    exact piece_decl B r b rawv outv raw l s k w hs h hT hlt c1' c2' c3' c4
  rw [if_neg c4]
  have c4' : stAt s k [60, 33] = false ∧ stAt s k [60, 63] = false ∧ stAt s k [60, 47] = false := by simpa using (show ¬ (stAt s k [60, 33] || (stAt s k [60, 63] || stAt s k [60, 47])) = true from c4)
  exact piece_text B r b rawv outv raw l s k w hs h hT hB hraw hlt c1' c2' c3' c4'.1 c4'.2.1 c4'.2.2

theorem index_len : ∀ (l p : List UInt8), 0 ≤ Lib.index l p → Lib.index l p + p.length ≤ l.length
  | [], p => by
    unfold Lib.index
    split
    · rename_i h; simp_all
    · simp
  | c :: l, p => by
    have ih := index_len l p
    unfold Lib.index
    split
    · rename_i h
      have h' : p <+: c :: l := by simpa using h
      have := h'.length_le
      simp at this ⊢; omega
    · split
      · simp
      · rename_i h2
        intro h
        have h3 : Lib.index l p ≠ -1 := by simpa using h2
        simp only [List.length_cons]
        have := ih (by omega)
        omega

theorem endOf_len {p l : List UInt8} {m : Nat} (h : endOf p l = some m) : p.length ≤ m ∧ m ≤ l.length := by
  unfold endOf at h
  split at h
  · simp at h
  · simp only [Option.some.injEq] at h
    have := index_len l p (by omega)
    omega

theorem attrsAt_bound (l : List UInt8) : ∀ (f k : Nat) (acc a : List Pair) (k2 : Nat), attrsAt l f k acc = some (a, k2) → k ≤ k2 ∧ k2 < l.length
  | 0, k, acc, a, k2, h => by simp [attrsAt] at h
  | f + 1, k, acc, a, k2, h => by
    have e := (one_attrsAt h _ rfl).symm
    split at e
    · simp at e
    · rename_i d q hd
      have h2 := congrArg List.length hd
      simp only [List.length_drop, List.length_cons] at h2
      split at e
      · simp only [Option.some.injEq, Prod.mk.injEq] at e
        omega
      · split at e
        · simp at e
        · have := attrsAt_bound l f _ _ _ _ e
          omega

theorem endT_len (raw : List UInt8) : (endT raw).length ≤ 1 := by unfold endT; split <;> simp

theorem pieceL_bound {l : List UInt8} {k : Nat} {raw : List UInt8} {out : List Tok} {k' : Nat} {raw' : List UInt8} {out' : List Tok} (h : pieceL l k raw out = some (k', raw', out')) (hk : k < l.length) :
    k < k' ∧ k' ≤ l.length ∧ raw'.length + k ≤ raw.length + k' ∧ out'.length ≤ out.length + 2 := by
  unfold pieceL at h
  have he := endT_len raw
  split at h
  · unfold openL at h
    split at h
    · simp at h
    · rename_i a k2 ha
      have hb := attrsAt_bound _ _ _ _ _ _ ha
      split at h <;> simp only [Option.some.injEq, Prod.mk.injEq] at h <;> obtain ⟨rfl, rfl, rfl⟩ := h <;> simp <;> omega
  split at h
  · unfold closeL at h
    split at h
    · simp at h
    · rename_i m hm
      have hb := endOf_len hm
      rw [List.length_drop] at hb
      simp only [List.length_cons, List.length_nil] at hb
      split at h <;> simp only [Option.some.injEq, Prod.mk.injEq] at h <;> obtain ⟨rfl, rfl, rfl⟩ := h <;> simp <;> omega
  split at h
  · unfold comL at h
    split at h
    · simp at h
    · rename_i m hm
      have hb := endOf_len hm
      rw [List.length_drop] at hb
      simp only [List.length_cons, List.length_nil] at hb
      simp only [Option.some.injEq, Prod.mk.injEq] at h
      obtain ⟨rfl, rfl, rfl⟩ := h
      omega
  split at h
  · unfold declL at h
    split at h
    · simp at h
    · rename_i m hm
      have hb := endOf_len hm
      rw [List.length_drop] at hb
      simp only [List.length_cons, List.length_nil] at hb
      simp only [Option.some.injEq, Prod.mk.injEq] at h
      obtain ⟨rfl, rfl, rfl⟩ := h
      omega
  · unfold textL at h
    have hb := (List.takeWhile_sublist (l := l.drop (k + 1)) (p := noLt)).length_le
    rw [List.length_drop] at hb
    simp only [Option.some.injEq, Prod.mk.injEq] at h
    obtain ⟨rfl, rfl, rfl⟩ := h
    simp
    omega

set_option maxRecDepth 100000 in
set_option maxHeartbeats 400000 in
/-- Try, for a method's value: K reads, or gives up; S lists what K may turn. -/
theorem try_first (K : Nat) (recv : Value) (Yes No : World → Prop) (S : List Nat) (b : Nat) (s : ByteArray) (k : Nat) (w : World) (hT : IsText w b s k) (hK : Enters K) (hb : b ∈ S) (hS : ∀ i, i ∈ S → i < w.heap.size) (hNo : ∀ w2 w3, No w2 → Keeps [b] w2 w3 → No w3)
    (hread : ∀ w1, Keeps [] w w1 → Calls Tryz.prog K #[recv] w1 fun e w2 => (e = .returned (.tuple #[]) ∧ Yes w2 ∨ e = .panicked gave ∧ No w2 ∧ ∃ j, IsText w2 b s j) ∧ Keeps S w1 w2) :
    Calls Tryz.prog 43 #[.pointer (some ⟨b, 0, none⟩), .func (.func K) #[recv] #[]] w fun e w' =>
      (e = .returned (.bool true) ∧ Yes w' ∨ e = .returned (.bool false) ∧ No w' ∧ IsText w' b s k) ∧ Keeps S w w' := by
  have hmf : ∀ (fn : Fn) (first cap : Array Value) (w : World), (Instr.makeFunc fn first cap).run Tryz.prog w = .ok (.func fn first cap) w := fun _ _ _ _ => rfl
  have hK' := hK
  unfold Enters at hK'
  have c1 : ∀ o, (w.alloc o).cell? ⟨b, 1, none⟩ = some (.int .i64 (k : Int)) := fun o => (cell_past hT.lt o).trans hT.cell1
  have hkS : ∀ w2, Keeps S ((w.alloc (.cells #[.pointer (some ⟨b, 0, none⟩)] 71)).alloc (.cells #[.int .i64 (k : Int)] 3)) w2 → Keeps S w w2 := fun w2 h => (((Keeps.refl S w).alloc _).alloc _).trans h
  go_enter_defers Tryz.func43, Tryz.ntmps43
  go_wp2_with fail
  refine (hread _ (((Keeps.refl [] w).alloc _).alloc _)).mono ?_
  rintro e w2 ⟨⟨rfl, hy⟩ | ⟨rfl, hno, j, hj⟩, hk⟩
  · go_wp2_with fail
    refine leaves_cons (f := 66) (args := #[.pointer (some ⟨w.heap.size + 1, 0, none⟩), .pointer (some ⟨w.heap.size, 0, none⟩)]) (by simp) (by simp [go_sem]) ?_
    refine (catch_idle _ _ _).mono ?_
    rintro e u' w3 ⟨rfl, rfl, rfl⟩
    exact ⟨_, results_tmp rfl _ _ _, .inl ⟨rfl, hy⟩, hkS _ hk⟩
  · go_wp2_with fail
    refine leaves_cons (f := 66) (args := #[.pointer (some ⟨w.heap.size + 1, 0, none⟩), .pointer (some ⟨w.heap.size, 0, none⟩)]) (by simp) (by simp [go_sem]) ?_
    refine (catch_panicking b s k j (w.heap.size + 1) w.heap.size _ hj ?_ ?_).mono ?_
    · rw [hk.block _ (by rw [two_size]; omega) (fun h => by have := hS _ h; omega)]
      exact two_snd _ _ _
    · rw [hk.block _ (by rw [two_size]; omega) (fun h => by have := hS _ h; omega)]
      exact two_fst _ _ _
    rintro e u' w3 ⟨rfl, rfl, hT3, hk3⟩
    exact ⟨_, results_tmp rfl _ _ _, .inr ⟨rfl, hNo _ _ hno hk3, hT3⟩, (hkS _ hk).trans (hk3.mono fun i hi _ => by simp at hi; subst hi; exact hb)⟩
end Go.Proofs.YtngojdajamgababGreat
