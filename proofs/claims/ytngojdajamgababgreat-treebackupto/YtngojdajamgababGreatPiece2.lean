/- piece, where it is a declaration, or text. -/
import Derived.Test.YtngojdajamgababGreatPiece
namespace Go.Proofs.YtngojdajamgababGreat
open Go.RowKit Go.Maps

/-- An ending whose answer is not looked at. -/
def noAns : Ending → Ending
  | .returned _ => .returned (.tuple #[])
  | e => e

theorem decl_fin (B r b : Nat) (rawv outv : Value) (raw : List UInt8) (l : List (Tok × Value)) (s : ByteArray) (k : Nat) (w : World) (w4 : World) (h4 : Rd w4 B r b rawv outv raw l) (hT4 : IsText w4 b s k) (hk : Keeps [] w w4) (x : Nat → Value) (e : Ending) (w5 : World)
    (hx : ((∃ m, endOf [62] (s.data.toList.drop k) = some m ∧ e = .returned (x m) ∧ IsText w5 b s (k + m)) ∨ (endOf [62] (s.data.toList.drop k) = none ∧ e = .panicked gave ∧ IsText w5 b s k)) ∧ Keeps [b] w4 w5) :
    PieceDone B r b rawv outv raw l s w (declL s.data.toList k raw (l.map (·.1))) (noAns e) w5 := by
  unfold declL
  obtain ⟨⟨m, hA, rfl, hT5⟩ | ⟨hA, rfl, hT5⟩, hk5⟩ := hx
  · rw [hA]
    exact ⟨.inl ⟨_, _, _, _, l, rfl, rfl, h4.keepsText hT4 hk5, hT5⟩, keeps_text ((hk.to (by simp)).trans hk5)⟩
  · rw [hA]
    exact ⟨.inr ⟨rfl, rfl, h4.keepsText hT4 hk5, _, hT5⟩, keeps_text ((hk.to (by simp)).trans hk5)⟩

set_option maxRecDepth 4000 in
set_option maxHeartbeats 4000000 in
theorem piece_decl (B r b : Nat) (rawv outv : Value) (raw : List UInt8) (l : List (Tok × Value)) (s : ByteArray) (k : Nat) (w : World) (hs : s.size ≤ 3000) (h : Rd w B r b rawv outv raw l) (hT : IsText w b s k)
    (hlt : k < s.size) (c1 : tagAt s k ⟨#[60]⟩ = false) (c2 : tagAt s k ⟨#[60, 47]⟩ = false) (c3 : stAt s k [60, 33, 45, 45] = false) (c4 : (stAt s k [60, 33] || (stAt s k [60, 63] || stAt s k [60, 47])) = true) :
    Calls Tryz.prog 44 #[.pointer (some ⟨r, 0, none⟩)] w fun e w' => PieceDone B r b rawv outv raw l s w (declL s.data.toList k raw (l.map (·.1))) e w' := by
  have t1 := hide (tag_any r b rawv outv s ⟨#[60]⟩ k w hs (by decide) h.reader hT (by omega))
  have t2 := hide (fun (w : World) hR hT => tag_any r b rawv outv s ⟨#[60, 47]⟩ k w hs (by decide) hR hT (by omega))
  have t3 := hide (fun (w : World) hT => beg_any b s k ⟨#[60, 33, 45, 45]⟩ w hT (by omega))
  have t4 := hide (fun (w : World) hT => beg_any b s k ⟨#[60, 33]⟩ w hT (by omega))
  have t5 := hide (fun (w : World) hT => beg_any b s k ⟨#[60, 63]⟩ w hT (by omega))
  have t6 := hide (fun (w : World) hT => beg_any b s k ⟨#[60, 47]⟩ w hT (by omega))
  rw [c1] at t1
  rw [c2] at t2
  rw [show stAt s k (⟨#[60, 33, 45, 45]⟩ : ByteArray).data.toList = false from c3] at t3
  rw [show (⟨#[60, 33]⟩ : ByteArray).data.toList = [60, 33] from rfl] at t4
  rw [show (⟨#[60, 63]⟩ : ByteArray).data.toList = [60, 63] from rfl] at t5
  rw [show (⟨#[60, 47]⟩ : ByteArray).data.toList = [60, 47] from rfl] at t6
  have p2 := hide (fun (w : World) hT hM => passTo_any b s k ⟨#[62]⟩ w hs (by decide) hT (by omega) hM)
  have FIN := hide (decl_fin B r b rawv outv raw l s k w)
  generalize declL s.data.toList k raw (l.map (·.1)) = P at *
  rw [show (⟨#[62]⟩ : ByteArray).data.toList = [62] from rfl] at p2
  generalize endOf [62] (s.data.toList.drop k) = A at *
  generalize stAt s k [60, 33] = q4 at *
  generalize stAt s k [60, 63] = q5 at *
  generalize stAt s k [60, 47] = q6 at *
  clear c1 c2 c3
  go_enter Tryz.func44, Tryz.ntmps44
  go_wp2_with fail
  refine t1.out.mono ?_
  rintro e w1 ⟨rfl, hT1, hk1⟩
  have h1 := h.keepsNil hk1
  go_wp2_with fail
  refine (t2.out _ h1.reader hT1).mono ?_
  rintro e w2 ⟨rfl, hT2, hk2⟩
  have h2 := h1.keepsNil hk2
  have d2 := h2.reader.cell0
  go_wp2_with fail
  refine (t3.out _ hT2).mono ?_
  rintro e w3 ⟨rfl, hT3, hk3⟩
  have h3 := h2.keepsNil hk3
  have d3 := h3.reader.cell0
  have hk03 := (hk1.trans hk2).trans hk3
  clear d2
  go_wp2_with fail
  refine (t4.out _ hT3).mono ?_
  rintro e w4 ⟨rfl, hT4, hk4⟩
  have h4 := h3.keepsNil hk4
  have d4 := h4.reader.cell0
  have hk04 := hk03.trans hk4
  clear d3
  cases q4
  · go_wp2_with fail
    refine (t5.out _ hT4).mono ?_
    rintro e w5 ⟨rfl, hT5, hk5⟩
    have h5 := h4.keepsNil hk5
    have d5 := h5.reader.cell0
    have hk05 := hk04.trans hk5
    clear d4
    cases q5
    · go_wp2_with fail
      refine (t6.out _ hT5).mono ?_
      rintro e w6 ⟨rfl, hT6, hk6⟩
      have h6 := h5.keepsNil hk6
      have d6 := h6.reader.cell0
      have hk06 := hk05.trans hk6
      have hq6 : q6 = true := by simpa using c4
      subst hq6
      clear d5
      go_wp2_with fail
      refine (p2.out _ hT6 h6.max).mono ?_
      rintro e w7 hx
      have hD := hide (FIN.out _ h6 hT6 hk06 _ e w7 hx)
      rcases hx with ⟨⟨m, _, rfl, _⟩ | ⟨_, rfl, _⟩, _⟩
      · go_wp2_with fail
        go_end0
        exact hD.out
      · go_wp2_with fail
        exact ⟨rfl, hD.out⟩
    · go_wp2_with fail
      refine (p2.out _ hT5 h5.max).mono ?_
      rintro e w7 hx
      have hD := hide (FIN.out _ h5 hT5 hk05 _ e w7 hx)
      rcases hx with ⟨⟨m, _, rfl, _⟩ | ⟨_, rfl, _⟩, _⟩
      · go_wp2_with fail
        go_end0
        exact hD.out
      · go_wp2_with fail
        exact ⟨rfl, hD.out⟩
  · go_wp2_with fail
    refine (p2.out _ hT4 h4.max).mono ?_
    rintro e w7 hx
    have hD := hide (FIN.out _ h4 hT4 hk04 _ e w7 hx)
    rcases hx with ⟨⟨m, _, rfl, _⟩ | ⟨_, rfl, _⟩, _⟩
    · go_wp2_with fail
      go_end0
      exact hD.out
    · go_wp2_with fail
      exact ⟨rfl, hD.out⟩
end Go.Proofs.YtngojdajamgababGreat
