/- piece: a tag, a comment, or text. -/
import Derived.Test.YtngojdajamgababGreatOpenTag
namespace Go.Proofs.YtngojdajamgababGreat
open Go.RowKit Go.Maps

/-- Is a mark here, and a letter behind it? -/
def tagAt (s : ByteArray) (k : Nat) (p : ByteArray) : Bool := stAt s k p.data.toList && (decide (k + p.size < s.size) && letterB (byteAt s (k + p.size)))

theorem beg_any (b : Nat) (s : ByteArray) (k : Nat) (p : ByteArray) (w : World) (hT : IsText w b s k) (hk : k ≤ s.size) :
    Calls Tryz.prog 70 #[.pointer (some ⟨b, 0, none⟩), .string p] w fun e w' => e = .returned (.bool (stAt s k p.data.toList)) ∧ IsText w' b s k ∧ Keeps [] w w' :=
  (begins_any b s k p w hT hk).mono fun _ _ ⟨he, _, hw⟩ => ⟨he, by rw [hw]; exact hT, by rw [hw]; exact (Keeps.refl _ _).drewN _⟩

theorem tag_any (r b : Nat) (rawv outv : Value) (s p : ByteArray) (k : Nat) (w : World) (hs : s.size ≤ 3000) (hp : p.size ≤ 3000) (hR : IsReader w r b rawv outv) (hT : IsText w b s k) (hk : k ≤ s.size) :
    Calls Tryz.prog 67 #[.pointer (some ⟨r, 0, none⟩), .string p] w fun e w' => e = .returned (.bool (tagAt s k p)) ∧ IsText w' b s k ∧ Keeps [] w w' :=
  tagBegins_any r b rawv outv s p k w hs hp hR hT hk

/-- What a piece answers. -/
def PieceDone (B r b : Nat) (rawv outv : Value) (raw : List UInt8) (l : List (Tok × Value)) (s : ByteArray) (w : World) (P : Option (Nat × List UInt8 × List Tok)) (e : Ending) (w' : World) : Prop :=
  ((∃ k' raw' rawv' outv' l', P = some (k', raw', l'.map (·.1)) ∧ e = .returned (.tuple #[]) ∧ Rd w' B r b rawv' outv' raw' l' ∧ IsText w' b s k') ∨
   (P = none ∧ e = .panicked gave ∧ Rd w' B r b rawv outv raw l ∧ ∃ j, IsText w' b s j)) ∧ Keeps (b :: touch r rawv outv) w w'

theorem PieceDone.nil {B r b : Nat} {rawv outv : Value} {raw : List UInt8} {l : List (Tok × Value)} {s : ByteArray} {w0 w : World} {P : Option (Nat × List UInt8 × List Tok)} {e : Ending} {w' : World} (h : PieceDone B r b rawv outv raw l s w P e w') (hk : Keeps [] w0 w) : PieceDone B r b rawv outv raw l s w0 P e w' :=
  ⟨h.1, (hk.to (by simp)).trans h.2⟩

theorem st_len {s : ByteArray} {k : Nat} {p : List UInt8} (h : stAt s k p = true) (hk : k ≤ s.size) : k + p.length ≤ s.size := by
  have h' : p <+: s.data.toList.drop k := by unfold stAt at h; simpa using h
  have := h'.length_le
  have hl := len_size s
  rw [List.length_drop] at this
  omega

def comL (l : List UInt8) (k : Nat) (raw : List UInt8) (out : List Tok) : Option (Nat × List UInt8 × List Tok) :=
  match endOf [45, 45, 62] (l.drop (k + 2)) with
  | none => none
  | some m => some (k + 2 + m, raw, out)
def declL (l : List UInt8) (k : Nat) (raw : List UInt8) (out : List Tok) : Option (Nat × List UInt8 × List Tok) :=
  match endOf [62] (l.drop k) with
  | none => none
  | some m => some (k + m, raw, out)
def textL (l : List UInt8) (k : Nat) (raw : List UInt8) (out : List Tok) : Option (Nat × List UInt8 × List Tok) :=
  some (k + 1 + ((l.drop (k + 1)).takeWhile noLt).length, raw ++ [l.getD k 0] ++ (l.drop (k + 1)).takeWhile noLt, out)

set_option maxRecDepth 4000 in
set_option maxHeartbeats 4000000 in
theorem piece_open (B r b : Nat) (rawv outv : Value) (raw : List UInt8) (l : List (Tok × Value)) (s : ByteArray) (k : Nat) (w : World) (hs : s.size ≤ 3000) (h : Rd w B r b rawv outv raw l) (hT : IsText w b s k) (hB : B ≤ w.heap.size) (hraw : raw.length ≤ 3000) (hl : l.length ≤ 90000)
    (hlt : k < s.size) (c1 : tagAt s k ⟨#[60]⟩ = true) :
    Calls Tryz.prog 44 #[.pointer (some ⟨r, 0, none⟩)] w fun e w' => PieceDone B r b rawv outv raw l s w (openL s.data.toList k raw (l.map (·.1))) e w' := by
  have hst : stAt s k [60] = true := by unfold tagAt at c1; simp only [Bool.and_eq_true] at c1; exact c1.1
  have t1 := hide (tag_any r b rawv outv s ⟨#[60]⟩ k w hs (by decide) h.reader hT (by omega))
  rw [c1] at t1
  have HO := hide (fun (w : World) (h : Rd w B r b rawv outv raw l) (hT : IsText w b s k) (hB : B ≤ w.heap.size) => openTag_any B r b rawv outv raw l s k w hs h hT hB hraw hl hlt hst)
  generalize openL s.data.toList k raw (l.map (·.1)) = P at *
  clear c1 hst
  go_enter Tryz.func44, Tryz.ntmps44
  go_wp2_with fail
  refine t1.out.mono ?_
  rintro e w1 ⟨rfl, hT1, hk1⟩
  go_wp2_with fail
  refine (HO.out _ (h.keepsNil hk1) hT1 (Nat.le_trans hB hk1.size)).mono ?_
  rintro e w2 hD
  have hD' : PieceDone B r b rawv outv raw l s w P e w2 := PieceDone.nil hD hk1
  have hD2 := hide hD'
  rcases hD.1 with ⟨_, _, _, _, _, _, rfl, _⟩ | ⟨_, rfl, _⟩
  · clear hD hD'
    go_wp2_with fail
    go_end0
    exact hD2.out
  · clear hD hD'
    go_wp2_with fail
    exact ⟨rfl, hD2.out⟩

set_option maxRecDepth 4000 in
set_option maxHeartbeats 4000000 in
theorem piece_close (B r b : Nat) (rawv outv : Value) (raw : List UInt8) (l : List (Tok × Value)) (s : ByteArray) (k : Nat) (w : World) (hs : s.size ≤ 3000) (h : Rd w B r b rawv outv raw l) (hT : IsText w b s k) (hB : B ≤ w.heap.size) (hraw : raw.length ≤ 3000) (hl : l.length ≤ 90000)
    (hlt : k < s.size) (c1 : tagAt s k ⟨#[60]⟩ = false) (c2 : tagAt s k ⟨#[60, 47]⟩ = true) :
    Calls Tryz.prog 44 #[.pointer (some ⟨r, 0, none⟩)] w fun e w' => PieceDone B r b rawv outv raw l s w (closeL s.data.toList k raw (l.map (·.1))) e w' := by
  have hst : stAt s k [60, 47] = true := by unfold tagAt at c2; simp only [Bool.and_eq_true] at c2; exact c2.1
  have t1 := hide (tag_any r b rawv outv s ⟨#[60]⟩ k w hs (by decide) h.reader hT (by omega))
  have t2 := hide (fun (w : World) hR hT => tag_any r b rawv outv s ⟨#[60, 47]⟩ k w hs (by decide) hR hT (by omega))
  rw [c1] at t1
  rw [c2] at t2
  have HO := hide (fun (w : World) (h : Rd w B r b rawv outv raw l) (hT : IsText w b s k) (hB : B ≤ w.heap.size) => closeTag_any B r b rawv outv raw l s k w hs h hT hB hraw hl (st_len hst (by omega)) hst)
  generalize closeL s.data.toList k raw (l.map (·.1)) = P at *
  clear c1 c2 hst
  go_enter Tryz.func44, Tryz.ntmps44
  go_wp2_with fail
  refine t1.out.mono ?_
  rintro e w1 ⟨rfl, hT1, hk1⟩
  have h1 := h.keepsNil hk1
  go_wp2_with fail
  refine (t2.out _ h1.reader hT1).mono ?_
  rintro e w2 ⟨rfl, hT2, hk2⟩
  have h2 := h1.keepsNil hk2
  go_wp2_with fail
  refine (HO.out _ h2 hT2 (Nat.le_trans hB (Nat.le_trans hk1.size hk2.size))).mono ?_
  rintro e w3 hD
  have hD' : PieceDone B r b rawv outv raw l s w P e w3 := PieceDone.nil hD (hk1.trans hk2)
  have hD2 := hide hD'
  rcases hD.1 with ⟨_, _, _, _, _, _, rfl, _⟩ | ⟨_, rfl, _⟩
  · clear hD hD'
    go_wp2_with fail
    go_end0
    exact hD2.out
  · clear hD hD'
    go_wp2_with fail
    exact ⟨rfl, hD2.out⟩

set_option maxRecDepth 4000 in
set_option maxHeartbeats 4000000 in
theorem piece_comment (B r b : Nat) (rawv outv : Value) (raw : List UInt8) (l : List (Tok × Value)) (s : ByteArray) (k : Nat) (w : World) (hs : s.size ≤ 3000) (h : Rd w B r b rawv outv raw l) (hT : IsText w b s k)
    (hlt : k < s.size) (c1 : tagAt s k ⟨#[60]⟩ = false) (c2 : tagAt s k ⟨#[60, 47]⟩ = false) (c3 : stAt s k [60, 33, 45, 45] = true) :
    Calls Tryz.prog 44 #[.pointer (some ⟨r, 0, none⟩)] w fun e w' => PieceDone B r b rawv outv raw l s w (comL s.data.toList k raw (l.map (·.1))) e w' := by
  have hend : endOf [60, 33] (s.data.toList.drop k) = some 2 := endOf_here (by
    have h' : [60, 33, 45, 45] <+: s.data.toList.drop k := by unfold stAt at c3; simpa using c3
    have : ([60, 33] : List UInt8) <+: s.data.toList.drop k := List.IsPrefix.trans ⟨[45, 45], rfl⟩ h'
    unfold Lib.hasPrefix
    simpa using this)
  have hk4 : k + 4 ≤ s.size := st_len c3 (by omega)
  have t1 := hide (tag_any r b rawv outv s ⟨#[60]⟩ k w hs (by decide) h.reader hT (by omega))
  have t2 := hide (fun (w : World) hR hT => tag_any r b rawv outv s ⟨#[60, 47]⟩ k w hs (by decide) hR hT (by omega))
  have t3 := hide (fun (w : World) hT => beg_any b s k ⟨#[60, 33, 45, 45]⟩ w hT (by omega))
  rw [c1] at t1
  rw [c2] at t2
  rw [show stAt s k (⟨#[60, 33, 45, 45]⟩ : ByteArray).data.toList = true from c3] at t3
  have p1 := hide (fun (w : World) hT hM => passTo_any b s k ⟨#[60, 33]⟩ w hs (by decide) hT (by omega) hM)
  rw [show endOf (⟨#[60, 33]⟩ : ByteArray).data.toList (s.data.toList.drop k) = some 2 from hend] at p1
  have p2 := hide (fun (w : World) hT hM => passTo_any b s (k + 2) ⟨#[45, 45, 62]⟩ w hs (by decide) hT (by omega) hM)
  unfold comL
  rw [show (⟨#[45, 45, 62]⟩ : ByteArray).data.toList = [45, 45, 62] from rfl] at p2
  generalize endOf [45, 45, 62] (s.data.toList.drop (k + 2)) = A at *
  clear c1 c2 c3 hend
  go_enter Tryz.func44, Tryz.ntmps44
  go_wp2_with fail
  refine t1.out.mono ?_
  rintro e w1 ⟨rfl, hT1, hk1⟩
  have h1 := h.keepsNil hk1
  go_wp2_with fail
  refine (t2.out _ h1.reader hT1).mono ?_
  rintro e w2 ⟨rfl, hT2, hk2⟩
  have h2 := h1.keepsNil hk2
  have d2 := h2.reader.cell0
  go_wp2_with fail
  refine (t3.out _ hT2).mono ?_
  rintro e w3 ⟨rfl, hT3, hk3⟩
  have h3 := h2.keepsNil hk3
  have d3 := h3.reader.cell0
  have hk03 := (hk1.trans hk2).trans hk3
  clear d2
  go_wp2_with fail
  refine (p1.out _ hT3 h3.max).mono ?_
  rintro e w4 ⟨⟨m, hm, rfl, hT4⟩ | ⟨hm, _⟩, hk4⟩
  · simp only [Option.some.injEq] at hm
    subst hm
    have h4 := h3.keepsText hT3 hk4
    have d4 := h4.reader.cell0
    clear d3
    go_wp2_with fail
    refine (p2.out _ hT4 h4.max).mono ?_
    have hk04 : Keeps [b] w w4 := (hk03.to (by simp)).trans hk4
    rintro e w5 ⟨⟨m, rfl, rfl, hT5⟩ | ⟨rfl, rfl, hT5⟩, hk5⟩
    · have hD := hide (show PieceDone B r b rawv outv raw l s w (some (k + 2 + m, raw, l.map (·.1))) (.returned (.tuple #[])) w5 from ⟨.inl ⟨_, _, _, _, l, rfl, rfl, h4.keepsText hT4 hk5, hT5⟩, keeps_text (hk04.trans hk5)⟩)
      go_wp2_with fail
      go_end0
      exact hD.out
    · have hD := hide (show PieceDone B r b rawv outv raw l s w none (.panicked gave) w5 from ⟨.inr ⟨rfl, rfl, h4.keepsText hT4 hk5, _, hT5⟩, keeps_text (hk04.trans hk5)⟩)
      go_wp2_with fail
      exact ⟨rfl, hD.out⟩
  · simp at hm
end Go.Proofs.YtngojdajamgababGreat
