/- openTag, closeTag. piece: a tag, a comment, or text. piece, where it is a declaration, or text. piece, where it is text. piece, whatever stands there; how far it goes. Try, for a method's value. -/
import Derived.Test.YtlcljanibjdejaaGreatPk06
namespace Go.Proofs.YtlcljanibjdejaaGreat
open Go.RowKit Go.Maps

/-- The text that isn't taken yet, as a token. -/
def endT (raw : List UInt8) : List Tok := if raw = [] then [] else [textTok (takeL raw).1]
theorem endToks_map (raw : List UInt8) : (endToks raw).map (·.1) = endT raw := by
  unfold endToks endT
  split <;> rfl

/-- A tag that begins at a place. -/
def openL (l : List UInt8) (k : Nat) (raw : List UInt8) (out : List Tok) : Option (Nat × List UInt8 × List Tok) :=
  match attrsAt l (l.length + 1) (k + 1 + ((l.drop (k + 1)).takeWhile tagN).length) [] with
  | none => none
  | some (a, k2) => some (k2 + 1, if isNameL (lowerL ((l.drop (k + 1)).takeWhile tagN)) = true then ([], out ++ endT raw ++ [⟨2, lowerL ((l.drop (k + 1)).takeWhile tagN), a, []⟩]) else (raw, out))

def closeL (l : List UInt8) (k : Nat) (raw : List UInt8) (out : List Tok) : Option (Nat × List UInt8 × List Tok) :=
  match endOf [62] (l.drop (k + 2 + ((l.drop (k + 2)).takeWhile tagN).length)) with
  | none => none
  | some m => some (k + 2 + ((l.drop (k + 2)).takeWhile tagN).length + m, if isNameL (lowerL ((l.drop (k + 2)).takeWhile tagN)) = true then ([], out ++ endT raw ++ [⟨3, lowerL ((l.drop (k + 2)).takeWhile tagN), [], []⟩]) else (raw, out))

theorem Rd.text_touch {w : World} {B r b : Nat} {rawv outv : Value} {raw : List UInt8} {l : List (Tok × Value)} (h : Rd w B r b rawv outv raw l) {s : ByteArray} {k : Nat} (hT : IsText w b s k) : b ∉ touch r rawv outv := by
  intro hm
  simp [touch] at hm
  rcases hm with hm | hm | hm
  · exact h.ne hT hm.symm
  · exact block_ne h.raw hT (by decide) hm
  · exact block_ne h.out hT (by decide) hm

theorem keeps_text {S : List Nat} {b : Nat} {w w' : World} (h : Keeps [b] w w') : Keeps (b :: S) w w' := h.to (by simp)
theorem keeps_touch {S : List Nat} {b : Nat} {w w' : World} (h : Keeps S w w') : Keeps (b :: S) w w' := h.to (fun _ hi => List.mem_cons_of_mem _ hi)

set_option maxRecDepth 4000 in
set_option maxHeartbeats 4000000 in
theorem openTag_any (B r b : Nat) (rawv outv : Value) (raw : List UInt8) (l : List (Tok × Value)) (s : ByteArray) (k : Nat) (w : World) (hs : s.size ≤ 3000) (h : Rd w B r b rawv outv raw l) (hT : IsText w b s k) (hB : B ≤ w.heap.size) (hraw : raw.length ≤ 3000) (hl : l.length ≤ 90000)
    (hk : k + 1 ≤ s.size) (hst : stAt s k [60] = true) :
    Calls Tryz.prog 153 #[.pointer (some ⟨r, 0, none⟩)] w fun e w' =>
      ((∃ k' raw' rawv' outv' l', openL s.data.toList k raw (l.map (·.1)) = some (k', raw', l'.map (·.1)) ∧ e = .returned (.tuple #[]) ∧ Rd w' B r b rawv' outv' raw' l' ∧ IsText w' b s k') ∨
       (openL s.data.toList k raw (l.map (·.1)) = none ∧ e = .panicked gave ∧ Rd w' B r b rawv outv raw l ∧ ∃ j, IsText w' b s j)) ∧ Keeps (b :: touch r rawv outv) w w' := by
  have hne := h.ne hT
  have hbt := h.text_touch hT
  have hlen := len_size s
  have htn := hide (tagName_any r b rawv outv s ⟨#[60]⟩ k w hs (by decide) h.reader hT h.max hk hst _ rfl)
  have hLl := takeWhile_le tagN s (k + 1) hk
  have hsz : (⟨#[60]⟩ : ByteArray).size = 1 := rfl
  rw [hsz] at htn
  unfold openL
  rw [hlen]
  generalize (s.data.toList.drop (k + 1)).takeWhile tagN = N at *
  have hin := hide (fun w => isName_any ⟨(lowerL N).toArray⟩ w (by rw [str_size]; simp [lowerL]; omega))
  rw [str_list] at hin
  generalize lowerL N = NN at *
  have hats := hide (fun (w : World) hR hT => attrs_any r b rawv outv s (k + 1 + N.length) w hs hR hT hLl)
  generalize attrsAt s.data.toList (s.size + 1) (k + 1 + N.length) [] = A at *
  clear hst
  go_enter Tryz.func153, Tryz.ntmps153
  go_wp2_with fail
  refine htn.out.mono ?_
  rintro e w1 ⟨rfl, hT1, hk1⟩
  have h1 := h.keepsText hT hk1
  have hB1 := Nat.le_trans hB hk1.size
  go_wp2_with fail
  refine (hats.out _ h1.reader hT1).mono ?_
  rintro e w2 ⟨⟨a, k2, v, hA, rfl, ho2, hal, hlt2, hgt, hT2⟩ | ⟨hA, rfl, j, hT2⟩, hk2⟩
  · have h2 := h1.keepsText hT1 hk2
    have hB2 := Nat.le_trans hB1 hk2.size
    have c2 := h2.reader.cell0
    subst hA
    have ho2' : w2.ownsRow B 52 2 v a.length (pairCells a) := ho2.mono (by omega)
    obtain ⟨o, c, rfl⟩ := row_form ho2'
    clear ho2 hal hgt
    go_wp2_with fail
    refine (one_yes b s k2 _ hs hT2 hlt2).mono ?_
    rintro e w3 ⟨rfl, hT3, hk3⟩
    have h3 := h2.keepsText hT2 hk3
    have hB3 := Nat.le_trans hB2 hk3.size
    have ho3 : w3.ownsRow B 52 2 (.slice o a.length c) a.length (pairCells a) := hk3.owns ho2' (fun g hg hm => by
      simp at hm
      subst hm
      exact block_ne ho2' hT2 (by decide) hg)
    have hkw : Keeps [b] w w3 := (hk1.trans hk2).trans hk3
    clear c2
    go_wp2_with fail
    refine (hin.out _).mono ?_
    rintro e w4 ⟨rfl, rfl⟩
    cases hnm : isNameL NN
    · go_wp2_with fail
      go_end0
      exact ⟨⟨_, _, _, _, l, ⟨rfl, rfl, rfl⟩, rfl, h3, hT3⟩, keeps_text hkw⟩
    · go_wp2_with fail
      refine (put_tok B r b rawv outv raw l _ h3 hB3 hraw hl 2 NN [] a o a.length c ho3).mono ?_
      rintro e w5 ⟨rfl, rawv', outv', h5, hk5⟩
      go_wp2_with fail
      go_end0
      refine ⟨⟨_, [], _, _, _, ⟨rfl, rfl, ?_⟩, rfl, h5, hT3.keeps hk5 hbt⟩, (keeps_text hkw).trans (keeps_touch hk5)⟩
      simp [endToks_map]
  · subst hA
    go_wp2_with fail
    exact ⟨rfl, ⟨rfl, h1.keepsText hT1 hk2, j, hT2⟩, keeps_text (hk1.trans hk2)⟩

set_option maxRecDepth 4000 in
set_option maxHeartbeats 4000000 in
theorem closeTag_any (B r b : Nat) (rawv outv : Value) (raw : List UInt8) (l : List (Tok × Value)) (s : ByteArray) (k : Nat) (w : World) (hs : s.size ≤ 3000) (h : Rd w B r b rawv outv raw l) (hT : IsText w b s k) (hB : B ≤ w.heap.size) (hraw : raw.length ≤ 3000) (hl : l.length ≤ 90000)
    (hk : k + 2 ≤ s.size) (hst : stAt s k [60, 47] = true) :
    Calls Tryz.prog 154 #[.pointer (some ⟨r, 0, none⟩)] w fun e w' =>
      ((∃ k' raw' rawv' outv' l', closeL s.data.toList k raw (l.map (·.1)) = some (k', raw', l'.map (·.1)) ∧ e = .returned (.tuple #[]) ∧ Rd w' B r b rawv' outv' raw' l' ∧ IsText w' b s k') ∨
       (closeL s.data.toList k raw (l.map (·.1)) = none ∧ e = .panicked gave ∧ Rd w' B r b rawv outv raw l ∧ ∃ j, IsText w' b s j)) ∧ Keeps (b :: touch r rawv outv) w w' := by
  have hne := h.ne hT
  have hbt := h.text_touch hT
  have hlen := len_size s
  have htn := hide (tagName_any r b rawv outv s ⟨#[60, 47]⟩ k w hs (by decide) h.reader hT h.max hk hst _ rfl)
  have hLl := takeWhile_le tagN s (k + 2) hk
  have hsz : (⟨#[60, 47]⟩ : ByteArray).size = 2 := rfl
  rw [hsz] at htn
  unfold closeL
  generalize (s.data.toList.drop (k + 2)).takeWhile tagN = N at *
  have hin := hide (fun w => isName_any ⟨(lowerL N).toArray⟩ w (by rw [str_size]; simp [lowerL]; omega))
  rw [str_list] at hin
  generalize lowerL N = NN at *
  have hpt := hide (fun (w : World) hT hM => passTo_any b s (k + 2 + N.length) ⟨#[62]⟩ w hs (by decide) hT hLl hM)
  rw [show (⟨#[62]⟩ : ByteArray).data.toList = [62] from rfl] at hpt
  generalize endOf [62] (s.data.toList.drop (k + 2 + N.length)) = A at *
  clear hst
  go_enter Tryz.func154, Tryz.ntmps154
  go_wp2_with fail
  refine htn.out.mono ?_
  rintro e w1 ⟨rfl, hT1, hk1⟩
  have h1 := h.keepsText hT hk1
  have hB1 := Nat.le_trans hB hk1.size
  have c1 := h1.reader.cell0
  go_wp2_with fail
  refine (hpt.out _ hT1 h1.max).mono ?_
  rintro e w2 ⟨⟨m, hA, rfl, hT2⟩ | ⟨hA, rfl, hT2⟩, hk2⟩
  · have h2 := h1.keepsText hT1 hk2
    have hB2 := Nat.le_trans hB1 hk2.size
    subst hA
    have hkw : Keeps [b] w w2 := hk1.trans hk2
    clear c1
    go_wp2_with fail
    refine (hin.out _).mono ?_
    rintro e w4 ⟨rfl, rfl⟩
    cases hnm : isNameL NN
    · go_wp2_with fail
      go_end0
      exact ⟨⟨_, _, _, _, l, ⟨rfl, rfl, rfl⟩, rfl, h2, hT2⟩, keeps_text hkw⟩
    · go_wp2_with fail
      refine (put_tok B r b rawv outv raw l _ h2 hB2 hraw hl 3 NN [] [] none 0 0 (World.ownsRow_nil _ _ _ _)).mono ?_
      rintro e w5 ⟨rfl, rawv', outv', h5, hk5⟩
      go_wp2_with fail
      go_end0
      refine ⟨⟨_, [], _, _, _, ⟨rfl, rfl, ?_⟩, rfl, h5, hT2.keeps hk5 hbt⟩, (keeps_text hkw).trans (keeps_touch hk5)⟩
      simp [endToks_map]
  · subst hA
    go_wp2_with fail
    exact ⟨rfl, ⟨rfl, h1.keepsText hT1 hk2, _, hT2⟩, keeps_text (hk1.trans hk2)⟩
end Go.Proofs.YtlcljanibjdejaaGreat

namespace Go.Proofs.YtlcljanibjdejaaGreat
open Go.RowKit Go.Maps

/-- Is a mark here, and a letter behind it? -/
def tagAt (s : ByteArray) (k : Nat) (p : ByteArray) : Bool := stAt s k p.data.toList && (decide (k + p.size < s.size) && letterB (byteAt s (k + p.size)))

theorem beg_any (b : Nat) (s : ByteArray) (k : Nat) (p : ByteArray) (w : World) (hT : IsText w b s k) (hk : k ≤ s.size) :
    Calls Tryz.prog 155 #[.pointer (some ⟨b, 0, none⟩), .string p] w fun e w' => e = .returned (.bool (stAt s k p.data.toList)) ∧ IsText w' b s k ∧ Keeps [] w w' :=
  (begins_any b s k p w hT hk).mono fun _ _ ⟨he, _, hw⟩ => ⟨he, by rw [hw]; exact hT, by rw [hw]; exact (Keeps.refl _ _).drewN _⟩

theorem tag_any (r b : Nat) (rawv outv : Value) (s p : ByteArray) (k : Nat) (w : World) (hs : s.size ≤ 3000) (hp : p.size ≤ 3000) (hR : IsReader w r b rawv outv) (hT : IsText w b s k) (hk : k ≤ s.size) :
    Calls Tryz.prog 152 #[.pointer (some ⟨r, 0, none⟩), .string p] w fun e w' => e = .returned (.bool (tagAt s k p)) ∧ IsText w' b s k ∧ Keeps [] w w' :=
  tagBegins_any r b rawv outv s p k w hs hp hR hT hk

/-- What a piece answers. -/
def PieceDone (B r b : Nat) (rawv outv : Value) (raw : List UInt8) (l : List (Tok × Value)) (s : ByteArray) (w : World) (P : Option (Nat × List UInt8 × List Tok)) (e : Ending) (w' : World) : Prop :=
  ((∃ k' raw' rawv' outv' l', P = some (k', raw', l'.map (·.1)) ∧ e = .returned (.tuple #[]) ∧ Rd w' B r b rawv' outv' raw' l' ∧ IsText w' b s k') ∨
   (P = none ∧ e = .panicked gave ∧ Rd w' B r b rawv outv raw l ∧ ∃ j, IsText w' b s j)) ∧ Keeps (b :: touch r rawv outv) w w'

theorem PieceDone.nil {B r b : Nat} {rawv outv : Value} {raw : List UInt8} {l : List (Tok × Value)} {s : ByteArray} {w0 w : World} {P : Option (Nat × List UInt8 × List Tok)} {e : Ending} {w' : World} (h : PieceDone B r b rawv outv raw l s w P e w') (hk : Keeps [] w0 w) : PieceDone B r b rawv outv raw l s w0 P e w' :=
  ⟨h.1, (hk.to (by simp)).trans h.2⟩

theorem st_len {s : ByteArray} {k : Nat} {p : List UInt8} (h : stAt s k p = true) (hk : k ≤ s.size) : k + p.length ≤ s.size := by
  have h' : p <+: s.data.toList.drop k := by unfold stAt at h; simpa using h
  have := h'.length_le
  have hl := len_size s
  rw [List.length_drop] at this
  omega

def comL (l : List UInt8) (k : Nat) (raw : List UInt8) (out : List Tok) : Option (Nat × List UInt8 × List Tok) :=
  match endOf [45, 45, 62] (l.drop (k + 2)) with
  | none => none
  | some m => some (k + 2 + m, raw, out)
def declL (l : List UInt8) (k : Nat) (raw : List UInt8) (out : List Tok) : Option (Nat × List UInt8 × List Tok) :=
  match endOf [62] (l.drop k) with
  | none => none
  | some m => some (k + m, raw, out)
def textL (l : List UInt8) (k : Nat) (raw : List UInt8) (out : List Tok) : Option (Nat × List UInt8 × List Tok) :=
  some (k + 1 + ((l.drop (k + 1)).takeWhile noLt).length, raw ++ [l.getD k 0] ++ (l.drop (k + 1)).takeWhile noLt, out)

set_option maxRecDepth 4000 in
set_option maxHeartbeats 4000000 in
theorem piece_open (B r b : Nat) (rawv outv : Value) (raw : List UInt8) (l : List (Tok × Value)) (s : ByteArray) (k : Nat) (w : World) (hs : s.size ≤ 3000) (h : Rd w B r b rawv outv raw l) (hT : IsText w b s k) (hB : B ≤ w.heap.size) (hraw : raw.length ≤ 3000) (hl : l.length ≤ 90000)
    (hlt : k < s.size) (c1 : tagAt s k ⟨#[60]⟩ = true) :
    Calls Tryz.prog 79 #[.pointer (some ⟨r, 0, none⟩)] w fun e w' => PieceDone B r b rawv outv raw l s w (openL s.data.toList k raw (l.map (·.1))) e w' := by
  have hst : stAt s k [60] = true := by unfold tagAt at c1; simp only [Bool.and_eq_true] at c1; exact c1.1
  have t1 := hide (tag_any r b rawv outv s ⟨#[60]⟩ k w hs (by decide) h.reader hT (by omega))
  rw [c1] at t1
  have HO := hide (fun (w : World) (h : Rd w B r b rawv outv raw l) (hT : IsText w b s k) (hB : B ≤ w.heap.size) => openTag_any B r b rawv outv raw l s k w hs h hT hB hraw hl hlt hst)
  generalize openL s.data.toList k raw (l.map (·.1)) = P at *
  clear c1 hst
  go_enter Tryz.func79, Tryz.ntmps79
  go_wp2_with fail
  refine t1.out.mono ?_
  rintro e w1 ⟨rfl, hT1, hk1⟩
  go_wp2_with fail
  refine (HO.out _ (h.keepsNil hk1) hT1 (Nat.le_trans hB hk1.size)).mono ?_
  rintro e w2 hD
  have hD' : PieceDone B r b rawv outv raw l s w P e w2 := PieceDone.nil hD hk1
  have hD2 := hide hD'
  rcases hD.1 with ⟨_, _, _, _, _, _, rfl, _⟩ | ⟨_, rfl, _⟩
  · clear hD hD'
    go_wp2_with fail
    go_end0
    exact hD2.out
  · clear hD hD'
    go_wp2_with fail
    exact ⟨rfl, hD2.out⟩

set_option maxRecDepth 4000 in
set_option maxHeartbeats 4000000 in
theorem piece_close (B r b : Nat) (rawv outv : Value) (raw : List UInt8) (l : List (Tok × Value)) (s : ByteArray) (k : Nat) (w : World) (hs : s.size ≤ 3000) (h : Rd w B r b rawv outv raw l) (hT : IsText w b s k) (hB : B ≤ w.heap.size) (hraw : raw.length ≤ 3000) (hl : l.length ≤ 90000)
    (hlt : k < s.size) (c1 : tagAt s k ⟨#[60]⟩ = false) (c2 : tagAt s k ⟨#[60, 47]⟩ = true) :
    Calls Tryz.prog 79 #[.pointer (some ⟨r, 0, none⟩)] w fun e w' => PieceDone B r b rawv outv raw l s w (closeL s.data.toList k raw (l.map (·.1))) e w' := by
  have hst : stAt s k [60, 47] = true := by unfold tagAt at c2; simp only [Bool.and_eq_true] at c2; exact c2.1
  have t1 := hide (tag_any r b rawv outv s ⟨#[60]⟩ k w hs (by decide) h.reader hT (by omega))
  have t2 := hide (fun (w : World) hR hT => tag_any r b rawv outv s ⟨#[60, 47]⟩ k w hs (by decide) hR hT (by omega))
  rw [c1] at t1
  rw [c2] at t2
  have HO := hide (fun (w : World) (h : Rd w B r b rawv outv raw l) (hT : IsText w b s k) (hB : B ≤ w.heap.size) => closeTag_any B r b rawv outv raw l s k w hs h hT hB hraw hl (st_len hst (by omega)) hst)
  generalize closeL s.data.toList k raw (l.map (·.1)) = P at *
  clear c1 c2 hst
  go_enter Tryz.func79, Tryz.ntmps79
  go_wp2_with fail
  refine t1.out.mono ?_
  rintro e w1 ⟨rfl, hT1, hk1⟩
  have h1 := h.keepsNil hk1
  go_wp2_with fail
  refine (t2.out _ h1.reader hT1).mono ?_
  rintro e w2 ⟨rfl, hT2, hk2⟩
  have h2 := h1.keepsNil hk2
  go_wp2_with fail
  refine (HO.out _ h2 hT2 (Nat.le_trans hB (Nat.le_trans hk1.size hk2.size))).mono ?_
  rintro e w3 hD
  have hD' : PieceDone B r b rawv outv raw l s w P e w3 := PieceDone.nil hD (hk1.trans hk2)
  have hD2 := hide hD'
  rcases hD.1 with ⟨_, _, _, _, _, _, rfl, _⟩ | ⟨_, rfl, _⟩
  · clear hD hD'
    go_wp2_with fail
    go_end0
    exact hD2.out
  · clear hD hD'
    go_wp2_with fail
    exact ⟨rfl, hD2.out⟩

set_option maxRecDepth 4000 in
set_option maxHeartbeats 4000000 in
theorem piece_comment (B r b : Nat) (rawv outv : Value) (raw : List UInt8) (l : List (Tok × Value)) (s : ByteArray) (k : Nat) (w : World) (hs : s.size ≤ 3000) (h : Rd w B r b rawv outv raw l) (hT : IsText w b s k)
    (hlt : k < s.size) (c1 : tagAt s k ⟨#[60]⟩ = false) (c2 : tagAt s k ⟨#[60, 47]⟩ = false) (c3 : stAt s k [60, 33, 45, 45] = true) :
    Calls Tryz.prog 79 #[.pointer (some ⟨r, 0, none⟩)] w fun e w' => PieceDone B r b rawv outv raw l s w (comL s.data.toList k raw (l.map (·.1))) e w' := by
  have hend : endOf [60, 33] (s.data.toList.drop k) = some 2 := endOf_here (by
    have h' : [60, 33, 45, 45] <+: s.data.toList.drop k := by unfold stAt at c3; simpa using c3
    have : ([60, 33] : List UInt8) <+: s.data.toList.drop k := List.IsPrefix.trans ⟨[45, 45], rfl⟩ h'
    unfold Lib.hasPrefix
    simpa using this)
  have hk4 : k + 4 ≤ s.size := st_len c3 (by omega)
  have t1 := hide (tag_any r b rawv outv s ⟨#[60]⟩ k w hs (by decide) h.reader hT (by omega))
  have t2 := hide (fun (w : World) hR hT => tag_any r b rawv outv s ⟨#[60, 47]⟩ k w hs (by decide) hR hT (by omega))
  have t3 := hide (fun (w : World) hT => beg_any b s k ⟨#[60, 33, 45, 45]⟩ w hT (by omega))
  rw [c1] at t1
  rw [c2] at t2
  rw [show stAt s k (⟨#[60, 33, 45, 45]⟩ : ByteArray).data.toList = true from c3] at t3
  have p1 := hide (fun (w : World) hT hM => passTo_any b s k ⟨#[60, 33]⟩ w hs (by decide) hT (by omega) hM)
  rw [show endOf (⟨#[60, 33]⟩ : ByteArray).data.toList (s.data.toList.drop k) = some 2 from hend] at p1
  have p2 := hide (fun (w : World) hT hM => passTo_any b s (k + 2) ⟨#[45, 45, 62]⟩ w hs (by decide) hT (by omega) hM)
  unfold comL
  rw [show (⟨#[45, 45, 62]⟩ : ByteArray).data.toList = [45, 45, 62] from rfl] at p2
  generalize endOf [45, 45, 62] (s.data.toList.drop (k + 2)) = A at *
  clear c1 c2 c3 hend
  go_enter Tryz.func79, Tryz.ntmps79
  go_wp2_with fail
  refine t1.out.mono ?_
  rintro e w1 ⟨rfl, hT1, hk1⟩
  have h1 := h.keepsNil hk1
  go_wp2_with fail
  refine (t2.out _ h1.reader hT1).mono ?_
  rintro e w2 ⟨rfl, hT2, hk2⟩
  have h2 := h1.keepsNil hk2
  have d2 := h2.reader.cell0
  go_wp2_with fail
  refine (t3.out _ hT2).mono ?_
  rintro e w3 ⟨rfl, hT3, hk3⟩
  have h3 := h2.keepsNil hk3
  have d3 := h3.reader.cell0
  have hk03 := (hk1.trans hk2).trans hk3
  clear d2
  go_wp2_with fail
  refine (p1.out _ hT3 h3.max).mono ?_
  rintro e w4 ⟨⟨m, hm, rfl, hT4⟩ | ⟨hm, _⟩, hk4⟩
  · simp only [Option.some.injEq] at hm
    subst hm
    have h4 := h3.keepsText hT3 hk4
    have d4 := h4.reader.cell0
    clear d3
    go_wp2_with fail
    refine (p2.out _ hT4 h4.max).mono ?_
    have hk04 : Keeps [b] w w4 := (hk03.to (by simp)).trans hk4
    rintro e w5 ⟨⟨m, rfl, rfl, hT5⟩ | ⟨rfl, rfl, hT5⟩, hk5⟩
    · have hD := hide (show PieceDone B r b rawv outv raw l s w (some (k + 2 + m, raw, l.map (·.1))) (.returned (.tuple #[])) w5 from ⟨.inl ⟨_, _, _, _, l, rfl, rfl, h4.keepsText hT4 hk5, hT5⟩, keeps_text (hk04.trans hk5)⟩)
      go_wp2_with fail
      go_end0
      exact hD.out
    · have hD := hide (show PieceDone B r b rawv outv raw l s w none (.panicked gave) w5 from ⟨.inr ⟨rfl, rfl, h4.keepsText hT4 hk5, _, hT5⟩, keeps_text (hk04.trans hk5)⟩)
      go_wp2_with fail
      exact ⟨rfl, hD.out⟩
  · simp at hm
end Go.Proofs.YtlcljanibjdejaaGreat

namespace Go.Proofs.YtlcljanibjdejaaGreat
open Go.RowKit Go.Maps

/-- An ending whose answer is not looked at. -/
def noAns : Ending → Ending
  | .returned _ => .returned (.tuple #[])
  | e => e

theorem decl_fin (B r b : Nat) (rawv outv : Value) (raw : List UInt8) (l : List (Tok × Value)) (s : ByteArray) (k : Nat) (w : World) (w4 : World) (h4 : Rd w4 B r b rawv outv raw l) (hT4 : IsText w4 b s k) (hk : Keeps [] w w4) (x : Nat → Value) (e : Ending) (w5 : World)
    (hx : ((∃ m, endOf [62] (s.data.toList.drop k) = some m ∧ e = .returned (x m) ∧ IsText w5 b s (k + m)) ∨ (endOf [62] (s.data.toList.drop k) = none ∧ e = .panicked gave ∧ IsText w5 b s k)) ∧ Keeps [b] w4 w5) :
    PieceDone B r b rawv outv raw l s w (declL s.data.toList k raw (l.map (·.1))) (noAns e) w5 := by
  unfold declL
  obtain ⟨⟨m, hA, rfl, hT5⟩ | ⟨hA, rfl, hT5⟩, hk5⟩ := hx
  · rw [hA]
    exact ⟨.inl ⟨_, _, _, _, l, rfl, rfl, h4.keepsText hT4 hk5, hT5⟩, keeps_text ((hk.to (by simp)).trans hk5)⟩
  · rw [hA]
    exact ⟨.inr ⟨rfl, rfl, h4.keepsText hT4 hk5, _, hT5⟩, keeps_text ((hk.to (by simp)).trans hk5)⟩

set_option maxRecDepth 4000 in
set_option maxHeartbeats 4000000 in
theorem piece_decl (B r b : Nat) (rawv outv : Value) (raw : List UInt8) (l : List (Tok × Value)) (s : ByteArray) (k : Nat) (w : World) (hs : s.size ≤ 3000) (h : Rd w B r b rawv outv raw l) (hT : IsText w b s k)
    (hlt : k < s.size) (c1 : tagAt s k ⟨#[60]⟩ = false) (c2 : tagAt s k ⟨#[60, 47]⟩ = false) (c3 : stAt s k [60, 33, 45, 45] = false) (c4 : (stAt s k [60, 33] || (stAt s k [60, 63] || stAt s k [60, 47])) = true) :
    Calls Tryz.prog 79 #[.pointer (some ⟨r, 0, none⟩)] w fun e w' => PieceDone B r b rawv outv raw l s w (declL s.data.toList k raw (l.map (·.1))) e w' := by
  have t1 := hide (tag_any r b rawv outv s ⟨#[60]⟩ k w hs (by decide) h.reader hT (by omega))
  have t2 := hide (fun (w : World) hR hT => tag_any r b rawv outv s ⟨#[60, 47]⟩ k w hs (by decide) hR hT (by omega))
  have t3 := hide (fun (w : World) hT => beg_any b s k ⟨#[60, 33, 45, 45]⟩ w hT (by omega))
  have t4 := hide (fun (w : World) hT => beg_any b s k ⟨#[60, 33]⟩ w hT (by omega))
  have t5 := hide (fun (w : World) hT => beg_any b s k ⟨#[60, 63]⟩ w hT (by omega))
  have t6 := hide (fun (w : World) hT => beg_any b s k ⟨#[60, 47]⟩ w hT (by omega))
  rw [c1] at t1
  rw [c2] at t2
  rw [show stAt s k (⟨#[60, 33, 45, 45]⟩ : ByteArray).data.toList = false from c3] at t3
  rw [show (⟨#[60, 33]⟩ : ByteArray).data.toList = [60, 33] from rfl] at t4
  rw [show (⟨#[60, 63]⟩ : ByteArray).data.toList = [60, 63] from rfl] at t5
  rw [show (⟨#[60, 47]⟩ : ByteArray).data.toList = [60, 47] from rfl] at t6
  have p2 := hide (fun (w : World) hT hM => passTo_any b s k ⟨#[62]⟩ w hs (by decide) hT (by omega) hM)
  have FIN := hide (decl_fin B r b rawv outv raw l s k w)
  generalize declL s.data.toList k raw (l.map (·.1)) = P at *
  rw [show (⟨#[62]⟩ : ByteArray).data.toList = [62] from rfl] at p2
  generalize endOf [62] (s.data.toList.drop k) = A at *
  generalize stAt s k [60, 33] = q4 at *
  generalize stAt s k [60, 63] = q5 at *
  generalize stAt s k [60, 47] = q6 at *
  clear c1 c2 c3
  go_enter Tryz.func79, Tryz.ntmps79
  go_wp2_with fail
  refine t1.out.mono ?_
  rintro e w1 ⟨rfl, hT1, hk1⟩
  have h1 := h.keepsNil hk1
  go_wp2_with fail
  refine (t2.out _ h1.reader hT1).mono ?_
  rintro e w2 ⟨rfl, hT2, hk2⟩
  have h2 := h1.keepsNil hk2
  have d2 := h2.reader.cell0
  go_wp2_with fail
  refine (t3.out _ hT2).mono ?_
  rintro e w3 ⟨rfl, hT3, hk3⟩
  have h3 := h2.keepsNil hk3
  have d3 := h3.reader.cell0
  have hk03 := (hk1.trans hk2).trans hk3
  clear d2
  go_wp2_with fail
  refine (t4.out _ hT3).mono ?_
  rintro e w4 ⟨rfl, hT4, hk4⟩
  have h4 := h3.keepsNil hk4
  have d4 := h4.reader.cell0
  have hk04 := hk03.trans hk4
  clear d3
  cases q4
  · go_wp2_with fail
    refine (t5.out _ hT4).mono ?_
    rintro e w5 ⟨rfl, hT5, hk5⟩
    have h5 := h4.keepsNil hk5
    have d5 := h5.reader.cell0
    have hk05 := hk04.trans hk5
    clear d4
    cases q5
    · go_wp2_with fail
      refine (t6.out _ hT5).mono ?_
      rintro e w6 ⟨rfl, hT6, hk6⟩
      have h6 := h5.keepsNil hk6
      have d6 := h6.reader.cell0
      have hk06 := hk05.trans hk6
      have hq6 : q6 = true := by simpa using c4
      subst hq6
      clear d5
      go_wp2_with fail
      refine (p2.out _ hT6 h6.max).mono ?_
      rintro e w7 hx
      have hD := hide (FIN.out _ h6 hT6 hk06 _ e w7 hx)
      rcases hx with ⟨⟨m, _, rfl, _⟩ | ⟨_, rfl, _⟩, _⟩
      · go_wp2_with fail
        go_end0
        exact hD.out
      · go_wp2_with fail
        exact ⟨rfl, hD.out⟩
    · go_wp2_with fail
      refine (p2.out _ hT5 h5.max).mono ?_
      rintro e w7 hx
      have hD := hide (FIN.out _ h5 hT5 hk05 _ e w7 hx)
      rcases hx with ⟨⟨m, _, rfl, _⟩ | ⟨_, rfl, _⟩, _⟩
      · go_wp2_with fail
        go_end0
        exact hD.out
      · go_wp2_with fail
        exact ⟨rfl, hD.out⟩
  · go_wp2_with fail
    refine (p2.out _ hT4 h4.max).mono ?_
    rintro e w7 hx
    have hD := hide (FIN.out _ h4 hT4 hk04 _ e w7 hx)
    rcases hx with ⟨⟨m, _, rfl, _⟩ | ⟨_, rfl, _⟩, _⟩
    · go_wp2_with fail
      go_end0
      exact hD.out
    · go_wp2_with fail
      exact ⟨rfl, hD.out⟩
end Go.Proofs.YtlcljanibjdejaaGreat

namespace Go.Proofs.YtlcljanibjdejaaGreat
open Go.RowKit Go.Maps

theorem enters159 : Enters 159 := enters_of Tryz.func159 (by kernel_rfl) (by kernel_rfl)

theorem Rd.rawReader {w w3 : World} {B r b : Nat} {rawv outv : Value} {raw : List UInt8} {l : List (Tok × Value)} (h : Rd w B r b rawv outv raw l) (hk : Keeps rawv.ownBlock.toList w w3) : IsReader w3 r b rawv outv :=
  h.reader.keeps hk (fun hm => block_ne h.raw h.reader.blk (by decide) (by simpa using hm))

theorem raw_done {w w7 w8 : World} {B r b : Nat} {rawv outv v8 : Value} {raw t : List UInt8} {l : List (Tok × Value)} {s : ByteArray} {k : Nat} (h7 : Rd w7 B r b rawv outv raw l) (hT7 : IsText w7 b s k) (hk0 : Keeps [b] w w7) (hk8 : Keeps rawv.ownBlock.toList w7 w8)
    (ho8 : w8.ownsRow B 5 1 v8 (raw ++ t).length (Lib.byteCells (raw ++ t))) :
    Rd (w8.setCell ⟨r, 1, none⟩ v8) B r b v8 outv (raw ++ t) l ∧ IsText (w8.setCell ⟨r, 1, none⟩ v8) b s k ∧ Keeps (b :: touch r rawv outv) w (w8.setCell ⟨r, 1, none⟩ v8) := by
  have hx := h7.setRaw hk8 ho8
  exact ⟨hx.1, hT7.keeps hx.2 (h7.text_touch hT7), (keeps_text hk0).trans (keeps_touch hx.2)⟩

set_option maxRecDepth 4000 in
set_option maxHeartbeats 4000000 in
theorem piece_text (B r b : Nat) (rawv outv : Value) (raw : List UInt8) (l : List (Tok × Value)) (s : ByteArray) (k : Nat) (w : World) (hs : s.size ≤ 3000) (h : Rd w B r b rawv outv raw l) (hT : IsText w b s k) (hB : B ≤ w.heap.size) (hraw : raw.length ≤ 3000)
    (hlt : k < s.size) (c1 : tagAt s k ⟨#[60]⟩ = false) (c2 : tagAt s k ⟨#[60, 47]⟩ = false) (c3 : stAt s k [60, 33, 45, 45] = false) (c4 : stAt s k [60, 33] = false) (c5 : stAt s k [60, 63] = false) (c6 : stAt s k [60, 47] = false) :
    Calls Tryz.prog 79 #[.pointer (some ⟨r, 0, none⟩)] w fun e w' => PieceDone B r b rawv outv raw l s w (textL s.data.toList k raw (l.map (·.1))) e w' := by
  have t1 := hide (tag_any r b rawv outv s ⟨#[60]⟩ k w hs (by decide) h.reader hT (by omega))
  have t2 := hide (fun (w : World) hR hT => tag_any r b rawv outv s ⟨#[60, 47]⟩ k w hs (by decide) hR hT (by omega))
  have t3 := hide (fun (w : World) hT => beg_any b s k ⟨#[60, 33, 45, 45]⟩ w hT (by omega))
  have t4 := hide (fun (w : World) hT => beg_any b s k ⟨#[60, 33]⟩ w hT (by omega))
  have t5 := hide (fun (w : World) hT => beg_any b s k ⟨#[60, 63]⟩ w hT (by omega))
  have t6 := hide (fun (w : World) hT => beg_any b s k ⟨#[60, 47]⟩ w hT (by omega))
  rw [c1] at t1
  rw [c2] at t2
  rw [show stAt s k (⟨#[60, 33, 45, 45]⟩ : ByteArray).data.toList = false from c3] at t3
  rw [show stAt s k (⟨#[60, 33]⟩ : ByteArray).data.toList = false from c4] at t4
  rw [show stAt s k (⟨#[60, 63]⟩ : ByteArray).data.toList = false from c5] at t5
  rw [show stAt s k (⟨#[60, 47]⟩ : ByteArray).data.toList = false from c6] at t6
  have ho1 := hide (fun (w : World) hT => one_yes b s k w hs hT hlt)
  have hps := hide (fun (w : World) hT => pass_of 159 noLt enters159 noLt_any b s (k + 1) w hs hT (by omega))
  have hLl := takeWhile_le noLt s (k + 1) (by omega)
  unfold textL
  rw [show s.data.toList.getD k 0 = byteAt s k from rfl]
  generalize (s.data.toList.drop (k + 1)).takeWhile noLt = L at *
  obtain ⟨i0, hi, hz0, hz1, hz2⟩ := info_parts Tryz.info5
  clear c1 c2 c3 c4 c5 c6
  go_enter Tryz.func79, Tryz.ntmps79
  go_wp2_with fail
  refine t1.out.mono ?_
  rintro e w1 ⟨rfl, hT1, hk1⟩
  have h1 := h.keepsNil hk1
  go_wp2_with fail
  refine (t2.out _ h1.reader hT1).mono ?_
  rintro e w2 ⟨rfl, hT2, hk2⟩
  have h2 := h1.keepsNil hk2
  have d2 := h2.reader.cell0
  go_wp2_with fail
  refine (t3.out _ hT2).mono ?_
  rintro e w3 ⟨rfl, hT3, hk3⟩
  have h3 := h2.keepsNil hk3
  have d3 := h3.reader.cell0
  have hk03 := (hk1.trans hk2).trans hk3
  clear d2
  go_wp2_with fail
  refine (t4.out _ hT3).mono ?_
  rintro e w4 ⟨rfl, hT4, hk4⟩
  have h4 := h3.keepsNil hk4
  have d4 := h4.reader.cell0
  have hk04 := hk03.trans hk4
  clear d3
  go_wp2_with fail
  refine (t5.out _ hT4).mono ?_
  rintro e w5 ⟨rfl, hT5, hk5⟩
  have h5 := h4.keepsNil hk5
  have d5 := h5.reader.cell0
  have hk05 := hk04.trans hk5
  clear d4
  go_wp2_with fail
  refine (t6.out _ hT5).mono ?_
  rintro e w6 ⟨rfl, hT6, hk6⟩
  have h6 := h5.keepsNil hk6
  have hk06 := hk05.trans hk6
  have hB6 := Nat.le_trans hB hk06.size
  clear d5 h1 h2 h3 h4 h5 hT1 hT2 hT3 hT4 hT5 hk1 hk2 hk3 hk4 hk5 hk6 hk03 hk04 hk05 t1 t2 t3 t4 t5 t6
  have d0 := h6.reader.cell0
  have d1 := h6.reader.cell1
  go_upto_region 0 with fail
  go_cut [] from 2 to 15 (fun wc => ∃ rawv', Rd wc B r b rawv' outv (raw ++ [byteAt s k]) l ∧ IsText wc b s (k + 1) ∧ Keeps (b :: touch r rawv outv) w wc ∧ Within w (touch r rawv' outv) (touch r rawv outv))
  case first =>
    go_region_law (first
      | (refine step_call rfl 157 _ _ rfl enters157 #[.pointer (some ⟨b, 0, none⟩)] (by simp [Act.eval]) (ho1.out _ (show IsText w6.drew b s k from hT6)) ?_; rintro e w7 ⟨rfl, hT7, hk7⟩; refine ⟨_, rfl, ?_⟩; have h7 := h6.keepsText hT6 (keeps_drew hk7); have e1 := h7.reader.cell1; have e1a : ∀ o, (w7.alloc o).cell? ⟨r, 1, none⟩ = some rawv := fun o => (cell_past (a := ⟨r, 1, none⟩) h7.reader.lt o).trans e1)
      | (refine step_own_at rfl _ _ 107 rfl B 5 i0 _ 1 1 Tryz.underlying107 hi hz0 hz1 hz2 rfl (by decide) rawv raw.length (Lib.byteCells raw) rfl (h7.raw.alloc _) ⟨w7.heap.size, 0, none⟩ 1 1 [.int .u8 ((byteAt s k).toNat : Int)] rfl rfl (lit_cells w7 _ 5) (by intro u hu; simp at hu; subst hu; rfl) (by unfold maxLen; omega) (by omega) (Nat.le_trans hB6 (Nat.le_trans hk7.size (by simp))) ?_; intro v8 w8 ho8 hg8 hw8; obtain ⟨o8, c8, rfl⟩ := row_form ho8; have hk8 : Keeps rawv.ownBlock.toList w7 w8 := ((Keeps.refl _ w7).alloc _).grown hg8 (fun i e => .inl (by simp [e])); have hR8 := h7.rawReader hk8; have g8 := hR8.cell1; have f8 := hR8.free))
    all_goals go_wp2
    all_goals go_meet
    all_goals
      have hx := raw_done (w := w) h7 hT7 ((hk06.to (by simp)).trans (keeps_drew hk7)) hk8 (own_bytes (t := [byteAt s k]) ho8)
      exact ⟨_, hx.1, hx.2.1, hx.2.2, within_raw hw8 (Nat.le_trans hk06.size (Nat.le_trans (keeps_drew hk7).size (by simp)))⟩
  case rest =>
    obtain ⟨rawv', h9, hT9, hk9, hw9⟩ := hcut
    have hB9 := Nat.le_trans hB hk9.size
    have e0 := h9.reader.cell0
    have e1 := h9.reader.cell1
    have hr9 : (raw ++ [byteAt s k]).length ≤ 3001 := by simp; omega
    generalize hrr : raw ++ [byteAt s k] = raw9 at *
    have hLs : L.length ≤ 3000 := by omega
    have HR := hide hrr
    clear d0 d1 hrr
    go_upto_region 1 with fail
    go_region_law (first
      | (refine step_call rfl 158 _ _ rfl enters158 #[.pointer (some ⟨b, 0, none⟩), .func (.func 159) #[] #[]] (by simp [Act.eval]) (hps.out _ (show IsText wc.drew b s (k + 1) from hT9)) ?_; rintro e w7 ⟨rfl, hT7, hk7⟩; refine ⟨_, rfl, ?_⟩; have h7 := h9.keepsText hT9 (keeps_drew hk7); have e1 := h7.reader.cell1)
      | (refine step_own_str rfl _ _ 107 9 rfl B 5 i0 Tryz.underlying107 Tryz.underlying9 hi hz0 hz1 hz2 rawv' raw9.length (Lib.byteCells raw9) rfl h7.raw ⟨L.toArray⟩ rfl (by rw [str_size]; unfold maxLen; omega) (by rw [str_size]; omega) (Nat.le_trans hB9 hk7.size) ?_; intro v8 w8 ho8 hg8; obtain ⟨o8, c8, rfl⟩ := row_form ho8; have hk8 : Keeps rawv'.ownBlock.toList w7 w8 := (Keeps.refl _ w7).grown hg8 (fun i e => .inl (by simp [e])); have hR8 := h7.rawReader hk8; have g8 := hR8.cell1; have f8 := hR8.free))
    all_goals go_wp2
    all_goals go_end0
    all_goals
      have hx := raw_done (w := wc) h7 hT7 (keeps_drew hk7) hk8 (own_str (t := ⟨L.toArray⟩) ho8)
      exact ⟨.inl ⟨_, raw9 ++ L, _, _, l, by rw [← HR.out], rfl, hx.1, hx.2.1⟩, hk9.within hx.2.2 (fun i hi hlt => by
        rcases List.mem_cons.1 hi with rfl | hi
        · simp
        · exact List.mem_cons_of_mem _ (hw9 i hi hlt))⟩
end Go.Proofs.YtlcljanibjdejaaGreat

namespace Go.Proofs.YtlcljanibjdejaaGreat
open Go.RowKit Go.Maps

def stL (l : List UInt8) (k : Nat) (p : List UInt8) : Bool := p.isPrefixOf (l.drop k)
def tagL (l : List UInt8) (k : Nat) (p : List UInt8) : Bool := stL l k p && (decide (k + p.length < l.length) && letterB (l.getD (k + p.length) 0))

/-- What a piece is, and what comes of it. -/
def pieceL (l : List UInt8) (k : Nat) (raw : List UInt8) (out : List Tok) : Option (Nat × List UInt8 × List Tok) :=
  if tagL l k [60] = true then openL l k raw out
  else if tagL l k [60, 47] = true then closeL l k raw out
  else if stL l k [60, 33, 45, 45] = true then comL l k raw out
  else if (stL l k [60, 33] || (stL l k [60, 63] || stL l k [60, 47])) = true then declL l k raw out
  else textL l k raw out

theorem piece_any (B r b : Nat) (rawv outv : Value) (raw : List UInt8) (l : List (Tok × Value)) (s : ByteArray) (k : Nat) (w : World) (hs : s.size ≤ 3000) (h : Rd w B r b rawv outv raw l) (hT : IsText w b s k) (hB : B ≤ w.heap.size) (hraw : raw.length ≤ 3000) (hl : l.length ≤ 90000) (hlt : k < s.size) :
    Calls Tryz.prog 79 #[.pointer (some ⟨r, 0, none⟩)] w fun e w' => PieceDone B r b rawv outv raw l s w (pieceL s.data.toList k raw (l.map (·.1))) e w' := by
  unfold pieceL
  by_cases c1 : tagL s.data.toList k [60] = true
  · rw [if_pos c1]
    exact piece_open B r b rawv outv raw l s k w hs h hT hB hraw hl hlt c1
  rw [if_neg c1]
  have c1' : tagAt s k ⟨#[60]⟩ = false := by simpa using (show ¬ tagAt s k ⟨#[60]⟩ = true from c1)
  by_cases c2 : tagL s.data.toList k [60, 47] = true
  · rw [if_pos c2]
    exact piece_close B r b rawv outv raw l s k w hs h hT hB hraw hl hlt c1' c2
  rw [if_neg c2]
  have c2' : tagAt s k ⟨#[60, 47]⟩ = false := by simpa using (show ¬ tagAt s k ⟨#[60, 47]⟩ = true from c2)
  by_cases c3 : stL s.data.toList k [60, 33, 45, 45] = true
  · rw [if_pos c3]
    exact piece_comment B r b rawv outv raw l s k w hs h hT hlt c1' c2' c3
  rw [if_neg c3]
  have c3' : stAt s k [60, 33, 45, 45] = false := by simpa using (show ¬ stAt s k [60, 33, 45, 45] = true from c3)
  by_cases c4 : (stL s.data.toList k [60, 33] || (stL s.data.toList k [60, 63] || stL s.data.toList k [60, 47])) = true
  · rw [if_pos c4]
    exact piece_decl B r b rawv outv raw l s k w hs h hT hlt c1' c2' c3' c4
  rw [if_neg c4]
  have c4' : stAt s k [60, 33] = false ∧ stAt s k [60, 63] = false ∧ stAt s k [60, 47] = false := by simpa using (show ¬ (stAt s k [60, 33] || (stAt s k [60, 63] || stAt s k [60, 47])) = true from c4)
  exact piece_text B r b rawv outv raw l s k w hs h hT hB hraw hlt c1' c2' c3' c4'.1 c4'.2.1 c4'.2.2

theorem index_len : ∀ (l p : List UInt8), 0 ≤ Lib.index l p → Lib.index l p + p.length ≤ l.length
  | [], p => by
    unfold Lib.index
    split
    · rename_i h; simp_all
    · simp
  | c :: l, p => by
    have ih := index_len l p
    unfold Lib.index
    split
    · rename_i h
      have h' : p <+: c :: l := by simpa using h
      have := h'.length_le
      simp at this ⊢; omega
    · split
      · simp
      · rename_i h2
        intro h
        have h3 : Lib.index l p ≠ -1 := by simpa using h2
        simp only [List.length_cons]
        have := ih (by omega)
        omega

theorem endOf_len {p l : List UInt8} {m : Nat} (h : endOf p l = some m) : p.length ≤ m ∧ m ≤ l.length := by
  unfold endOf at h
  split at h
  · simp at h
  · simp only [Option.some.injEq] at h
    have := index_len l p (by omega)
    omega

theorem attrsAt_bound (l : List UInt8) : ∀ (f k : Nat) (acc a : List Pair) (k2 : Nat), attrsAt l f k acc = some (a, k2) → k ≤ k2 ∧ k2 < l.length
  | 0, k, acc, a, k2, h => by simp [attrsAt] at h
  | f + 1, k, acc, a, k2, h => by
    have e := (one_attrsAt h _ rfl).symm
    split at e
    · simp at e
    · rename_i d q hd
      have h2 := congrArg List.length hd
      simp only [List.length_drop, List.length_cons] at h2
      split at e
      · simp only [Option.some.injEq, Prod.mk.injEq] at e
        omega
      · split at e
        · simp at e
        · have := attrsAt_bound l f _ _ _ _ e
          omega

theorem endT_len (raw : List UInt8) : (endT raw).length ≤ 1 := by unfold endT; split <;> simp

theorem pieceL_bound {l : List UInt8} {k : Nat} {raw : List UInt8} {out : List Tok} {k' : Nat} {raw' : List UInt8} {out' : List Tok} (h : pieceL l k raw out = some (k', raw', out')) (hk : k < l.length) :
    k < k' ∧ k' ≤ l.length ∧ raw'.length + k ≤ raw.length + k' ∧ out'.length ≤ out.length + 2 := by
  unfold pieceL at h
  have he := endT_len raw
  split at h
  · unfold openL at h
    split at h
    · simp at h
    · rename_i a k2 ha
      have hb := attrsAt_bound _ _ _ _ _ _ ha
      split at h <;> simp only [Option.some.injEq, Prod.mk.injEq] at h <;> obtain ⟨rfl, rfl, rfl⟩ := h <;> simp <;> omega
  split at h
  · unfold closeL at h
    split at h
    · simp at h
    · rename_i m hm
      have hb := endOf_len hm
      rw [List.length_drop] at hb
      simp only [List.length_cons, List.length_nil] at hb
      split at h <;> simp only [Option.some.injEq, Prod.mk.injEq] at h <;> obtain ⟨rfl, rfl, rfl⟩ := h <;> simp <;> omega
  split at h
  · unfold comL at h
    split at h
    · simp at h
    · rename_i m hm
      have hb := endOf_len hm
      rw [List.length_drop] at hb
      simp only [List.length_cons, List.length_nil] at hb
      simp only [Option.some.injEq, Prod.mk.injEq] at h
      obtain ⟨rfl, rfl, rfl⟩ := h
      omega
  split at h
  · unfold declL at h
    split at h
    · simp at h
    · rename_i m hm
      have hb := endOf_len hm
      rw [List.length_drop] at hb
      simp only [List.length_cons, List.length_nil] at hb
      simp only [Option.some.injEq, Prod.mk.injEq] at h
      obtain ⟨rfl, rfl, rfl⟩ := h
      omega
  · unfold textL at h
    have hb := (List.takeWhile_sublist (l := l.drop (k + 1)) (p := noLt)).length_le
    rw [List.length_drop] at hb
    simp only [Option.some.injEq, Prod.mk.injEq] at h
    obtain ⟨rfl, rfl, rfl⟩ := h
    simp
    omega

set_option maxRecDepth 100000 in
set_option maxHeartbeats 400000 in
/-- Try, for a method's value: K reads, or gives up; S lists what K may turn. -/
theorem try_first (K : Nat) (recv : Value) (Yes No : World → Prop) (S : List Nat) (b : Nat) (s : ByteArray) (k : Nat) (w : World) (hT : IsText w b s k) (hK : Enters K) (hb : b ∈ S) (hS : ∀ i, i ∈ S → i < w.heap.size) (hNo : ∀ w2 w3, No w2 → Keeps [b] w2 w3 → No w3)
    (hread : ∀ w1, Keeps [] w w1 → Calls Tryz.prog K #[recv] w1 fun e w2 => (e = .returned (.tuple #[]) ∧ Yes w2 ∨ e = .panicked gave ∧ No w2 ∧ ∃ j, IsText w2 b s j) ∧ Keeps S w1 w2) :
    Calls Tryz.prog 78 #[.pointer (some ⟨b, 0, none⟩), .func (.func K) #[recv] #[]] w fun e w' =>
      (e = .returned (.bool true) ∧ Yes w' ∨ e = .returned (.bool false) ∧ No w' ∧ IsText w' b s k) ∧ Keeps S w w' := by
  have hmf : ∀ (fn : Fn) (first cap : Array Value) (w : World), (Instr.makeFunc fn first cap).run Tryz.prog w = .ok (.func fn first cap) w := fun _ _ _ _ => rfl
  have hK' := hK
  unfold Enters at hK'
  have c1 : ∀ o, (w.alloc o).cell? ⟨b, 1, none⟩ = some (.int .i64 (k : Int)) := fun o => (cell_past hT.lt o).trans hT.cell1
  have hkS : ∀ w2, Keeps S ((w.alloc (.cells #[.pointer (some ⟨b, 0, none⟩)] 105)).alloc (.cells #[.int .i64 (k : Int)] 3)) w2 → Keeps S w w2 := fun w2 h => (((Keeps.refl S w).alloc _).alloc _).trans h
  go_enter_defers Tryz.func78, Tryz.ntmps78
  go_wp2_with fail
  refine (hread _ (((Keeps.refl [] w).alloc _).alloc _)).mono ?_
  rintro e w2 ⟨⟨rfl, hy⟩ | ⟨rfl, hno, j, hj⟩, hk⟩
  · go_wp2_with fail
    refine leaves_cons (f := 151) (args := #[.pointer (some ⟨w.heap.size + 1, 0, none⟩), .pointer (some ⟨w.heap.size, 0, none⟩)]) (by simp) (by simp [go_sem]) ?_
    refine (catch_idle _ _ _).mono ?_
    rintro e u' w3 ⟨rfl, rfl, rfl⟩
    exact ⟨_, results_tmp rfl _ _ _, .inl ⟨rfl, hy⟩, hkS _ hk⟩
  · go_wp2_with fail
    refine leaves_cons (f := 151) (args := #[.pointer (some ⟨w.heap.size + 1, 0, none⟩), .pointer (some ⟨w.heap.size, 0, none⟩)]) (by simp) (by simp [go_sem]) ?_
    refine (catch_panicking b s k j (w.heap.size + 1) w.heap.size _ hj ?_ ?_).mono ?_
    · rw [hk.block _ (by rw [two_size]; omega) (fun h => by have := hS _ h; omega)]
      exact two_snd _ _ _
    · rw [hk.block _ (by rw [two_size]; omega) (fun h => by have := hS _ h; omega)]
      exact two_fst _ _ _
    rintro e u' w3 ⟨rfl, rfl, hT3, hk3⟩
    exact ⟨_, results_tmp rfl _ _ _, .inr ⟨rfl, hNo _ _ hno hk3, hT3⟩, (hkS _ hk).trans (hk3.mono fun i hi _ => by simp at hi; subst hi; exact hb)⟩
end Go.Proofs.YtlcljanibjdejaaGreat
