/- openTag, closeTag. -/
import Derived.Test.YtngojdajamgababGreatTags
namespace Go.Proofs.YtngojdajamgababGreat
open Go.RowKit Go.Maps

/-- The text that isn't taken yet, as a token. -/
def endT (raw : List UInt8) : List Tok := if raw = [] then [] else [textTok (takeL raw).1]
theorem endToks_map (raw : List UInt8) : (endToks raw).map (·.1) = endT raw := by
  unfold endToks endT
  split <;> rfl

/-- A tag that begins at a place. -/
def openL (l : List UInt8) (k : Nat) (raw : List UInt8) (out : List Tok) : Option (Nat × List UInt8 × List Tok) :=
  match attrsAt l (l.length + 1) (k + 1 + ((l.drop (k + 1)).takeWhile tagN).length) [] with
  | none => none
  | some (a, k2) => some (k2 + 1, if isNameL (lowerL ((l.drop (k + 1)).takeWhile tagN)) = true then ([], out ++ endT raw ++ [⟨2, lowerL ((l.drop (k + 1)).takeWhile tagN), a, []⟩]) else (raw, out))

def closeL (l : List UInt8) (k : Nat) (raw : List UInt8) (out : List Tok) : Option (Nat × List UInt8 × List Tok) :=
  match endOf [62] (l.drop (k + 2 + ((l.drop (k + 2)).takeWhile tagN).length)) with
  | none => none
  | some m => some (k + 2 + ((l.drop (k + 2)).takeWhile tagN).length + m, if isNameL (lowerL ((l.drop (k + 2)).takeWhile tagN)) = true then ([], out ++ endT raw ++ [⟨3, lowerL ((l.drop (k + 2)).takeWhile tagN), [], []⟩]) else (raw, out))

theorem Rd.text_touch {w : World} {B r b : Nat} {rawv outv : Value} {raw : List UInt8} {l : List (Tok × Value)} (h : Rd w B r b rawv outv raw l) {s : ByteArray} {k : Nat} (hT : IsText w b s k) : b ∉ touch r rawv outv := by
  intro hm
  simp [touch] at hm
  rcases hm with hm | hm | hm
  · exact h.ne hT hm.symm
  · exact block_ne h.raw hT (by decide) hm
  · exact block_ne h.out hT (by decide) hm

theorem keeps_text {S : List Nat} {b : Nat} {w w' : World} (h : Keeps [b] w w') : Keeps (b :: S) w w' := h.to (by simp)
theorem keeps_touch {S : List Nat} {b : Nat} {w w' : World} (h : Keeps S w w') : Keeps (b :: S) w w' := h.to (fun _ hi => List.mem_cons_of_mem _ hi)

set_option maxRecDepth 4000 in
set_option maxHeartbeats 4000000 in
theorem openTag_any (B r b : Nat) (rawv outv : Value) (raw : List UInt8) (l : List (Tok × Value)) (s : ByteArray) (k : Nat) (w : World) (hs : s.size ≤ 3000) (h : Rd w B r b rawv outv raw l) (hT : IsText w b s k) (hB : B ≤ w.heap.size) (hraw : raw.length ≤ 3000) (hl : l.length ≤ 90000)
    (hk : k + 1 ≤ s.size) (hst : stAt s k [60] = true) :
    Calls Tryz.prog 68 #[.pointer (some ⟨r, 0, none⟩)] w fun e w' =>
      ((∃ k' raw' rawv' outv' l', openL s.data.toList k raw (l.map (·.1)) = some (k', raw', l'.map (·.1)) ∧ e = .returned (.tuple #[]) ∧ Rd w' B r b rawv' outv' raw' l' ∧ IsText w' b s k') ∨
       (openL s.data.toList k raw (l.map (·.1)) = none ∧ e = .panicked gave ∧ Rd w' B r b rawv outv raw l ∧ ∃ j, IsText w' b s j)) ∧ Keeps (b :: touch r rawv outv) w w' := by
  have hne := h.ne hT
  have hbt := h.text_touch hT
  have hlen := len_size s
  have htn := hide (tagName_any r b rawv outv s ⟨#[60]⟩ k w hs (by decide) h.reader hT h.max hk hst _ rfl)
  have hLl := takeWhile_le tagN s (k + 1) hk
  have hsz : (⟨#[60]⟩ : ByteArray).size = 1 := rfl
  rw [hsz] at htn
  unfold openL
  rw [hlen]
  generalize (s.data.toList.drop (k + 1)).takeWhile tagN = N at *
  have hin := hide (fun w => isName_any ⟨(lowerL N).toArray⟩ w (by rw [str_size]; simp [lowerL]; omega))
  rw [str_list] at hin
  generalize lowerL N = NN at *
  have hats := hide (fun (w : World) hR hT => attrs_any r b rawv outv s (k + 1 + N.length) w hs hR hT hLl)
  generalize attrsAt s.data.toList (s.size + 1) (k + 1 + N.length) [] = A at *
  clear hst
  go_enter Tryz.func68, Tryz.ntmps68
  go_wp2_with fail
  refine htn.out.mono ?_
  rintro e w1 ⟨rfl, hT1, hk1⟩
  have h1 := h.keepsText hT hk1
  have hB1 := Nat.le_trans hB hk1.size
  go_wp2_with fail
  refine (hats.out _ h1.reader hT1).mono ?_
  rintro e w2 ⟨⟨a, k2, v, hA, rfl, ho2, hal, hlt2, hgt, hT2⟩ | ⟨hA, rfl, j, hT2⟩, hk2⟩
  · have h2 := h1.keepsText hT1 hk2
    have hB2 := Nat.le_trans hB1 hk2.size
    have c2 := h2.reader.cell0
    subst hA
    have ho2' : w2.ownsRow B 83 2 v a.length (pairCells a) := ho2.mono (by omega)
    obtain ⟨o, c, rfl⟩ := row_form ho2'
    clear ho2 hal hgt
    go_wp2_with fail
    refine (one_yes b s k2 _ hs hT2 hlt2).mono ?_
    rintro e w3 ⟨rfl, hT3, hk3⟩
    have h3 := h2.keepsText hT2 hk3
    have hB3 := Nat.le_trans hB2 hk3.size
    have ho3 : w3.ownsRow B 83 2 (.slice o a.length c) a.length (pairCells a) := hk3.owns ho2' (fun g hg hm => by
      simp at hm
      subst hm
      exact block_ne ho2' hT2 (by decide) hg)
    have hkw : Keeps [b] w w3 := (hk1.trans hk2).trans hk3
    clear c2
    go_wp2_with fail
    refine (hin.out _).mono ?_
    rintro e w4 ⟨rfl, rfl⟩
    cases hnm : isNameL NN
    · go_wp2_with fail
      go_end0
      exact ⟨⟨_, _, _, _, l, ⟨rfl, rfl, rfl⟩, rfl, h3, hT3⟩, keeps_text hkw⟩
    · go_wp2_with fail
      refine (put_tok B r b rawv outv raw l _ h3 hB3 hraw hl 2 NN [] a o a.length c ho3).mono ?_
      rintro e w5 ⟨rfl, rawv', outv', h5, hk5⟩
      go_wp2_with fail
      go_end0
      refine ⟨⟨_, [], _, _, _, ⟨rfl, rfl, ?_⟩, rfl, h5, hT3.keeps hk5 hbt⟩, (keeps_text hkw).trans (keeps_touch hk5)⟩
      simp [endToks_map]
  · subst hA
    go_wp2_with fail
    exact ⟨rfl, ⟨rfl, h1.keepsText hT1 hk2, j, hT2⟩, keeps_text (hk1.trans hk2)⟩

set_option maxRecDepth 4000 in
set_option maxHeartbeats 4000000 in
theorem closeTag_any (B r b : Nat) (rawv outv : Value) (raw : List UInt8) (l : List (Tok × Value)) (s : ByteArray) (k : Nat) (w : World) (hs : s.size ≤ 3000) (h : Rd w B r b rawv outv raw l) (hT : IsText w b s k) (hB : B ≤ w.heap.size) (hraw : raw.length ≤ 3000) (hl : l.length ≤ 90000)
    (hk : k + 2 ≤ s.size) (hst : stAt s k [60, 47] = true) :
    Calls Tryz.prog 69 #[.pointer (some ⟨r, 0, none⟩)] w fun e w' =>
      ((∃ k' raw' rawv' outv' l', closeL s.data.toList k raw (l.map (·.1)) = some (k', raw', l'.map (·.1)) ∧ e = .returned (.tuple #[]) ∧ Rd w' B r b rawv' outv' raw' l' ∧ IsText w' b s k') ∨
       (closeL s.data.toList k raw (l.map (·.1)) = none ∧ e = .panicked gave ∧ Rd w' B r b rawv outv raw l ∧ ∃ j, IsText w' b s j)) ∧ Keeps (b :: touch r rawv outv) w w' := by
  have hne := h.ne hT
  have hbt := h.text_touch hT
  have hlen := len_size s
  have htn := hide (tagName_any r b rawv outv s ⟨#[60, 47]⟩ k w hs (by decide) h.reader hT h.max hk hst _ rfl)
  have hLl := takeWhile_le tagN s (k + 2) hk
  have hsz : (⟨#[60, 47]⟩ : ByteArray).size = 2 := rfl
  rw [hsz] at htn
  unfold closeL
  generalize (s.data.toList.drop (k + 2)).takeWhile tagN = N at *
  have hin := hide (fun w => isName_any ⟨(lowerL N).toArray⟩ w (by rw [str_size]; simp [lowerL]; omega))
  rw [str_list] at hin
  generalize lowerL N = NN at *
  have hpt := hide (fun (w : World) hT hM => passTo_any b s (k + 2 + N.length) ⟨#[62]⟩ w hs (by decide) hT hLl hM)
  rw [show (⟨#[62]⟩ : ByteArray).data.toList = [62] from rfl] at hpt
  generalize endOf [62] (s.data.toList.drop (k + 2 + N.length)) = A at *
  clear hst
  go_enter Tryz.func69, Tryz.ntmps69
  go_wp2_with fail
  refine htn.out.mono ?_
  rintro e w1 ⟨rfl, hT1, hk1⟩
  have h1 := h.keepsText hT hk1
  have hB1 := Nat.le_trans hB hk1.size
  have c1 := h1.reader.cell0
  go_wp2_with fail
  refine (hpt.out _ hT1 h1.max).mono ?_
  rintro e w2 ⟨⟨m, hA, rfl, hT2⟩ | ⟨hA, rfl, hT2⟩, hk2⟩
  · have h2 := h1.keepsText hT1 hk2
    have hB2 := Nat.le_trans hB1 hk2.size
    subst hA
    have hkw : Keeps [b] w w2 := hk1.trans hk2
    clear c1
    go_wp2_with fail
    refine (hin.out _).mono ?_
    rintro e w4 ⟨rfl, rfl⟩
    cases hnm : isNameL NN
    · go_wp2_with fail
      go_end0
      exact ⟨⟨_, _, _, _, l, ⟨rfl, rfl, rfl⟩, rfl, h2, hT2⟩, keeps_text hkw⟩
    · go_wp2_with fail
      refine (put_tok B r b rawv outv raw l _ h2 hB2 hraw hl 3 NN [] [] none 0 0 (World.ownsRow_nil _ _ _ _)).mono ?_
      rintro e w5 ⟨rfl, rawv', outv', h5, hk5⟩
      go_wp2_with fail
      go_end0
      refine ⟨⟨_, [], _, _, _, ⟨rfl, rfl, ?_⟩, rfl, h5, hT2.keeps hk5 hbt⟩, (keeps_text hkw).trans (keeps_touch hk5)⟩
      simp [endToks_map]
  · subst hA
    go_wp2_with fail
    exact ⟨rfl, ⟨rfl, h1.keepsText hT1 hk2, _, hT2⟩, keeps_text (hk1.trans hk2)⟩
end Go.Proofs.YtngojdajamgababGreat
