/- CleanGood holds: for every input the law returns true, and each argument reads behind the call as it read before; no condition. A part of its proof. -/
import Derived.Test.YtlcljanibjdejaaGreatCg02
import Derived.Laws.StructEq
namespace Go.Proofs.YtlcljanibjdejaaGreat
open Go.RowKit Go.Maps
def endT (raw : List UInt8) : List Tok := if raw = [] then [] else [textTok (takeL raw).1]
theorem endToks_map (raw : List UInt8) : (endToks raw).map (·.1) = endT raw := by
  unfold endToks endT
  split <;> rfl
def openL (l : List UInt8) (k : Nat) (raw : List UInt8) (out : List Tok) : Option (Nat × List UInt8 × List Tok) :=
  match attrsAt l (l.length + 1) (k + 1 + ((l.drop (k + 1)).takeWhile tagN).length) [] with
  | none => none
  | some (a, k2) => some (k2 + 1, if isNameL (lowerL ((l.drop (k + 1)).takeWhile tagN)) = true then ([], out ++ endT raw ++ [⟨2, lowerL ((l.drop (k + 1)).takeWhile tagN), a, []⟩]) else (raw, out))
def closeL (l : List UInt8) (k : Nat) (raw : List UInt8) (out : List Tok) : Option (Nat × List UInt8 × List Tok) :=
  match endOf [62] (l.drop (k + 2 + ((l.drop (k + 2)).takeWhile tagN).length)) with
  | none => none
  | some m => some (k + 2 + ((l.drop (k + 2)).takeWhile tagN).length + m, if isNameL (lowerL ((l.drop (k + 2)).takeWhile tagN)) = true then ([], out ++ endT raw ++ [⟨3, lowerL ((l.drop (k + 2)).takeWhile tagN), [], []⟩]) else (raw, out))
theorem Rd.text_touch {w : World} {B r b : Nat} {rawv outv : Value} {raw : List UInt8} {l : List (Tok × Value)} (h : Rd w B r b rawv outv raw l) {s : ByteArray} {k : Nat} (hT : IsText w b s k) : b ∉ touch r rawv outv := by
  intro hm
  simp [touch] at hm
  rcases hm with hm | hm | hm
  · exact h.ne hT hm.symm
  · exact block_ne h.raw hT (by decide) hm
  · exact block_ne h.out hT (by decide) hm
theorem keeps_text {S : List Nat} {b : Nat} {w w' : World} (h : Keeps [b] w w') : Keeps (b :: S) w w' := h.to (by simp)
theorem keeps_touch {S : List Nat} {b : Nat} {w w' : World} (h : Keeps S w w') : Keeps (b :: S) w w' := h.to (fun _ hi => List.mem_cons_of_mem _ hi)
set_option maxRecDepth 4000 in
set_option maxHeartbeats 4000000 in
theorem openTag_any (B r b : Nat) (rawv outv : Value) (raw : List UInt8) (l : List (Tok × Value)) (s : ByteArray) (k : Nat) (w : World) (hs : s.size ≤ 3000) (h : Rd w B r b rawv outv raw l) (hT : IsText w b s k) (hB : B ≤ w.heap.size) (hraw : raw.length ≤ 3000) (hl : l.length ≤ 90000)
    (hk : k + 1 ≤ s.size) (hst : stAt s k [60] = true) :
    Calls Tryz.prog 153 #[.pointer (some ⟨r, 0, none⟩)] w fun e w' =>
      ((∃ k' raw' rawv' outv' l', openL s.data.toList k raw (l.map (·.1)) = some (k', raw', l'.map (·.1)) ∧ e = .returned (.tuple #[]) ∧ Rd w' B r b rawv' outv' raw' l' ∧ IsText w' b s k') ∨
       (openL s.data.toList k raw (l.map (·.1)) = none ∧ e = .panicked gave ∧ Rd w' B r b rawv outv raw l ∧ ∃ j, IsText w' b s j)) ∧ Keeps (b :: touch r rawv outv) w w' := by
  have hne := h.ne hT
  have hbt := h.text_touch hT
  have hlen := len_size s
  have htn := hide (tagName_any r b rawv outv s ⟨#[60]⟩ k w hs (by decide) h.reader hT h.max hk hst _ rfl)
  have hLl := takeWhile_le tagN s (k + 1) hk
  have hsz : (⟨#[60]⟩ : ByteArray).size = 1 := rfl
  rw [hsz] at htn
  unfold openL
  rw [hlen]
  generalize (s.data.toList.drop (k + 1)).takeWhile tagN = N at *
  have hin := hide (fun w => isName_any ⟨(lowerL N).toArray⟩ w (by rw [str_size]; simp [lowerL]; omega))
  rw [str_list] at hin
  generalize lowerL N = NN at *
  have hats := hide (fun (w : World) hR hT => attrs_any r b rawv outv s (k + 1 + N.length) w hs hR hT hLl)
  generalize attrsAt s.data.toList (s.size + 1) (k + 1 + N.length) [] = A at *
  clear hst
  go_enter Tryz.func153, Tryz.ntmps153
  go_wp2_with fail
  refine htn.out.mono ?_
  rintro e w1 ⟨rfl, hT1, hk1⟩
  have h1 := h.keepsText hT hk1
  have hB1 := Nat.le_trans hB hk1.size
  go_wp2_with fail
  refine (hats.out _ h1.reader hT1).mono ?_
  rintro e w2 ⟨⟨a, k2, v, hA, rfl, ho2, hal, hlt2, hgt, hT2⟩ | ⟨hA, rfl, j, hT2⟩, hk2⟩
  · have h2 := h1.keepsText hT1 hk2
    have hB2 := Nat.le_trans hB1 hk2.size
    have c2 := h2.reader.cell0
    subst hA
    have ho2' : w2.ownsRow B 52 2 v a.length (pairCells a) := ho2.mono (by omega)
    obtain ⟨o, c, rfl⟩ := row_form ho2'
    clear ho2 hal hgt
    go_wp2_with fail
    refine (one_yes b s k2 _ hs hT2 hlt2).mono ?_
    rintro e w3 ⟨rfl, hT3, hk3⟩
    have h3 := h2.keepsText hT2 hk3
    have hB3 := Nat.le_trans hB2 hk3.size
    have ho3 : w3.ownsRow B 52 2 (.slice o a.length c) a.length (pairCells a) := hk3.owns ho2' (fun g hg hm => by
      simp at hm
      subst hm
      exact block_ne ho2' hT2 (by decide) hg)
    have hkw : Keeps [b] w w3 := (hk1.trans hk2).trans hk3
    clear c2
    go_wp2_with fail
    refine (hin.out _).mono ?_
    rintro e w4 ⟨rfl, rfl⟩
    cases hnm : isNameL NN
    · go_wp2_with fail
      go_end0
      exact ⟨⟨_, _, _, _, l, ⟨rfl, rfl, rfl⟩, rfl, h3, hT3⟩, keeps_text hkw⟩
    · go_wp2_with fail
      refine (put_tok B r b rawv outv raw l _ h3 hB3 hraw hl 2 NN [] a o a.length c ho3).mono ?_
      rintro e w5 ⟨rfl, rawv', outv', h5, hk5⟩
      go_wp2_with fail
      go_end0
      refine ⟨⟨_, [], _, _, _, ⟨rfl, rfl, ?_⟩, rfl, h5, hT3.keeps hk5 hbt⟩, (keeps_text hkw).trans (keeps_touch hk5)⟩
      simp [endToks_map]
  · subst hA
    go_wp2_with fail
    exact ⟨rfl, ⟨rfl, h1.keepsText hT1 hk2, j, hT2⟩, keeps_text (hk1.trans hk2)⟩
set_option maxRecDepth 4000 in
set_option maxHeartbeats 4000000 in
theorem closeTag_any (B r b : Nat) (rawv outv : Value) (raw : List UInt8) (l : List (Tok × Value)) (s : ByteArray) (k : Nat) (w : World) (hs : s.size ≤ 3000) (h : Rd w B r b rawv outv raw l) (hT : IsText w b s k) (hB : B ≤ w.heap.size) (hraw : raw.length ≤ 3000) (hl : l.length ≤ 90000)
    (hk : k + 2 ≤ s.size) (hst : stAt s k [60, 47] = true) :
    Calls Tryz.prog 154 #[.pointer (some ⟨r, 0, none⟩)] w fun e w' =>
      ((∃ k' raw' rawv' outv' l', closeL s.data.toList k raw (l.map (·.1)) = some (k', raw', l'.map (·.1)) ∧ e = .returned (.tuple #[]) ∧ Rd w' B r b rawv' outv' raw' l' ∧ IsText w' b s k') ∨
       (closeL s.data.toList k raw (l.map (·.1)) = none ∧ e = .panicked gave ∧ Rd w' B r b rawv outv raw l ∧ ∃ j, IsText w' b s j)) ∧ Keeps (b :: touch r rawv outv) w w' := by
  have hne := h.ne hT
  have hbt := h.text_touch hT
  have hlen := len_size s
  have htn := hide (tagName_any r b rawv outv s ⟨#[60, 47]⟩ k w hs (by decide) h.reader hT h.max hk hst _ rfl)
  have hLl := takeWhile_le tagN s (k + 2) hk
  have hsz : (⟨#[60, 47]⟩ : ByteArray).size = 2 := rfl
  rw [hsz] at htn
  unfold closeL
  generalize (s.data.toList.drop (k + 2)).takeWhile tagN = N at *
  have hin := hide (fun w => isName_any ⟨(lowerL N).toArray⟩ w (by rw [str_size]; simp [lowerL]; omega))
  rw [str_list] at hin
  generalize lowerL N = NN at *
  have hpt := hide (fun (w : World) hT hM => passTo_any b s (k + 2 + N.length) ⟨#[62]⟩ w hs (by decide) hT hLl hM)
  rw [show (⟨#[62]⟩ : ByteArray).data.toList = [62] from rfl] at hpt
  generalize endOf [62] (s.data.toList.drop (k + 2 + N.length)) = A at *
  clear hst
  go_enter Tryz.func154, Tryz.ntmps154
  go_wp2_with fail
  refine htn.out.mono ?_
  rintro e w1 ⟨rfl, hT1, hk1⟩
  have h1 := h.keepsText hT hk1
  have hB1 := Nat.le_trans hB hk1.size
  have c1 := h1.reader.cell0
  go_wp2_with fail
  refine (hpt.out _ hT1 h1.max).mono ?_
  rintro e w2 ⟨⟨m, hA, rfl, hT2⟩ | ⟨hA, rfl, hT2⟩, hk2⟩
  · have h2 := h1.keepsText hT1 hk2
    have hB2 := Nat.le_trans hB1 hk2.size
    subst hA
    have hkw : Keeps [b] w w2 := hk1.trans hk2
    clear c1
    go_wp2_with fail
    refine (hin.out _).mono ?_
    rintro e w4 ⟨rfl, rfl⟩
    cases hnm : isNameL NN
    · go_wp2_with fail
      go_end0
      exact ⟨⟨_, _, _, _, l, ⟨rfl, rfl, rfl⟩, rfl, h2, hT2⟩, keeps_text hkw⟩
    · go_wp2_with fail
      refine (put_tok B r b rawv outv raw l _ h2 hB2 hraw hl 3 NN [] [] none 0 0 (World.ownsRow_nil _ _ _ _)).mono ?_
      rintro e w5 ⟨rfl, rawv', outv', h5, hk5⟩
      go_wp2_with fail
      go_end0
      refine ⟨⟨_, [], _, _, _, ⟨rfl, rfl, ?_⟩, rfl, h5, hT2.keeps hk5 hbt⟩, (keeps_text hkw).trans (keeps_touch hk5)⟩
      simp [endToks_map]
  · subst hA
    go_wp2_with fail
    exact ⟨rfl, ⟨rfl, h1.keepsText hT1 hk2, _, hT2⟩, keeps_text (hk1.trans hk2)⟩
def tagAt (s : ByteArray) (k : Nat) (p : ByteArray) : Bool := stAt s k p.data.toList && (decide (k + p.size < s.size) && letterB (byteAt s (k + p.size)))
theorem beg_any (b : Nat) (s : ByteArray) (k : Nat) (p : ByteArray) (w : World) (hT : IsText w b s k) (hk : k ≤ s.size) :
    Calls Tryz.prog 155 #[.pointer (some ⟨b, 0, none⟩), .string p] w fun e w' => e = .returned (.bool (stAt s k p.data.toList)) ∧ IsText w' b s k ∧ Keeps [] w w' :=
  (begins_any b s k p w hT hk).mono fun _ _ ⟨he, _, hw⟩ => ⟨he, by rw [hw]; exact hT, by rw [hw]; exact (Keeps.refl _ _).drewN _⟩
theorem tag_any (r b : Nat) (rawv outv : Value) (s p : ByteArray) (k : Nat) (w : World) (hs : s.size ≤ 3000) (hp : p.size ≤ 3000) (hR : IsReader w r b rawv outv) (hT : IsText w b s k) (hk : k ≤ s.size) :
    Calls Tryz.prog 152 #[.pointer (some ⟨r, 0, none⟩), .string p] w fun e w' => e = .returned (.bool (tagAt s k p)) ∧ IsText w' b s k ∧ Keeps [] w w' :=
  tagBegins_any r b rawv outv s p k w hs hp hR hT hk
def PieceDone (B r b : Nat) (rawv outv : Value) (raw : List UInt8) (l : List (Tok × Value)) (s : ByteArray) (w : World) (P : Option (Nat × List UInt8 × List Tok)) (e : Ending) (w' : World) : Prop :=
  ((∃ k' raw' rawv' outv' l', P = some (k', raw', l'.map (·.1)) ∧ e = .returned (.tuple #[]) ∧ Rd w' B r b rawv' outv' raw' l' ∧ IsText w' b s k') ∨
   (P = none ∧ e = .panicked gave ∧ Rd w' B r b rawv outv raw l ∧ ∃ j, IsText w' b s j)) ∧ Keeps (b :: touch r rawv outv) w w'
theorem PieceDone.nil {B r b : Nat} {rawv outv : Value} {raw : List UInt8} {l : List (Tok × Value)} {s : ByteArray} {w0 w : World} {P : Option (Nat × List UInt8 × List Tok)} {e : Ending} {w' : World} (h : PieceDone B r b rawv outv raw l s w P e w') (hk : Keeps [] w0 w) : PieceDone B r b rawv outv raw l s w0 P e w' :=
  ⟨h.1, (hk.to (by simp)).trans h.2⟩
theorem st_len {s : ByteArray} {k : Nat} {p : List UInt8} (h : stAt s k p = true) (hk : k ≤ s.size) : k + p.length ≤ s.size := by
  have h' : p <+: s.data.toList.drop k := by unfold stAt at h; simpa using h
  have := h'.length_le
  have hl := len_size s
  rw [List.length_drop] at this
  omega
def comL (l : List UInt8) (k : Nat) (raw : List UInt8) (out : List Tok) : Option (Nat × List UInt8 × List Tok) :=
  match endOf [45, 45, 62] (l.drop (k + 2)) with
  | none => none
  | some m => some (k + 2 + m, raw, out)
def declL (l : List UInt8) (k : Nat) (raw : List UInt8) (out : List Tok) : Option (Nat × List UInt8 × List Tok) :=
  match endOf [62] (l.drop k) with
  | none => none
  | some m => some (k + m, raw, out)
def textL (l : List UInt8) (k : Nat) (raw : List UInt8) (out : List Tok) : Option (Nat × List UInt8 × List Tok) :=
  some (k + 1 + ((l.drop (k + 1)).takeWhile noLt).length, raw ++ [l.getD k 0] ++ (l.drop (k + 1)).takeWhile noLt, out)
set_option maxRecDepth 4000 in
set_option maxHeartbeats 4000000 in
theorem piece_open (B r b : Nat) (rawv outv : Value) (raw : List UInt8) (l : List (Tok × Value)) (s : ByteArray) (k : Nat) (w : World) (hs : s.size ≤ 3000) (h : Rd w B r b rawv outv raw l) (hT : IsText w b s k) (hB : B ≤ w.heap.size) (hraw : raw.length ≤ 3000) (hl : l.length ≤ 90000)
    (hlt : k < s.size) (c1 : tagAt s k ⟨#[60]⟩ = true) :
    Calls Tryz.prog 79 #[.pointer (some ⟨r, 0, none⟩)] w fun e w' => PieceDone B r b rawv outv raw l s w (openL s.data.toList k raw (l.map (·.1))) e w' := by
  have hst : stAt s k [60] = true := by unfold tagAt at c1; simp only [Bool.and_eq_true] at c1; exact c1.1
  have t1 := hide (tag_any r b rawv outv s ⟨#[60]⟩ k w hs (by decide) h.reader hT (by omega))
  rw [c1] at t1
  have HO := hide (fun (w : World) (h : Rd w B r b rawv outv raw l) (hT : IsText w b s k) (hB : B ≤ w.heap.size) => openTag_any B r b rawv outv raw l s k w hs h hT hB hraw hl hlt hst)
  generalize openL s.data.toList k raw (l.map (·.1)) = P at *
  clear c1 hst
  go_enter Tryz.func79, Tryz.ntmps79
  go_wp2_with fail
  refine t1.out.mono ?_
  rintro e w1 ⟨rfl, hT1, hk1⟩
  go_wp2_with fail
  refine (HO.out _ (h.keepsNil hk1) hT1 (Nat.le_trans hB hk1.size)).mono ?_
  rintro e w2 hD
  have hD' : PieceDone B r b rawv outv raw l s w P e w2 := PieceDone.nil hD hk1
  have hD2 := hide hD'
  rcases hD.1 with ⟨_, _, _, _, _, _, rfl, _⟩ | ⟨_, rfl, _⟩
  · clear hD hD'
    go_wp2_with fail
    go_end0
    exact hD2.out
  · clear hD hD'
    go_wp2_with fail
    exact ⟨rfl, hD2.out⟩
set_option maxRecDepth 4000 in
set_option maxHeartbeats 4000000 in
theorem piece_close (B r b : Nat) (rawv outv : Value) (raw : List UInt8) (l : List (Tok × Value)) (s : ByteArray) (k : Nat) (w : World) (hs : s.size ≤ 3000) (h : Rd w B r b rawv outv raw l) (hT : IsText w b s k) (hB : B ≤ w.heap.size) (hraw : raw.length ≤ 3000) (hl : l.length ≤ 90000)
    (hlt : k < s.size) (c1 : tagAt s k ⟨#[60]⟩ = false) (c2 : tagAt s k ⟨#[60, 47]⟩ = true) :
    Calls Tryz.prog 79 #[.pointer (some ⟨r, 0, none⟩)] w fun e w' => PieceDone B r b rawv outv raw l s w (closeL s.data.toList k raw (l.map (·.1))) e w' := by
  have hst : stAt s k [60, 47] = true := by unfold tagAt at c2; simp only [Bool.and_eq_true] at c2; exact c2.1
  have t1 := hide (tag_any r b rawv outv s ⟨#[60]⟩ k w hs (by decide) h.reader hT (by omega))
  have t2 := hide (fun (w : World) hR hT => tag_any r b rawv outv s ⟨#[60, 47]⟩ k w hs (by decide) hR hT (by omega))
  rw [c1] at t1
  rw [c2] at t2
  have HO := hide (fun (w : World) (h : Rd w B r b rawv outv raw l) (hT : IsText w b s k) (hB : B ≤ w.heap.size) => closeTag_any B r b rawv outv raw l s k w hs h hT hB hraw hl (st_len hst (by omega)) hst)
  generalize closeL s.data.toList k raw (l.map (·.1)) = P at *
  clear c1 c2 hst
  go_enter Tryz.func79, Tryz.ntmps79
  go_wp2_with fail
  refine t1.out.mono ?_
  rintro e w1 ⟨rfl, hT1, hk1⟩
  have h1 := h.keepsNil hk1
  go_wp2_with fail
  refine (t2.out _ h1.reader hT1).mono ?_
  rintro e w2 ⟨rfl, hT2, hk2⟩
  have h2 := h1.keepsNil hk2
  go_wp2_with fail
  refine (HO.out _ h2 hT2 (Nat.le_trans hB (Nat.le_trans hk1.size hk2.size))).mono ?_
  rintro e w3 hD
  have hD' : PieceDone B r b rawv outv raw l s w P e w3 := PieceDone.nil hD (hk1.trans hk2)
  have hD2 := hide hD'
  rcases hD.1 with ⟨_, _, _, _, _, _, rfl, _⟩ | ⟨_, rfl, _⟩
  · clear hD hD'
    go_wp2_with fail
    go_end0
    exact hD2.out
  · clear hD hD'
    go_wp2_with fail
    exact ⟨rfl, hD2.out⟩
set_option maxRecDepth 4000 in
set_option maxHeartbeats 4000000 in
theorem piece_comment (B r b : Nat) (rawv outv : Value) (raw : List UInt8) (l : List (Tok × Value)) (s : ByteArray) (k : Nat) (w : World) (hs : s.size ≤ 3000) (h : Rd w B r b rawv outv raw l) (hT : IsText w b s k)
    (hlt : k < s.size) (c1 : tagAt s k ⟨#[60]⟩ = false) (c2 : tagAt s k ⟨#[60, 47]⟩ = false) (c3 : stAt s k [60, 33, 45, 45] = true) :
    Calls Tryz.prog 79 #[.pointer (some ⟨r, 0, none⟩)] w fun e w' => PieceDone B r b rawv outv raw l s w (comL s.data.toList k raw (l.map (·.1))) e w' := by
  have hend : endOf [60, 33] (s.data.toList.drop k) = some 2 := endOf_here (by
    have h' : [60, 33, 45, 45] <+: s.data.toList.drop k := by unfold stAt at c3; simpa using c3
    have : ([60, 33] : List UInt8) <+: s.data.toList.drop k := List.IsPrefix.trans ⟨[45, 45], rfl⟩ h'
    unfold Lib.hasPrefix
    simpa using this)
  have hk4 : k + 4 ≤ s.size := st_len c3 (by omega)
  have t1 := hide (tag_any r b rawv outv s ⟨#[60]⟩ k w hs (by decide) h.reader hT (by omega))
  have t2 := hide (fun (w : World) hR hT => tag_any r b rawv outv s ⟨#[60, 47]⟩ k w hs (by decide) hR hT (by omega))
  have t3 := hide (fun (w : World) hT => beg_any b s k ⟨#[60, 33, 45, 45]⟩ w hT (by omega))
  rw [c1] at t1
  rw [c2] at t2
  rw [show stAt s k (⟨#[60, 33, 45, 45]⟩ : ByteArray).data.toList = true from c3] at t3
  have p1 := hide (fun (w : World) hT hM => passTo_any b s k ⟨#[60, 33]⟩ w hs (by decide) hT (by omega) hM)
  rw [show endOf (⟨#[60, 33]⟩ : ByteArray).data.toList (s.data.toList.drop k) = some 2 from hend] at p1
  have p2 := hide (fun (w : World) hT hM => passTo_any b s (k + 2) ⟨#[45, 45, 62]⟩ w hs (by decide) hT (by omega) hM)
  unfold comL
  rw [show (⟨#[45, 45, 62]⟩ : ByteArray).data.toList = [45, 45, 62] from rfl] at p2
  generalize endOf [45, 45, 62] (s.data.toList.drop (k + 2)) = A at *
  clear c1 c2 c3 hend
  go_enter Tryz.func79, Tryz.ntmps79
  go_wp2_with fail
  refine t1.out.mono ?_
  rintro e w1 ⟨rfl, hT1, hk1⟩
  have h1 := h.keepsNil hk1
  go_wp2_with fail
  refine (t2.out _ h1.reader hT1).mono ?_
  rintro e w2 ⟨rfl, hT2, hk2⟩
  have h2 := h1.keepsNil hk2
  have d2 := h2.reader.cell0
  go_wp2_with fail
  refine (t3.out _ hT2).mono ?_
  rintro e w3 ⟨rfl, hT3, hk3⟩
  have h3 := h2.keepsNil hk3
  have d3 := h3.reader.cell0
  have hk03 := (hk1.trans hk2).trans hk3
  clear d2
  go_wp2_with fail
  refine (p1.out _ hT3 h3.max).mono ?_
  rintro e w4 ⟨⟨m, hm, rfl, hT4⟩ | ⟨hm, _⟩, hk4⟩
  · simp only [Option.some.injEq] at hm
    subst hm
    have h4 := h3.keepsText hT3 hk4
    have d4 := h4.reader.cell0
    clear d3
    go_wp2_with fail
    refine (p2.out _ hT4 h4.max).mono ?_
    have hk04 : Keeps [b] w w4 := (hk03.to (by simp)).trans hk4
    rintro e w5 ⟨⟨m, rfl, rfl, hT5⟩ | ⟨rfl, rfl, hT5⟩, hk5⟩
    · have hD := hide (show PieceDone B r b rawv outv raw l s w (some (k + 2 + m, raw, l.map (·.1))) (.returned (.tuple #[])) w5 from ⟨.inl ⟨_, _, _, _, l, rfl, rfl, h4.keepsText hT4 hk5, hT5⟩, keeps_text (hk04.trans hk5)⟩)
      go_wp2_with fail
      go_end0
      exact hD.out
    · have hD := hide (show PieceDone B r b rawv outv raw l s w none (.panicked gave) w5 from ⟨.inr ⟨rfl, rfl, h4.keepsText hT4 hk5, _, hT5⟩, keeps_text (hk04.trans hk5)⟩)
      go_wp2_with fail
      exact ⟨rfl, hD.out⟩
  · simp at hm
def noAns : Ending → Ending
  | .returned _ => .returned (.tuple #[])
  | e => e
theorem decl_fin (B r b : Nat) (rawv outv : Value) (raw : List UInt8) (l : List (Tok × Value)) (s : ByteArray) (k : Nat) (w : World) (w4 : World) (h4 : Rd w4 B r b rawv outv raw l) (hT4 : IsText w4 b s k) (hk : Keeps [] w w4) (x : Nat → Value) (e : Ending) (w5 : World)
    (hx : ((∃ m, endOf [62] (s.data.toList.drop k) = some m ∧ e = .returned (x m) ∧ IsText w5 b s (k + m)) ∨ (endOf [62] (s.data.toList.drop k) = none ∧ e = .panicked gave ∧ IsText w5 b s k)) ∧ Keeps [b] w4 w5) :
    PieceDone B r b rawv outv raw l s w (declL s.data.toList k raw (l.map (·.1))) (noAns e) w5 := by
  unfold declL
  obtain ⟨⟨m, hA, rfl, hT5⟩ | ⟨hA, rfl, hT5⟩, hk5⟩ := hx
  · rw [hA]
    exact ⟨.inl ⟨_, _, _, _, l, rfl, rfl, h4.keepsText hT4 hk5, hT5⟩, keeps_text ((hk.to (by simp)).trans hk5)⟩
  · rw [hA]
    exact ⟨.inr ⟨rfl, rfl, h4.keepsText hT4 hk5, _, hT5⟩, keeps_text ((hk.to (by simp)).trans hk5)⟩
set_option maxRecDepth 4000 in
set_option maxHeartbeats 4000000 in
theorem piece_decl (B r b : Nat) (rawv outv : Value) (raw : List UInt8) (l : List (Tok × Value)) (s : ByteArray) (k : Nat) (w : World) (hs : s.size ≤ 3000) (h : Rd w B r b rawv outv raw l) (hT : IsText w b s k)
    (hlt : k < s.size) (c1 : tagAt s k ⟨#[60]⟩ = false) (c2 : tagAt s k ⟨#[60, 47]⟩ = false) (c3 : stAt s k [60, 33, 45, 45] = false) (c4 : (stAt s k [60, 33] || (stAt s k [60, 63] || stAt s k [60, 47])) = true) :
    Calls Tryz.prog 79 #[.pointer (some ⟨r, 0, none⟩)] w fun e w' => PieceDone B r b rawv outv raw l s w (declL s.data.toList k raw (l.map (·.1))) e w' := by
  have t1 := hide (tag_any r b rawv outv s ⟨#[60]⟩ k w hs (by decide) h.reader hT (by omega))
  have t2 := hide (fun (w : World) hR hT => tag_any r b rawv outv s ⟨#[60, 47]⟩ k w hs (by decide) hR hT (by omega))
  have t3 := hide (fun (w : World) hT => beg_any b s k ⟨#[60, 33, 45, 45]⟩ w hT (by omega))
  have t4 := hide (fun (w : World) hT => beg_any b s k ⟨#[60, 33]⟩ w hT (by omega))
  have t5 := hide (fun (w : World) hT => beg_any b s k ⟨#[60, 63]⟩ w hT (by omega))
  have t6 := hide (fun (w : World) hT => beg_any b s k ⟨#[60, 47]⟩ w hT (by omega))
  rw [c1] at t1
  rw [c2] at t2
  rw [show stAt s k (⟨#[60, 33, 45, 45]⟩ : ByteArray).data.toList = false from c3] at t3
  rw [show (⟨#[60, 33]⟩ : ByteArray).data.toList = [60, 33] from rfl] at t4
  rw [show (⟨#[60, 63]⟩ : ByteArray).data.toList = [60, 63] from rfl] at t5
  rw [show (⟨#[60, 47]⟩ : ByteArray).data.toList = [60, 47] from rfl] at t6
  have p2 := hide (fun (w : World) hT hM => passTo_any b s k ⟨#[62]⟩ w hs (by decide) hT (by omega) hM)
  have FIN := hide (decl_fin B r b rawv outv raw l s k w)
  generalize declL s.data.toList k raw (l.map (·.1)) = P at *
  rw [show (⟨#[62]⟩ : ByteArray).data.toList = [62] from rfl] at p2
  generalize endOf [62] (s.data.toList.drop k) = A at *
  generalize stAt s k [60, 33] = q4 at *
  generalize stAt s k [60, 63] = q5 at *
  generalize stAt s k [60, 47] = q6 at *
  clear c1 c2 c3
  go_enter Tryz.func79, Tryz.ntmps79
  go_wp2_with fail
  refine t1.out.mono ?_
  rintro e w1 ⟨rfl, hT1, hk1⟩
  have h1 := h.keepsNil hk1
  go_wp2_with fail
  refine (t2.out _ h1.reader hT1).mono ?_
  rintro e w2 ⟨rfl, hT2, hk2⟩
  have h2 := h1.keepsNil hk2
  have d2 := h2.reader.cell0
  go_wp2_with fail
  refine (t3.out _ hT2).mono ?_
  rintro e w3 ⟨rfl, hT3, hk3⟩
  have h3 := h2.keepsNil hk3
  have d3 := h3.reader.cell0
  have hk03 := (hk1.trans hk2).trans hk3
  clear d2
  go_wp2_with fail
  refine (t4.out _ hT3).mono ?_
  rintro e w4 ⟨rfl, hT4, hk4⟩
  have h4 := h3.keepsNil hk4
  have d4 := h4.reader.cell0
  have hk04 := hk03.trans hk4
  clear d3
  cases q4
  · go_wp2_with fail
    refine (t5.out _ hT4).mono ?_
    rintro e w5 ⟨rfl, hT5, hk5⟩
    have h5 := h4.keepsNil hk5
    have d5 := h5.reader.cell0
    have hk05 := hk04.trans hk5
    clear d4
    cases q5
    · go_wp2_with fail
      refine (t6.out _ hT5).mono ?_
      rintro e w6 ⟨rfl, hT6, hk6⟩
      have h6 := h5.keepsNil hk6
      have d6 := h6.reader.cell0
      have hk06 := hk05.trans hk6
      have hq6 : q6 = true := by simpa using c4
      subst hq6
      clear d5
      go_wp2_with fail
      refine (p2.out _ hT6 h6.max).mono ?_
      rintro e w7 hx
      have hD := hide (FIN.out _ h6 hT6 hk06 _ e w7 hx)
      rcases hx with ⟨⟨m, _, rfl, _⟩ | ⟨_, rfl, _⟩, _⟩
      · go_wp2_with fail
        go_end0
        exact hD.out
      · go_wp2_with fail
        exact ⟨rfl, hD.out⟩
    · go_wp2_with fail
      refine (p2.out _ hT5 h5.max).mono ?_
      rintro e w7 hx
      have hD := hide (FIN.out _ h5 hT5 hk05 _ e w7 hx)
      rcases hx with ⟨⟨m, _, rfl, _⟩ | ⟨_, rfl, _⟩, _⟩
      · go_wp2_with fail
        go_end0
        exact hD.out
      · go_wp2_with fail
        exact ⟨rfl, hD.out⟩
  · go_wp2_with fail
    refine (p2.out _ hT4 h4.max).mono ?_
    rintro e w7 hx
    have hD := hide (FIN.out _ h4 hT4 hk04 _ e w7 hx)
    rcases hx with ⟨⟨m, _, rfl, _⟩ | ⟨_, rfl, _⟩, _⟩
    · go_wp2_with fail
      go_end0
      exact hD.out
    · go_wp2_with fail
      exact ⟨rfl, hD.out⟩
theorem enters159 : Enters 159 := enters_of Tryz.func159 (by kernel_rfl) (by kernel_rfl)
theorem Rd.rawReader {w w3 : World} {B r b : Nat} {rawv outv : Value} {raw : List UInt8} {l : List (Tok × Value)} (h : Rd w B r b rawv outv raw l) (hk : Keeps rawv.ownBlock.toList w w3) : IsReader w3 r b rawv outv :=
  h.reader.keeps hk (fun hm => block_ne h.raw h.reader.blk (by decide) (by simpa using hm))
theorem raw_done {w w7 w8 : World} {B r b : Nat} {rawv outv v8 : Value} {raw t : List UInt8} {l : List (Tok × Value)} {s : ByteArray} {k : Nat} (h7 : Rd w7 B r b rawv outv raw l) (hT7 : IsText w7 b s k) (hk0 : Keeps [b] w w7) (hk8 : Keeps rawv.ownBlock.toList w7 w8)
    (ho8 : w8.ownsRow B 5 1 v8 (raw ++ t).length (Lib.byteCells (raw ++ t))) :
    Rd (w8.setCell ⟨r, 1, none⟩ v8) B r b v8 outv (raw ++ t) l ∧ IsText (w8.setCell ⟨r, 1, none⟩ v8) b s k ∧ Keeps (b :: touch r rawv outv) w (w8.setCell ⟨r, 1, none⟩ v8) := by
  have hx := h7.setRaw hk8 ho8
  exact ⟨hx.1, hT7.keeps hx.2 (h7.text_touch hT7), (keeps_text hk0).trans (keeps_touch hx.2)⟩
set_option maxRecDepth 4000 in
set_option maxHeartbeats 4000000 in
theorem piece_text (B r b : Nat) (rawv outv : Value) (raw : List UInt8) (l : List (Tok × Value)) (s : ByteArray) (k : Nat) (w : World) (hs : s.size ≤ 3000) (h : Rd w B r b rawv outv raw l) (hT : IsText w b s k) (hB : B ≤ w.heap.size) (hraw : raw.length ≤ 3000)
    (hlt : k < s.size) (c1 : tagAt s k ⟨#[60]⟩ = false) (c2 : tagAt s k ⟨#[60, 47]⟩ = false) (c3 : stAt s k [60, 33, 45, 45] = false) (c4 : stAt s k [60, 33] = false) (c5 : stAt s k [60, 63] = false) (c6 : stAt s k [60, 47] = false) :
    Calls Tryz.prog 79 #[.pointer (some ⟨r, 0, none⟩)] w fun e w' => PieceDone B r b rawv outv raw l s w (textL s.data.toList k raw (l.map (·.1))) e w' := by
  have t1 := hide (tag_any r b rawv outv s ⟨#[60]⟩ k w hs (by decide) h.reader hT (by omega))
  have t2 := hide (fun (w : World) hR hT => tag_any r b rawv outv s ⟨#[60, 47]⟩ k w hs (by decide) hR hT (by omega))
  have t3 := hide (fun (w : World) hT => beg_any b s k ⟨#[60, 33, 45, 45]⟩ w hT (by omega))
  have t4 := hide (fun (w : World) hT => beg_any b s k ⟨#[60, 33]⟩ w hT (by omega))
  have t5 := hide (fun (w : World) hT => beg_any b s k ⟨#[60, 63]⟩ w hT (by omega))
  have t6 := hide (fun (w : World) hT => beg_any b s k ⟨#[60, 47]⟩ w hT (by omega))
  rw [c1] at t1
  rw [c2] at t2
  rw [show stAt s k (⟨#[60, 33, 45, 45]⟩ : ByteArray).data.toList = false from c3] at t3
  rw [show stAt s k (⟨#[60, 33]⟩ : ByteArray).data.toList = false from c4] at t4
  rw [show stAt s k (⟨#[60, 63]⟩ : ByteArray).data.toList = false from c5] at t5
  rw [show stAt s k (⟨#[60, 47]⟩ : ByteArray).data.toList = false from c6] at t6
  have ho1 := hide (fun (w : World) hT => one_yes b s k w hs hT hlt)
  have hps := hide (fun (w : World) hT => pass_of 159 noLt enters159 noLt_any b s (k + 1) w hs hT (by omega))
  have hLl := takeWhile_le noLt s (k + 1) (by omega)
  unfold textL
  rw [show s.data.toList.getD k 0 = byteAt s k from rfl]
  generalize (s.data.toList.drop (k + 1)).takeWhile noLt = L at *
  obtain ⟨i0, hi, hz0, hz1, hz2⟩ := info_parts Tryz.info5
  clear c1 c2 c3 c4 c5 c6
  go_enter Tryz.func79, Tryz.ntmps79
  go_wp2_with fail
  refine t1.out.mono ?_
  rintro e w1 ⟨rfl, hT1, hk1⟩
  have h1 := h.keepsNil hk1
  go_wp2_with fail
  refine (t2.out _ h1.reader hT1).mono ?_
  rintro e w2 ⟨rfl, hT2, hk2⟩
  have h2 := h1.keepsNil hk2
  have d2 := h2.reader.cell0
  go_wp2_with fail
  refine (t3.out _ hT2).mono ?_
  rintro e w3 ⟨rfl, hT3, hk3⟩
  have h3 := h2.keepsNil hk3
  have d3 := h3.reader.cell0
  have hk03 := (hk1.trans hk2).trans hk3
  clear d2
  go_wp2_with fail
  refine (t4.out _ hT3).mono ?_
  rintro e w4 ⟨rfl, hT4, hk4⟩
  have h4 := h3.keepsNil hk4
  have d4 := h4.reader.cell0
  have hk04 := hk03.trans hk4
  clear d3
  go_wp2_with fail
  refine (t5.out _ hT4).mono ?_
  rintro e w5 ⟨rfl, hT5, hk5⟩
  have h5 := h4.keepsNil hk5
  have d5 := h5.reader.cell0
  have hk05 := hk04.trans hk5
  clear d4
  go_wp2_with fail
  refine (t6.out _ hT5).mono ?_
  rintro e w6 ⟨rfl, hT6, hk6⟩
  have h6 := h5.keepsNil hk6
  have hk06 := hk05.trans hk6
  have hB6 := Nat.le_trans hB hk06.size
  clear d5 h1 h2 h3 h4 h5 hT1 hT2 hT3 hT4 hT5 hk1 hk2 hk3 hk4 hk5 hk6 hk03 hk04 hk05 t1 t2 t3 t4 t5 t6
  have d0 := h6.reader.cell0
  have d1 := h6.reader.cell1
  go_upto_region 0 with fail
  go_cut [] from 2 to 15 (fun wc => ∃ rawv', Rd wc B r b rawv' outv (raw ++ [byteAt s k]) l ∧ IsText wc b s (k + 1) ∧ Keeps (b :: touch r rawv outv) w wc ∧ Within w (touch r rawv' outv) (touch r rawv outv))
  case first =>
    go_region_law (first
      | (refine step_call rfl 157 _ _ rfl enters157 #[.pointer (some ⟨b, 0, none⟩)] (by simp [Act.eval]) (ho1.out _ (show IsText w6.drew b s k from hT6)) ?_; rintro e w7 ⟨rfl, hT7, hk7⟩; refine ⟨_, rfl, ?_⟩; have h7 := h6.keepsText hT6 (keeps_drew hk7); have e1 := h7.reader.cell1; have e1a : ∀ o, (w7.alloc o).cell? ⟨r, 1, none⟩ = some rawv := fun o => (cell_past (a := ⟨r, 1, none⟩) h7.reader.lt o).trans e1)
      | (refine step_own_at rfl _ _ 107 rfl B 5 i0 _ 1 1 Tryz.underlying107 hi hz0 hz1 hz2 rfl (by decide) rawv raw.length (Lib.byteCells raw) rfl (h7.raw.alloc _) ⟨w7.heap.size, 0, none⟩ 1 1 [.int .u8 ((byteAt s k).toNat : Int)] rfl rfl (lit_cells w7 _ 5) (by intro u hu; simp at hu; subst hu; rfl) (by unfold maxLen; omega) (by omega) (Nat.le_trans hB6 (Nat.le_trans hk7.size (by simp))) ?_; intro v8 w8 ho8 hg8 hw8; obtain ⟨o8, c8, rfl⟩ := row_form ho8; have hk8 : Keeps rawv.ownBlock.toList w7 w8 := ((Keeps.refl _ w7).alloc _).grown hg8 (fun i e => .inl (by simp [e])); have hR8 := h7.rawReader hk8; have g8 := hR8.cell1; have f8 := hR8.free))
    all_goals go_wp2
    all_goals go_meet
    all_goals
      have hx := raw_done (w := w) h7 hT7 ((hk06.to (by simp)).trans (keeps_drew hk7)) hk8 (own_bytes (t := [byteAt s k]) ho8)
      exact ⟨_, hx.1, hx.2.1, hx.2.2, within_raw hw8 (Nat.le_trans hk06.size (Nat.le_trans (keeps_drew hk7).size (by simp)))⟩
  case rest =>
    obtain ⟨rawv', h9, hT9, hk9, hw9⟩ := hcut
    have hB9 := Nat.le_trans hB hk9.size
    have e0 := h9.reader.cell0
    have e1 := h9.reader.cell1
    have hr9 : (raw ++ [byteAt s k]).length ≤ 3001 := by simp; omega
    generalize hrr : raw ++ [byteAt s k] = raw9 at *
    have hLs : L.length ≤ 3000 := by omega
    have HR := hide hrr
    clear d0 d1 hrr
    go_upto_region 1 with fail
    go_region_law (first
      | (refine step_call rfl 158 _ _ rfl enters158 #[.pointer (some ⟨b, 0, none⟩), .func (.func 159) #[] #[]] (by simp [Act.eval]) (hps.out _ (show IsText wc.drew b s (k + 1) from hT9)) ?_; rintro e w7 ⟨rfl, hT7, hk7⟩; refine ⟨_, rfl, ?_⟩; have h7 := h9.keepsText hT9 (keeps_drew hk7); have e1 := h7.reader.cell1)
      | (refine step_own_str rfl _ _ 107 9 rfl B 5 i0 Tryz.underlying107 Tryz.underlying9 hi hz0 hz1 hz2 rawv' raw9.length (Lib.byteCells raw9) rfl h7.raw ⟨L.toArray⟩ rfl (by rw [str_size]; unfold maxLen; omega) (by rw [str_size]; omega) (Nat.le_trans hB9 hk7.size) ?_; intro v8 w8 ho8 hg8; obtain ⟨o8, c8, rfl⟩ := row_form ho8; have hk8 : Keeps rawv'.ownBlock.toList w7 w8 := (Keeps.refl _ w7).grown hg8 (fun i e => .inl (by simp [e])); have hR8 := h7.rawReader hk8; have g8 := hR8.cell1; have f8 := hR8.free))
    all_goals go_wp2
    all_goals go_end0
    all_goals
      have hx := raw_done (w := wc) h7 hT7 (keeps_drew hk7) hk8 (own_str (t := ⟨L.toArray⟩) ho8)
      exact ⟨.inl ⟨_, raw9 ++ L, _, _, l, by rw [← HR.out], rfl, hx.1, hx.2.1⟩, hk9.within hx.2.2 (fun i hi hlt => by
        rcases List.mem_cons.1 hi with rfl | hi
        · simp
        · exact List.mem_cons_of_mem _ (hw9 i hi hlt))⟩
def stL (l : List UInt8) (k : Nat) (p : List UInt8) : Bool := p.isPrefixOf (l.drop k)
def tagL (l : List UInt8) (k : Nat) (p : List UInt8) : Bool := stL l k p && (decide (k + p.length < l.length) && letterB (l.getD (k + p.length) 0))
def pieceL (l : List UInt8) (k : Nat) (raw : List UInt8) (out : List Tok) : Option (Nat × List UInt8 × List Tok) :=
  if tagL l k [60] = true then openL l k raw out
  else if tagL l k [60, 47] = true then closeL l k raw out
  else if stL l k [60, 33, 45, 45] = true then comL l k raw out
  else if (stL l k [60, 33] || (stL l k [60, 63] || stL l k [60, 47])) = true then declL l k raw out
  else textL l k raw out
theorem piece_any (B r b : Nat) (rawv outv : Value) (raw : List UInt8) (l : List (Tok × Value)) (s : ByteArray) (k : Nat) (w : World) (hs : s.size ≤ 3000) (h : Rd w B r b rawv outv raw l) (hT : IsText w b s k) (hB : B ≤ w.heap.size) (hraw : raw.length ≤ 3000) (hl : l.length ≤ 90000) (hlt : k < s.size) :
    Calls Tryz.prog 79 #[.pointer (some ⟨r, 0, none⟩)] w fun e w' => PieceDone B r b rawv outv raw l s w (pieceL s.data.toList k raw (l.map (·.1))) e w' := by
  unfold pieceL
  by_cases c1 : tagL s.data.toList k [60] = true
  · rw [if_pos c1]
    exact piece_open B r b rawv outv raw l s k w hs h hT hB hraw hl hlt c1
  rw [if_neg c1]
  have c1' : tagAt s k ⟨#[60]⟩ = false := by simpa using (show ¬ tagAt s k ⟨#[60]⟩ = true from c1)
  by_cases c2 : tagL s.data.toList k [60, 47] = true
  · rw [if_pos c2]
    exact piece_close B r b rawv outv raw l s k w hs h hT hB hraw hl hlt c1' c2
  rw [if_neg c2]
  have c2' : tagAt s k ⟨#[60, 47]⟩ = false := by simpa using (show ¬ tagAt s k ⟨#[60, 47]⟩ = true from c2)
  by_cases c3 : stL s.data.toList k [60, 33, 45, 45] = true
  · rw [if_pos c3]
    exact piece_comment B r b rawv outv raw l s k w hs h hT hlt c1' c2' c3
  rw [if_neg c3]
  have c3' : stAt s k [60, 33, 45, 45] = false := by simpa using (show ¬ stAt s k [60, 33, 45, 45] = true from c3)
  by_cases c4 : (stL s.data.toList k [60, 33] || (stL s.data.toList k [60, 63] || stL s.data.toList k [60, 47])) = true
  · rw [if_pos c4]
    exact piece_decl B r b rawv outv raw l s k w hs h hT hlt c1' c2' c3' c4
  rw [if_neg c4]
  have c4' : stAt s k [60, 33] = false ∧ stAt s k [60, 63] = false ∧ stAt s k [60, 47] = false := by simpa using (show ¬ (stAt s k [60, 33] || (stAt s k [60, 63] || stAt s k [60, 47])) = true from c4)
  exact piece_text B r b rawv outv raw l s k w hs h hT hB hraw hlt c1' c2' c3' c4'.1 c4'.2.1 c4'.2.2
theorem index_len : ∀ (l p : List UInt8), 0 ≤ Lib.index l p → Lib.index l p + p.length ≤ l.length
  | [], p => by
    unfold Lib.index
    split
    · rename_i h; simp_all
    · simp
  | c :: l, p => by
    have ih := index_len l p
    unfold Lib.index
    split
    · rename_i h
      have h' : p <+: c :: l := by simpa using h
      have := h'.length_le
      simp at this ⊢; omega
    · split
      · simp
      · rename_i h2
        intro h
        have h3 : Lib.index l p ≠ -1 := by simpa using h2
        simp only [List.length_cons]
        have := ih (by omega)
        omega
theorem endOf_len {p l : List UInt8} {m : Nat} (h : endOf p l = some m) : p.length ≤ m ∧ m ≤ l.length := by
  unfold endOf at h
  split at h
  · simp at h
  · simp only [Option.some.injEq] at h
    have := index_len l p (by omega)
    omega
theorem attrsAt_bound (l : List UInt8) : ∀ (f k : Nat) (acc a : List Pair) (k2 : Nat), attrsAt l f k acc = some (a, k2) → k ≤ k2 ∧ k2 < l.length
  | 0, k, acc, a, k2, h => by simp [attrsAt] at h
  | f + 1, k, acc, a, k2, h => by
    have e := (one_attrsAt h _ rfl).symm
    split at e
    · simp at e
    · rename_i d q hd
      have h2 := congrArg List.length hd
      simp only [List.length_drop, List.length_cons] at h2
      split at e
      · simp only [Option.some.injEq, Prod.mk.injEq] at e
        omega
      · split at e
        · simp at e
        · have := attrsAt_bound l f _ _ _ _ e
          omega
theorem endT_len (raw : List UInt8) : (endT raw).length ≤ 1 := by unfold endT; split <;> simp
theorem pieceL_bound {l : List UInt8} {k : Nat} {raw : List UInt8} {out : List Tok} {k' : Nat} {raw' : List UInt8} {out' : List Tok} (h : pieceL l k raw out = some (k', raw', out')) (hk : k < l.length) :
    k < k' ∧ k' ≤ l.length ∧ raw'.length + k ≤ raw.length + k' ∧ out'.length ≤ out.length + 2 := by
  unfold pieceL at h
  have he := endT_len raw
  split at h
  · unfold openL at h
    split at h
    · simp at h
    · rename_i a k2 ha
      have hb := attrsAt_bound _ _ _ _ _ _ ha
      split at h <;> simp only [Option.some.injEq, Prod.mk.injEq] at h <;> obtain ⟨rfl, rfl, rfl⟩ := h <;> simp <;> omega
  split at h
  · unfold closeL at h
    split at h
    · simp at h
    · rename_i m hm
      have hb := endOf_len hm
      rw [List.length_drop] at hb
      simp only [List.length_cons, List.length_nil] at hb
      split at h <;> simp only [Option.some.injEq, Prod.mk.injEq] at h <;> obtain ⟨rfl, rfl, rfl⟩ := h <;> simp <;> omega
  split at h
  · unfold comL at h
    split at h
    · simp at h
    · rename_i m hm
      have hb := endOf_len hm
      rw [List.length_drop] at hb
      simp only [List.length_cons, List.length_nil] at hb
      simp only [Option.some.injEq, Prod.mk.injEq] at h
      obtain ⟨rfl, rfl, rfl⟩ := h
      omega
  split at h
  · unfold declL at h
    split at h
    · simp at h
    · rename_i m hm
      have hb := endOf_len hm
      rw [List.length_drop] at hb
      simp only [List.length_cons, List.length_nil] at hb
      simp only [Option.some.injEq, Prod.mk.injEq] at h
      obtain ⟨rfl, rfl, rfl⟩ := h
      omega
  · unfold textL at h
    have hb := (List.takeWhile_sublist (l := l.drop (k + 1)) (p := noLt)).length_le
    rw [List.length_drop] at hb
    simp only [Option.some.injEq, Prod.mk.injEq] at h
    obtain ⟨rfl, rfl, rfl⟩ := h
    simp
    omega
set_option maxRecDepth 100000 in
set_option maxHeartbeats 400000 in
theorem try_first (K : Nat) (recv : Value) (Yes No : World → Prop) (S : List Nat) (b : Nat) (s : ByteArray) (k : Nat) (w : World) (hT : IsText w b s k) (hK : Enters K) (hb : b ∈ S) (hS : ∀ i, i ∈ S → i < w.heap.size) (hNo : ∀ w2 w3, No w2 → Keeps [b] w2 w3 → No w3)
    (hread : ∀ w1, Keeps [] w w1 → Calls Tryz.prog K #[recv] w1 fun e w2 => (e = .returned (.tuple #[]) ∧ Yes w2 ∨ e = .panicked gave ∧ No w2 ∧ ∃ j, IsText w2 b s j) ∧ Keeps S w1 w2) :
    Calls Tryz.prog 78 #[.pointer (some ⟨b, 0, none⟩), .func (.func K) #[recv] #[]] w fun e w' =>
      (e = .returned (.bool true) ∧ Yes w' ∨ e = .returned (.bool false) ∧ No w' ∧ IsText w' b s k) ∧ Keeps S w w' := by
  have hmf : ∀ (fn : Fn) (first cap : Array Value) (w : World), (Instr.makeFunc fn first cap).run Tryz.prog w = .ok (.func fn first cap) w := fun _ _ _ _ => rfl
  have hK' := hK
  unfold Enters at hK'
  have c1 : ∀ o, (w.alloc o).cell? ⟨b, 1, none⟩ = some (.int .i64 (k : Int)) := fun o => (cell_past hT.lt o).trans hT.cell1
  have hkS : ∀ w2, Keeps S ((w.alloc (.cells #[.pointer (some ⟨b, 0, none⟩)] 105)).alloc (.cells #[.int .i64 (k : Int)] 3)) w2 → Keeps S w w2 := fun w2 h => (((Keeps.refl S w).alloc _).alloc _).trans h
  go_enter_defers Tryz.func78, Tryz.ntmps78
  go_wp2_with fail
  refine (hread _ (((Keeps.refl [] w).alloc _).alloc _)).mono ?_
  rintro e w2 ⟨⟨rfl, hy⟩ | ⟨rfl, hno, j, hj⟩, hk⟩
  · go_wp2_with fail
    refine leaves_cons (f := 151) (args := #[.pointer (some ⟨w.heap.size + 1, 0, none⟩), .pointer (some ⟨w.heap.size, 0, none⟩)]) (by simp) (by simp [go_sem]) ?_
    refine (catch_idle _ _ _).mono ?_
    rintro e u' w3 ⟨rfl, rfl, rfl⟩
    exact ⟨_, results_tmp rfl _ _ _, .inl ⟨rfl, hy⟩, hkS _ hk⟩
  · go_wp2_with fail
    refine leaves_cons (f := 151) (args := #[.pointer (some ⟨w.heap.size + 1, 0, none⟩), .pointer (some ⟨w.heap.size, 0, none⟩)]) (by simp) (by simp [go_sem]) ?_
    refine (catch_panicking b s k j (w.heap.size + 1) w.heap.size _ hj ?_ ?_).mono ?_
    · rw [hk.block _ (by rw [two_size]; omega) (fun h => by have := hS _ h; omega)]
      exact two_snd _ _ _
    · rw [hk.block _ (by rw [two_size]; omega) (fun h => by have := hS _ h; omega)]
      exact two_fst _ _ _
    rintro e u' w3 ⟨rfl, rfl, hT3, hk3⟩
    exact ⟨_, results_tmp rfl _ _ _, .inr ⟨rfl, hNo _ _ hno hk3, hT3⟩, (hkS _ hk).trans (hk3.mono fun i hi _ => by simp at hi; subst hi; exact hb)⟩
theorem enters79 : Enters 79 := enters_of Tryz.func79 (by kernel_rfl) (by kernel_rfl)
theorem enters80 : Enters 80 := enters_of Tryz.func80 (by kernel_rfl) (by kernel_rfl)
def readAt (l : List UInt8) : Nat → Nat → List UInt8 → List Tok → List Tok
  | 0, _, raw, out => out ++ endT raw
  | f + 1, k, raw, out =>
    if l.length ≤ k then out ++ endT raw else
      match pieceL l k raw out with
      | some (k', raw', out') => readAt l f k' raw' out'
      | none => readAt l f l.length (raw ++ l.drop k) out
theorem readAt_end {l : List UInt8} {f k : Nat} {raw : List UInt8} {out : List Tok} (h : l.length ≤ k) : readAt l (f + 1) k raw out = out ++ endT raw := by
  simp only [readAt, if_pos h]
theorem readAt_some {l : List UInt8} {f k : Nat} {raw : List UInt8} {out : List Tok} {k' : Nat} {raw' : List UInt8} {out' : List Tok} (h : k < l.length) (hp : pieceL l k raw out = some (k', raw', out')) : readAt l (f + 1) k raw out = readAt l f k' raw' out' := by
  simp only [readAt, if_neg (Nat.not_le.2 h), hp]
theorem readAt_none {l : List UInt8} {f k : Nat} {raw : List UInt8} {out : List Tok} (h : k < l.length) (hp : pieceL l k raw out = none) : readAt l (f + 1) k raw out = readAt l f l.length (raw ++ l.drop k) out := by
  simp only [readAt, if_neg (Nat.not_le.2 h), hp]
def readL (l : List UInt8) : List Tok := readAt l (l.length + 1) 0 [] []
def IsToks (w : World) (B : Nat) (v : Value) (ts : List Tok) : Prop := ∃ l : List (Tok × Value), l.map (·.1) = ts ∧ w.ownsRow B 117 4 v l.length (outCells l) ∧ ∀ p ∈ l, HasAttrs w B p
theorem IsToks.keeps {w w' : World} {B : Nat} {v : Value} {ts : List Tok} (h : IsToks w B v ts) (hk : Keeps [] w w') : IsToks w' B v ts := by
  obtain ⟨l, h1, h2, h3⟩ := h
  exact ⟨l, h1, hk.owns h2 (fun _ _ => List.not_mem_nil), fun p hp => hk.owns (h3 p hp) (fun _ _ => List.not_mem_nil)⟩
theorem Rd.toks {w : World} {B r b : Nat} {rawv outv : Value} {raw : List UInt8} {l : List (Tok × Value)} (h : Rd w B r b rawv outv raw l) : IsToks w B outv (l.map (·.1)) := ⟨l, rfl, h.out, h.attrs⟩
theorem doneK (b : Nat) (s : ByteArray) (k : Nat) (w : World) (hT : IsText w b s k) :
    Calls Tryz.prog 77 #[.pointer (some ⟨b, 0, none⟩)] w fun e w' => e = .returned (.bool (decide (s.size ≤ k))) ∧ IsText w' b s k ∧ Keeps [] w w' :=
  (done_any b s k w hT).mono fun _ _ ⟨he, _, hw⟩ => ⟨he, by rw [hw]; exact hT, by rw [hw]; exact (Keeps.refl _ _).drewN _⟩
theorem try_piece (B r b : Nat) (rawv outv : Value) (raw : List UInt8) (l : List (Tok × Value)) (s : ByteArray) (k : Nat) (w : World) (hs : s.size ≤ 3000) (h : Rd w B r b rawv outv raw l) (hT : IsText w b s k) (hB : B ≤ w.heap.size) (hraw : raw.length ≤ 3000) (hl : l.length ≤ 90000) (hlt : k < s.size)
    (P : Option (Nat × List UInt8 × List Tok)) (hP : pieceL s.data.toList k raw (l.map (·.1)) = P) :
    Calls Tryz.prog 78 #[.pointer (some ⟨b, 0, none⟩), .func (.func 79) #[.pointer (some ⟨r, 0, none⟩)] #[]] w fun e w' =>
      (e = .returned (.bool true) ∧ (∃ k' raw' rawv' outv' l', P = some (k', raw', l'.map (·.1)) ∧ Rd w' B r b rawv' outv' raw' l' ∧ IsText w' b s k') ∨
       e = .returned (.bool false) ∧ (P = none ∧ Rd w' B r b rawv outv raw l) ∧ IsText w' b s k) ∧ Keeps (b :: touch r rawv outv) w w' := by
  refine try_first 79 _ _ _ (b :: touch r rawv outv) b s k w hT enters79 (by simp) (fun i hi => ?_) (fun w2 w3 hno hk => ⟨hno.1, hno.2.keeps hk ?_ ?_ ?_ ?_ ?_⟩) (fun w1 hk1 => ?_)
  · rcases List.mem_cons.1 hi with rfl | hi
    · exact hT.lt
    · exact h.touch_lt i hi
  · simpa using h.ne hT
  · intro g hg hm; simp at hm; subst hm; exact block_ne h.raw hT (by decide) hg
  · intro g hg hm; simp at hm; subst hm; exact block_ne h.out hT (by decide) hg
  · intro p hp g hg hm; simp at hm; subst hm; exact block_ne (h.attrs p hp) hT (by decide) hg
  · exact h.b0
  · refine (piece_any B r b rawv outv raw l s k w1 hs (h.keepsNil hk1) (hT.keeps hk1 List.not_mem_nil) (Nat.le_trans hB hk1.size) hraw hl hlt).mono ?_
    rw [hP]
    rintro e w2 ⟨⟨k', raw', rawv', outv', l', h1, h2, h3, h4⟩ | ⟨h1, h2, h3, h4⟩, hk⟩
    · exact ⟨.inl ⟨h2, k', raw', rawv', outv', l', h1, h3, h4⟩, hk⟩
    · exact ⟨.inr ⟨h2, ⟨h1, h3⟩, h4⟩, hk⟩
set_option maxRecDepth 4000 in
set_option maxHeartbeats 4000000 in
theorem read_some (s : ByteArray) (w : World) (hs : s.size ≤ 3000) (hM : HasMax w) :
    Calls Tryz.prog 18 #[.string s] w fun e w' => ∃ v, e = .returned (.tuple #[v, .int .i64 0]) ∧ IsToks w' w.heap.size v (readL s.data.toList) ∧ Keeps [] w w' := by
  have hl := len_size s
  have h0 := hM.lt
  obtain ⟨R, hRR⟩ : ∃ R, readL s.data.toList = R := ⟨_, rfl⟩
  rw [hRR]
  have HR0 : Hid (readAt s.data.toList (s.size + 1) 0 [] [] = R) := by rw [← hRR]; unfold readL; rw [hl]; exact rfl
  clear hRR
  have hgt : decide ((3000 : Int) < (s.size : Int)) = false := by simp; omega
  obtain ⟨i0, hi, hz0, hz1, hz2⟩ := info_parts Tryz.info5
  go_enter Tryz.func18, Tryz.ntmps18
  go_wp2_with fail
  refine (new_any s _).mono ?_
  rintro e w1 ⟨rfl, hw1⟩
  have hT1 : IsText w1 w.heap.size s 0 := by rw [hw1]; exact heap_alloc_new w _
  have hk1 : Keeps [] w w1 := by rw [hw1]; exact (Keeps.refl [] w).alloc _
  have hsz1 : w1.heap.size = w.heap.size + 1 := by rw [hw1]; simp
  have HZ := hide hsz1
  clear hw1 hsz1
  go_wp2_with fail
  have hR0 : Rd (w1.alloc (.cells #[.pointer (some ⟨w.heap.size, 0, none⟩), .slice none 0 0, .slice none 0 0] 109)) w.heap.size w1.heap.size w.heap.size (.slice none 0 0) (.slice none 0 0) [] [] :=
    ⟨heap_alloc_new w1 _, World.ownsRow_nil _ _ _ _, World.ownsRow_nil _ _ _ _, by simp, hM.keeps (hk1.alloc _) List.not_mem_nil, h0, by rw [HZ.out]; omega, Nat.le_refl _⟩
  have hT0 := hT1.keeps ((Keeps.refl [] w1).alloc (.cells #[.pointer (some ⟨w.heap.size, 0, none⟩), .slice none 0 0, .slice none 0 0] 109)) List.not_mem_nil
  have hk0 : Keeps [] w (w1.alloc (.cells #[.pointer (some ⟨w.heap.size, 0, none⟩), .slice none 0 0, .slice none 0 0] 109)) := hk1.alloc _
  have hr1 : w.heap.size < w1.heap.size := by rw [HZ.out]; omega
  generalize hrr : w1.heap.size = r at *
  clear hT1 hk1 HZ
  go_loopg [] (s.size + 1) (fun g wr => ∃ (k : Nat) (raw : List UInt8) (rawv outv : Value) (l : List (Tok × Value)), k ≤ s.size ∧ s.size + 1 ≤ g + k ∧ Rd wr w.heap.size r w.heap.size rawv outv raw l ∧ IsText wr w.heap.size s k ∧ Keeps [] w wr ∧ raw.length ≤ k ∧ l.length ≤ 2 * k ∧ Hid (readAt s.data.toList g k raw (l.map (·.1)) = R))
  case atStart => exact ⟨0, [], _, _, [], Nat.zero_le _, by omega, hR0, hT0, hk0, Nat.le_refl _, Nat.le_refl _, HR0⟩
  case round =>
    obtain ⟨k, raw, rawv, outv, l, hk, hg, hRd, hT2, hkp, hra, hla, hF⟩ := hrel
    clear HR0 hR0 hT0 hk0
    obtain ⟨f, rfl⟩ : ∃ f, gk = f + 1 := ⟨gk - 1, by omega⟩
    have c0 := hRd.reader.cell0
    go_wp2_with fail
    refine (doneK _ s k _ hT2).mono ?_
    rintro e w3 ⟨rfl, hT3, hk3⟩
    have h3 := hRd.keepsNil hk3
    have hkp3 := hkp.trans hk3
    clear c0 hRd hT2 hkp hk3
    by_cases hend : s.size ≤ k
    · have hd : decide (s.size ≤ k) = true := by simpa using hend
      rw [hd]
      have hE : l.map (·.1) ++ endT raw = R := by
        have := hF.out
        rwa [readAt_end (by omega)] at this
      have HE := hide hE
      clear hE hF
      go_wp2_with fail
      refine (endText_any _ _ _ rawv outv raw l _ h3 hkp3.size (by omega) (by omega)).mono ?_
      rintro e w4 ⟨rfl, rawv', outv', h4, hk4, _⟩
      have c2 := h4.reader.cell2
      have hk4' : Keeps [] w w4 := (hkp3.up.trans hk4).mono fun i hi hlt => by
        simp [touch] at hi
        rcases hi with hi | hi | hi
        · omega
        · have := (h3.raw.lt _ hi).1; omega
        · have := (h3.out.lt _ hi).1; omega
      go_wp2_with fail
      go_ret2
      refine ⟨_, rfl, ?_, hk4'⟩
      rw [← HE.out, ← endToks_map, ← List.map_append]
      exact h4.toks
    · have hd : decide (s.size ≤ k) = false := by simpa using hend
      rw [hd]
      obtain ⟨P, hP⟩ : ∃ P, pieceL s.data.toList k raw (l.map (·.1)) = P := ⟨_, rfl⟩
      have HES := hide (fun k' raw' out' (h : P = some (k', raw', out')) => (readAt_some (f := f) (by omega) (hP.trans h)).symm.trans hF.out)
      have HEN := hide (fun (h : P = none) => (readAt_none (f := f) (by omega) (hP.trans h)).symm.trans hF.out)
      have hbd := hide (fun k' raw' out' (h : P = some (k', raw', out')) => pieceL_bound (hP.trans h) (by omega))
      have htp := hide (try_piece _ _ _ rawv outv raw l s k w3 hs h3 hT3 hkp3.size (by omega) (by omega) (by omega) P hP)
      have hmf : ∀ (fn : Fn) (first cap : Array Value) (w : World), (Instr.makeFunc fn first cap).run Tryz.prog w = .ok (.func fn first cap) w := fun _ _ _ _ => rfl
      clear hF hP
      have c3 := h3.reader.cell0
      go_wp2_with fail
      refine htp.out.mono ?_
      have hin : ∀ i, i ∈ (w.heap.size :: touch r rawv outv) → w.heap.size ≤ i := fun i hi => by
        simp [touch] at hi
        rcases hi with hi | hi | hi | hi
        · omega
        · omega
        · have := (h3.raw.lt _ hi).1; omega
        · have := (h3.out.lt _ hi).1; omega
      rintro e w4 ⟨⟨rfl, k', raw', rawv', outv', l', rfl, h4, hT4⟩ | ⟨rfl, ⟨rfl, h4⟩, hT4⟩, hk4⟩
      · have hb := hbd.out _ _ _ rfl
        have hk4' : Keeps [] w w4 := (hkp3.up.trans hk4).mono fun i hi hlt => by have := hin i hi; omega
        clear c3
        go_wp2_with fail
        go_roundg f
        case measure => omega
        case rel => exact ⟨k', raw', rawv', outv', l', by omega, by omega, h4, hT4, hk4', by omega, by simpa using (show (l'.map (·.1)).length ≤ 2 * k' by have := hb.2.2.2; simp at this; simp; omega), HES.out _ _ _ rfl⟩
      · have hk4' : Keeps [] w w4 := (hkp3.up.trans hk4).mono fun i hi hlt => by have := hin i hi; omega
        have hre := hide (fun (w : World) hT => rest_any w.heap.size s k w hT hk)
        have hst : (s.extract k s.size).data.toList = s.data.toList.drop k := Lib.extract_to_end s k
        have hsl : (s.extract k s.size).size + k = s.size := by simp; omega
        have HRN : Hid (readAt s.data.toList f s.size (raw ++ (s.extract k s.size).data.toList) (l.map (·.1)) = R) := by rw [hst]; have := HEN.out rfl; rwa [hl] at this
        have hrs := hide (fun (w5 : World) hT => rest_any w.heap.size s k w5 hT hk)
        generalize s.extract k s.size = X at *
        have d0 := h4.reader.cell0
        have d1 := h4.reader.cell1
        clear c3 hre hst
        go_upto_region 6 with fail
        go_region_law (first
            | (refine step_call rfl 80 _ _ rfl enters80 #[.pointer (some ⟨w.heap.size, 0, none⟩)] (by simp [Act.eval]) (hrs.out _ (show IsText w4.drew w.heap.size s k from hT4)) ?_; rintro e w7 ⟨rfl, hT7, hk7⟩; refine ⟨_, rfl, ?_⟩; have h7 := h4.keepsText hT4 (keeps_drew hk7); have e1 := h7.reader.cell1)
            | (refine step_own_str rfl _ _ 107 9 rfl w.heap.size 5 i0 Tryz.underlying107 Tryz.underlying9 hi hz0 hz1 hz2 rawv raw.length (Lib.byteCells raw) rfl h7.raw X rfl (by unfold maxLen; omega) (by omega) (Nat.le_trans hk4'.size hk7.size) ?_; intro v8 w8 ho8 hg8; obtain ⟨o8, c8, rfl⟩ := row_form ho8; have hk8 : Keeps rawv.ownBlock.toList w7 w8 := (Keeps.refl _ w7).grown hg8 (fun i e => .inl (by simp [e])); have hR8 := h7.rawReader hk8; have g8 := hR8.cell1; have f8 := hR8.free))
        all_goals go_wp2
        all_goals
          have hx := raw_done (w := w4) h7 hT7 (keeps_drew hk7) hk8 (own_str (t := X) ho8)
          have hk9 := (hk4'.up.trans hx.2.2).mono (T := []) fun i hi hlt => by have := hin i hi; omega
          go_roundg f
          case measure => omega
          case rel => exact ⟨s.size, _, _, outv, l, by omega, by omega, hx.1, hx.2.1, hk9, by rw [List.length_append, len_size]; omega, by omega, HRN⟩
theorem read_any (s : ByteArray) (w : World) (hs : s.size ≤ maxLen) (hM : HasMax w) :
    Calls Tryz.prog 18 #[.string s] w fun e w' => Keeps [] w w' ∧
      if 3000 < s.size then e = .returned (.tuple #[.slice none 0 0, .int .i64 2]) else ∃ v, e = .returned (.tuple #[v, .int .i64 0]) ∧ IsToks w' w.heap.size v (readL s.data.toList) := by
  by_cases h : 3000 < s.size
  · simp only [if_pos h]
    have hgt : decide ((3000 : Int) < (s.size : Int)) = true := by simp; omega
    have hlen : s.size ≤ 9223372036854775807 := hs
    go_enter Tryz.func18, Tryz.ntmps18
    go_wp2_with fail
    go_ret2
    exact ⟨Keeps.refl _ _, rfl⟩
  · simp only [if_neg h]
    refine (read_some s w (by omega) hM).mono ?_
    rintro e w' ⟨v, he, ht, hk⟩
    exact ⟨hk, v, he, ht⟩
def Lies (w : World) (v : Value) (n z : Nat) (xs : List Value) : Prop :=
  xs.length = n * z ∧ ((v = .slice none 0 0 ∧ n = 0) ∨ (∃ g o c, v = .slice (some ⟨g, o, none⟩) n c ∧ n ≤ c ∧ c ≤ maxLen ∧ ∀ j u, xs[j]? = some u → w.cell? ⟨g, o + j, none⟩ = some u) ∨ (n = 0 ∧ ∃ a c, v = .slice a 0 c ∧ c ≤ maxLen))
theorem Lies.form {w : World} {v : Value} {n z : Nat} {xs : List Value} (h : Lies w v n z xs) : ∃ o c, v = .slice o n c ∧ n ≤ c ∧ c ≤ maxLen := by
  rcases h.2 with ⟨rfl, rfl⟩ | ⟨g, o, c, rfl, h1, h2, _⟩ | ⟨rfl, a, c, rfl, h1⟩
  · exact ⟨_, _, rfl, Nat.le_refl _, Nat.zero_le _⟩
  · exact ⟨_, _, rfl, h1, h2⟩
  · exact ⟨_, _, rfl, Nat.zero_le _, h1⟩
theorem Lies.addr {w : World} {a : Option Addr} {n m c z : Nat} {xs : List Value} (h : Lies w (.slice a m c) n z xs) (hn : 0 < n) : ∃ g o, a = some ⟨g, o, none⟩ ∧ ∀ j u, xs[j]? = some u → w.cell? ⟨g, o + j, none⟩ = some u := by
  rcases h.2 with ⟨_, h0⟩ | ⟨g, o, c', he, _, _, hc⟩ | ⟨h0, _⟩
  rotate_left 2
  · omega
  · omega
  · simp at he
    exact ⟨g, o, he.1, hc⟩
theorem Lies.of_row {w : World} {B : Nat} {e : TypeId} {z : Nat} {v : Value} {n : Nat} {xs : List Value} (h : w.ownsRow B e z v n xs) : Lies w v n z xs := by
  refine ⟨h.1, ?_⟩
  rcases h.2 with ⟨h1, h2⟩ | ⟨g, cap, cur, rfl, _, _, h3, h4, _⟩
  · exact .inl ⟨h1, h2⟩
  · refine .inr (.inl ⟨g, 0, cap, rfl, h3, h4, fun j u hj => ?_⟩)
    have := h.cells (g := g) rfl j u hj
    rw [add_zero] at this
    rw [Nat.zero_add]
    exact this
theorem cell_keeps {w w' : World} (hk : Keeps [] w w') {a : Addr} {u : Value} (h : w.cell? a = some u) : w'.cell? a = some u := by
  have hlt : a.block < w.heap.size := by
    rcases Nat.lt_or_ge a.block w.heap.size with h' | h'
    · exact h'
    · unfold World.cell? at h
      rw [Array.getElem?_eq_none h'] at h
      simp at h
  exact (World.cell?_of_block (hk.block _ hlt List.not_mem_nil)).trans h
theorem Lies.keeps {w w' : World} {v : Value} {n z : Nat} {xs : List Value} (h : Lies w v n z xs) (hk : Keeps [] w w') : Lies w' v n z xs := by
  refine ⟨h.1, ?_⟩
  rcases h.2 with ⟨h1, h2⟩ | ⟨g, o, c, rfl, h3, h4, h5⟩ | h6
  · exact .inl ⟨h1, h2⟩
  · exact .inr (.inl ⟨g, o, c, rfl, h3, h4, fun j u hj => cell_keeps hk (h5 j u hj)⟩)
  · exact .inr (.inr h6)
theorem pair_at0 (l : List Pair) (k : Nat) (hk : k < l.length) : (pairCells l)[k * 2]? = some (.string ⟨l[k].1.toArray⟩) := by
  induction l generalizing k with
  | nil => simp at hk
  | cons p l ih =>
    have e : pairCells (p :: l) = .string ⟨p.1.toArray⟩ :: .string ⟨p.2.toArray⟩ :: pairCells l := by simp [pairCells]
    rw [e]
    cases k with
    | zero => simp
    | succ k => rw [show (k + 1) * 2 = k * 2 + 1 + 1 from by omega]; simpa using ih k (by simpa using hk)
theorem pair_at1 (l : List Pair) (k : Nat) (hk : k < l.length) : (pairCells l)[k * 2 + 1]? = some (.string ⟨l[k].2.toArray⟩) := by
  induction l generalizing k with
  | nil => simp at hk
  | cons p l ih =>
    have e : pairCells (p :: l) = .string ⟨p.1.toArray⟩ :: .string ⟨p.2.toArray⟩ :: pairCells l := by simp [pairCells]
    rw [e]
    cases k with
    | zero => simp
    | succ k => rw [show (k + 1) * 2 + 1 = (k * 2 + 1) + 1 + 1 from by omega]; simpa using ih k (by simpa using hk)
theorem strEq (x y : List UInt8) : ((⟨x.toArray⟩ : ByteArray).toList == (⟨y.toArray⟩ : ByteArray).toList) = decide (x = y) := by
  rw [ByteArray.toList_eq, ByteArray.toList_eq, Bool.eq_iff_iff]
  simp
theorem eqAttr (x y : Pair) (w : World) : (binOp .neq 52 (.agg #[.string ⟨x.1.toArray⟩, .string ⟨x.2.toArray⟩]) (.agg #[.string ⟨y.1.toArray⟩, .string ⟨y.2.toArray⟩])).run Tryz.prog w = .ok (.bool (decide (x ≠ y))) w := by
  have u9 := Tryz.underlying9
  have hS : Tryz.prog.underlying 52 = some (.struct (Tryz.prog.fieldsOf 52)) := by kernel_rfl
  have hp : Tryz.prog.stoodInHeld 52 = false := by kernel_rfl
  have e : decide (x ≠ y) = !(decide (x.1 = y.1) && decide (x.2 = y.2)) := by
    obtain ⟨x1, x2⟩ := x
    obtain ⟨y1, y2⟩ := y
    by_cases h1 : x1 = y1 <;> by_cases h2 : x2 = y2 <;> simp [h1, h2]
  rw [e, run_neq_struct, show (10000 : Nat) = 9999 + 1 from rfl, run_equalIn_agg w 9999 52 _ _ hS hp]
  simp only [Program.fieldsOf, Tryz.underlying52]
  go_simp
  by_cases h1 : x.1 = y.1 <;> by_cases h2 : x.2 = y.2 <;> simp [h1, h2]
theorem eq_upto {α : Type} {a b : List α} (hlen : a.length = b.length) (h : ∀ j (h1 : j < a.length) (h2 : j < b.length), a[j] = b[j]) : a = b := List.ext_getElem hlen h
set_option maxHeartbeats 2000000 in
theorem sameAttrs_any (w : World) (va vb : Value) (la lb : List Pair) (ha : Lies w va la.length 2 (pairCells la)) (hb : Lies w vb lb.length 2 (pairCells lb)) :
    Calls Tryz.prog 92 #[va, vb] w fun e w' => e = .returned (.bool (decide (la = lb))) ∧ ∃ n, w' = w.drewN n := by
  obtain ⟨oa, ca, rfl, ha1, ha2⟩ := ha.form
  obtain ⟨ob, cb, rfl, hb1, hb2⟩ := hb.form
  unfold maxLen at ha2 hb2
  by_cases hlen : la.length = lb.length
  · obtain ⟨R, hR⟩ : ∃ R, decide (la = lb) = R := ⟨_, rfl⟩
    rw [hR]
    have HR := hide hR
    clear hR
    have HL := hide hlen
    have hn : (((la.length : Int) != (lb.length : Int))) = false := by simp; omega
    clear hlen
    go_enter Tryz.func92, Tryz.ntmps92
    go_wp2_with fail
    go_loopw [5] (fun i wr => ∃ k m : Nat, k ≤ la.length ∧ i = .int .i64 k ∧ wr = w.drewN m ∧ Hid (∀ j (h1 : j < la.length) (h2 : j < lb.length), j < k → la[j] = lb[j])) (fun i _ => la.length - (intOf i).toNat)
    case atStart => exact ⟨0, 0, Nat.zero_le _, rfl, rfl, fun j _ _ h => absurd h (Nat.not_lt_zero _)⟩
    case round =>
      obtain ⟨k, m, hk, rfl, rfl, hH⟩ := hrel
      by_cases hlt : k < la.length
      · obtain ⟨ga, xa, rfl, hca⟩ := ha.addr (by omega)
        obtain ⟨gb, xb, rfl, hcb⟩ := hb.addr (by rw [← HL.out]; omega)
        have a0 := hca _ _ (pair_at0 la k hlt)
        have a1 := hca _ _ (pair_at1 la k hlt)
        rw [← Nat.add_assoc] at a1
        have hltb : k < lb.length := by rw [← HL.out]; exact hlt
        have b0 := hcb _ _ (pair_at0 lb k hltb)
        have b1 := hcb _ _ (pair_at1 lb k hltb)
        rw [← Nat.add_assoc] at b1
        clear hca hcb
        have hgd : Tryz.prog.eqGuardType Tryz.prog.depth 52 = false := by kernel_rfl
        have heq := fun w => eqAttr la[k] lb[k] w
        by_cases hkk : la[k] = lb[k]
        · have hdd : decide (la[k] ≠ lb[k]) = false := by simpa using hkk
          rw [hdd] at heq
          have HKK := hide hkk
          clear hdd hkk
          go_wp2_with fail
          go_quiet (fail)
          go_wp2_with fail
          go_roundw
          case rel => exact ⟨k + 1, _, by omega, by go_num, rfl, fun j h1 h2 hj => by
            rcases Nat.lt_succ_iff_lt_or_eq.1 hj with hj | rfl
            · exact hH.out j h1 h2 hj
            · exact HKK.out⟩
          case measure => simp [intOf]; omega
        · have hdd : decide (la[k] ≠ lb[k]) = true := by simpa using hkk
          rw [hdd] at heq
          have hRf : R = false := by
            rw [← HR.out]
            have : la ≠ lb := fun e => hkk (by subst e; rfl)
            simpa using this
          subst hRf
          clear hdd hkk
          go_wp2_with fail
          go_quiet (fail)
          go_wp2_with fail
          go_ret
          exact ⟨rfl, m + nq, by simp⟩
      · have hRt : R = true := by
          rw [← HR.out]
          have : la = lb := eq_upto HL.out fun j h1 h2 => hH.out j h1 h2 (by omega)
          simpa using this
        subst hRt
        go_wp2_with fail
        go_ret
        exact ⟨rfl, _, rfl⟩
  · have hn : (((la.length : Int) != (lb.length : Int))) = true := by simp; omega
    have hf : decide (la = lb) = false := by
      have : la ≠ lb := fun e => hlen (by rw [e])
      simpa using this
    rw [hf]
    clear hf
    go_enter Tryz.func92, Tryz.ntmps92
    go_wp2_with fail
    go_ret
    exact ⟨rfl, 0, rfl⟩
def Toks (w : World) (v : Value) (ts : List Tok) : Prop := ∃ l : List (Tok × Value), l.map (·.1) = ts ∧ Lies w v l.length 4 (outCells l) ∧ ∀ p ∈ l, Lies w p.2 p.1.attrs.length 2 (pairCells p.1.attrs)
theorem IsToks.toks {w : World} {B : Nat} {v : Value} {ts : List Tok} (h : IsToks w B v ts) : Toks w v ts := by
  obtain ⟨l, h1, h2, h3⟩ := h
  exact ⟨l, h1, Lies.of_row h2, fun p hp => Lies.of_row (h3 p hp)⟩
theorem Toks.keeps {w w' : World} {v : Value} {ts : List Tok} (h : Toks w v ts) (hk : Keeps [] w w') : Toks w' v ts := by
  obtain ⟨l, h1, h2, h3⟩ := h
  exact ⟨l, h1, h2.keeps hk, fun p hp => (h3 p hp).keeps hk⟩
theorem tok_at (l : List (Tok × Value)) (k j : Nat) (hk : k < l.length) (hj : j < 4) : (outCells l)[k * 4 + j]? = (tokCells l[k])[j]? := by
  induction l generalizing k with
  | nil => simp at hk
  | cons p l ih =>
    have e : outCells (p :: l) = tokCells p ++ outCells l := by simp [outCells]
    have h4 : (tokCells p).length = 4 := rfl
    rw [e]
    cases k with
    | zero => rw [Nat.zero_mul, Nat.zero_add, List.getElem?_append_left (by omega)]; rfl
    | succ k =>
      rw [List.getElem?_append_right (by omega), h4, show (k + 1) * 4 + j - 4 = k * 4 + j from by omega]
      exact ih k (by simpa using hk)
theorem lies_tok {w : World} {g o : Nat} {l : List (Tok × Value)} (h : ∀ j u, (outCells l)[j]? = some u → w.cell? ⟨g, o + j, none⟩ = some u) (k : Nat) (hk : k < l.length) :
    w.cell? ⟨g, o + k * 4, none⟩ = some (.int .i64 l[k].1.kind) ∧ w.cell? ⟨g, o + k * 4 + 1, none⟩ = some (.string ⟨l[k].1.name.toArray⟩) ∧ w.cell? ⟨g, o + k * 4 + 2, none⟩ = some l[k].2 ∧ w.cell? ⟨g, o + k * 4 + 3, none⟩ = some (.string ⟨l[k].1.text.toArray⟩) := by
  have e : ∀ j, j < 4 → o + k * 4 + j = o + (k * 4 + j) := fun j _ => by omega
  refine ⟨?_, ?_, ?_, ?_⟩
  · exact h (k * 4) _ ((tok_at l k 0 hk (by omega)).trans rfl)
  · rw [e 1 (by omega)]; exact h _ _ ((tok_at l k 1 hk (by omega)).trans rfl)
  · rw [e 2 (by omega)]; exact h _ _ ((tok_at l k 2 hk (by omega)).trans rfl)
  · rw [e 3 (by omega)]; exact h _ _ ((tok_at l k 3 hk (by omega)).trans rfl)
def emptyN (n : List UInt8) : Bool := (n == [98, 114]) || (n == [104, 114]) || (n == [105, 109, 103])
def listN (n : List UInt8) : Bool := (n == [117, 108]) || (n == [111, 108])
def wallN (n : List UInt8) : Bool := listN n || (n == [108, 105]) || (n == [98, 108, 111, 99, 107, 113, 117, 111, 116, 101])
def blockN (n : List UInt8) : Bool := wallN n || (n == [112]) || (n == [104, 114])
theorem nameEq (L l : List UInt8) : ((⟨L.toArray⟩ : ByteArray).toList == l) = (L == l) := by rw [ByteArray.toList_eq]
set_option maxHeartbeats 1000000 in
theorem isEmpty_any (n : List UInt8) (w : World) : Calls Tryz.prog 166 #[.string ⟨n.toArray⟩] w fun e w' => e = .returned (.bool (emptyN n)) ∧ w' = w := by
  unfold emptyN
  cases h1 : (n == [98, 114]) <;> cases h2 : (n == [104, 114]) <;> cases h3 : (n == [105, 109, 103])
  all_goals
    have p1 := (nameEq n _).trans h1
    have p2 := (nameEq n _).trans h2
    have p3 := (nameEq n _).trans h3
    go_enter Tryz.func166, Tryz.ntmps166
    go_wp2_with fail
    go_ret
    exact ⟨rfl, rfl⟩
set_option maxHeartbeats 1000000 in
theorem isList_any (n : List UInt8) (w : World) : Calls Tryz.prog 241 #[.string ⟨n.toArray⟩] w fun e w' => e = .returned (.bool (listN n)) ∧ w' = w := by
  unfold listN
  cases h1 : (n == [117, 108]) <;> cases h2 : (n == [111, 108])
  all_goals
    have p1 := (nameEq n _).trans h1
    have p2 := (nameEq n _).trans h2
    go_enter Tryz.func241, Tryz.ntmps241
    go_wp2_with fail
    go_ret
    exact ⟨rfl, rfl⟩
set_option maxHeartbeats 1000000 in
theorem isWall_any (n : List UInt8) (w : World) : Calls Tryz.prog 239 #[.string ⟨n.toArray⟩] w fun e w' => e = .returned (.bool (wallN n)) ∧ w' = w := by
  have hc := hide (fun w => isList_any n w)
  unfold wallN
  generalize listN n = b at *
  cases b <;> cases h2 : (n == [108, 105]) <;> cases h3 : (n == [98, 108, 111, 99, 107, 113, 117, 111, 116, 101])
  all_goals
    have p2 := (nameEq n _).trans h2
    have p3 := (nameEq n _).trans h3
    go_enter Tryz.func239, Tryz.ntmps239
    go_wp2_with (go_at_call 241; refine (hc.out _).mono ?_; rintro e w' ⟨rfl, rfl⟩)
    go_ret
    exact ⟨rfl, rfl⟩
set_option maxHeartbeats 1000000 in
theorem isBlock_any (n : List UInt8) (w : World) : Calls Tryz.prog 237 #[.string ⟨n.toArray⟩] w fun e w' => e = .returned (.bool (blockN n)) ∧ w' = w := by
  have hc := hide (fun w => isWall_any n w)
  unfold blockN
  generalize wallN n = b at *
  cases b <;> cases h2 : (n == [112]) <;> cases h3 : (n == [104, 114])
  all_goals
    have p2 := (nameEq n _).trans h2
    have p3 := (nameEq n _).trans h3
    go_enter Tryz.func237, Tryz.ntmps237
    go_wp2_with (go_at_call 239; refine (hc.out _).mono ?_; rintro e w' ⟨rfl, rfl⟩)
    go_ret
    exact ⟨rfl, rfl⟩
theorem isP_any (n : List UInt8) (w : World) : Calls Tryz.prog 238 #[.string ⟨n.toArray⟩] w fun e w' => e = .returned (.bool (n == [112])) ∧ w' = w := by
  cases h1 : (n == [112])
  all_goals
    have p1 := (nameEq n _).trans h1
    go_enter Tryz.func238, Tryz.ntmps238
    go_wp2_with fail
    go_ret
    exact ⟨rfl, rfl⟩
theorem isLi_any (n : List UInt8) (w : World) : Calls Tryz.prog 240 #[.string ⟨n.toArray⟩] w fun e w' => e = .returned (.bool (n == [108, 105])) ∧ w' = w := by
  cases h1 : (n == [108, 105])
  all_goals
    have p1 := (nameEq n _).trans h1
    go_enter Tryz.func240, Tryz.ntmps240
    go_wp2_with fail
    go_ret
    exact ⟨rfl, rfl⟩
theorem never_any (n : List UInt8) (w : World) : Calls Tryz.prog 170 #[.string ⟨n.toArray⟩] w fun e w' => e = .returned (.bool false) ∧ w' = w := by
  go_enter Tryz.func170, Tryz.ntmps170
  go_wp2_with fail
  go_ret
  exact ⟨rfl, rfl⟩
theorem isName1_any (n m : List UInt8) (b : Nat) (w : World) (hc : w.cell? ⟨b, 0, none⟩ = some (.string ⟨m.toArray⟩)) :
    Calls Tryz.prog 169 #[.string ⟨n.toArray⟩, .pointer (some ⟨b, 0, none⟩)] w fun e w' => e = .returned (.bool (n == m)) ∧ w' = w := by
  have p0 : ((⟨n.toArray⟩ : ByteArray).toList == (⟨m.toArray⟩ : ByteArray).toList) = (n == m) := by rw [ByteArray.toList_eq, ByteArray.toList_eq]
  cases h1 : (n == m)
  all_goals
    have p1 := p0.trans h1
    clear p0
    go_enter Tryz.func169, Tryz.ntmps169
    go_wp2_with fail
    go_ret
    exact ⟨rfl, rfl⟩
def Named (w : World) (v : Value) (ns : List (List UInt8)) : Prop :=
  ∃ a c, v = .slice a ns.length c ∧ ns.length ≤ c ∧ c ≤ maxLen ∧ ∀ i (h : i < ns.length), ∃ g x, a = some ⟨g, x, none⟩ ∧ w.cell? ⟨g, x + i * 4, none⟩ = some (.string ⟨ns[i].toArray⟩)
def innerTo (is hides : List UInt8 → Bool) (ns : List (List UInt8)) : Nat → Nat
  | 0 => ns.length
  | i + 1 => if is (ns.getD i []) = true then i else if hides (ns.getD i []) = true then ns.length else innerTo is hides ns i
def innerL (is hides : List UInt8 → Bool) (ns : List (List UInt8)) : Nat := innerTo is hides ns ns.length
theorem innerTo_le (is hides : List UInt8 → Bool) (ns : List (List UInt8)) : ∀ i, i ≤ ns.length → innerTo is hides ns i ≤ ns.length
  | 0, _ => Nat.le_refl _
  | i + 1, h => by
    unfold innerTo
    split
    · omega
    · split
      · exact Nat.le_refl _
      · exact innerTo_le is hides ns i (by omega)
set_option maxRecDepth 4000 in
set_option maxHeartbeats 4000000 in
theorem innermost_any (K1 K2 : Nat) (caps1 caps2 : Array Value) (is hides : List UInt8 → Bool) (w : World) (v : Value) (ns : List (List UInt8)) (h : Named w v ns) (hK1 : Enters K1) (hK2 : Enters K2)
    (h1 : ∀ n : List UInt8, Calls Tryz.prog K1 (#[.string ⟨n.toArray⟩] ++ caps1) w fun e w' => e = .returned (.bool (is n)) ∧ w' = w)
    (h2 : ∀ n : List UInt8, Calls Tryz.prog K2 (#[.string ⟨n.toArray⟩] ++ caps2) w fun e w' => e = .returned (.bool (hides n)) ∧ w' = w) :
    Calls Tryz.prog 168 #[v, .func (.func K1) #[] caps1, .func (.func K2) #[] caps2] w fun e w' => e = .returned (.int .i64 (innerL is hides ns)) ∧ w' = w := by
  obtain ⟨a, c, rfl, hc1, hc2, hcell⟩ := h
  unfold maxLen at hc2
  unfold Enters at hK1 hK2
  obtain ⟨R, hR⟩ : ∃ R, innerL is hides ns = R := ⟨_, rfl⟩
  rw [hR]
  have HR := hide hR
  clear hR
  have H1 := hide h1
  have H2 := hide h2
  have HC := hide hcell
  clear h1 h2 hcell
  go_enter Tryz.func168, Tryz.ntmps168
  go_wp2_with fail
  go_loopw [7] (fun i wr => ∃ k : Nat, k ≤ ns.length ∧ i = .int .i64 ((k : Int) - 1) ∧ w = wr ∧ Hid (innerTo is hides ns k = R)) (fun i _ => (intOf i + 1).toNat)
  case atStart => exact ⟨ns.length, Nat.le_refl _, rfl, rfl, HR⟩
  case round =>
    obtain ⟨k, hk, rfl, rfl, hH⟩ := hrel
    clear HR
    cases k with
    | zero =>
      have hRe : R = ns.length := hH.out.symm
      subst hRe
      clear hH
      go_wp2_with fail
      go_ret
      exact ⟨rfl, rfl⟩
    | succ i =>
      obtain ⟨g, x, rfl, hx⟩ := HC.out i (by omega)
      have hge : decide ((0 : Int) ≤ (i : Int)) = true := by simp
      have e1 : ((i + 1 : Nat) : Int) - 1 = i := by omega
      rw [e1]
      have hS := hH.out
      unfold innerTo at hS
      have hg : ns.getD i [] = ns[i] := by simp [List.getD, List.getElem?_eq_getElem (show i < ns.length by omega)]
      rw [hg] at hS
      have HS := hide hS
      have C1 := hide (H1.out ns[i])
      have C2 := hide (H2.out ns[i])
      clear hS hH hg e1
      generalize ns[i] = n at *
      cases hi : is n
      · rw [hi] at C1 HS
        cases hh : hides n
        · rw [hh] at C2 HS
          have HS2 : Hid (innerTo is hides ns i = R) := by have := HS.out; rw [Hid]; simpa using this
          clear HS hi hh
          go_wp2_with fail
          refine C1.out.mono ?_
          rintro e w1 ⟨rfl, rfl⟩
          go_wp2_with fail
          refine C2.out.mono ?_
          rintro e w2 ⟨rfl, rfl⟩
          go_wp2_with fail
          go_roundw
          case rel => exact ⟨i, by omega, by go_num, by first | rfl | trivial, HS2⟩
          case measure => simp [intOf]
        · rw [hh] at C2 HS
          have hRe : R = ns.length := by have := HS.out; simpa using this.symm
          subst hRe
          clear HS hi hh
          go_wp2_with fail
          refine C1.out.mono ?_
          rintro e w1 ⟨rfl, rfl⟩
          go_wp2_with fail
          refine C2.out.mono ?_
          rintro e w2 ⟨rfl, rfl⟩
          go_wp2_with fail
          go_ret
          exact ⟨rfl, rfl⟩
      · rw [hi] at C1 HS
        have hRe : R = i := by have := HS.out; simpa using this.symm
        subst hRe
        clear HS hi
        go_wp2_with fail
        refine C1.out.mono ?_
        rintro e w1 ⟨rfl, rfl⟩
        go_wp2_with fail
        go_ret
        exact ⟨rfl, rfl⟩
theorem enters238 : Enters 238 := enters_of Tryz.func238 (by kernel_rfl) (by kernel_rfl)
theorem enters239 : Enters 239 := enters_of Tryz.func239 (by kernel_rfl) (by kernel_rfl)
theorem enters240 : Enters 240 := enters_of Tryz.func240 (by kernel_rfl) (by kernel_rfl)
theorem enters241 : Enters 241 := enters_of Tryz.func241 (by kernel_rfl) (by kernel_rfl)
theorem enters169 : Enters 169 := enters_of Tryz.func169 (by kernel_rfl) (by kernel_rfl)
theorem enters170 : Enters 170 := enters_of Tryz.func170 (by kernel_rfl) (by kernel_rfl)
theorem Named.take {w : World} {a : Option Addr} {n c : Nat} {ns : List (List UInt8)} (h : Named w (.slice a n c) ns) {m : Nat} (hm : m ≤ ns.length) : Named w (.slice a m c) (ns.take m) := by
  obtain ⟨a', c', he, h1, h2, h3⟩ := h
  simp only [Value.slice.injEq] at he
  obtain ⟨rfl, rfl, rfl⟩ := he
  refine ⟨a, c, by rw [List.length_take, Nat.min_eq_left hm], by rw [List.length_take]; omega, h2, fun i hi => ?_⟩
  rw [List.length_take] at hi
  obtain ⟨g, x, e, hx⟩ := h3 i (by omega)
  exact ⟨g, x, e, by rw [List.getElem_take]; exact hx⟩
def closedL (ns : List (List UInt8)) (n : List UInt8) : Nat :=
  if n = [108, 105] then innerL (· == [108, 105]) listN (ns.take (if blockN n = true then innerL (· == [112]) wallN ns else ns.length))
  else if blockN n = true then innerL (· == [112]) wallN ns else ns.length
set_option maxRecDepth 4000 in
set_option maxHeartbeats 4000000 in
theorem closedBy_any (w : World) (v : Value) (ns : List (List UInt8)) (n : List UInt8) (h : Named w v ns) :
    Calls Tryz.prog 163 #[v, .string ⟨n.toArray⟩] w fun e w' => e = .returned (.int .i64 (closedL ns n)) ∧ w' = w := by
  have hb := hide (fun w => isBlock_any n w)
  have hp := hide (innermost_any 238 239 #[] #[] (· == [112]) wallN w v ns h enters238 enters239 (fun n => isP_any n w) (fun n => isWall_any n w))
  have hle : innerL (· == [112]) wallN ns ≤ ns.length := innerTo_le _ _ _ _ (Nat.le_refl _)
  obtain ⟨F, hF⟩ : ∃ F, (if blockN n = true then innerL (· == [112]) wallN ns else ns.length) = F := ⟨_, rfl⟩
  have hFl : F ≤ ns.length := by rw [← hF]; split <;> omega
  obtain ⟨a, c, rfl, hc1, hc2, hcell⟩ := id h
  have hl := hide (innermost_any 240 241 #[] #[] (· == [108, 105]) listN w (.slice a F c) (ns.take F) (h.take hFl) enters240 enters241 (fun n => isLi_any n w) (fun n => isList_any n w))
  unfold closedL
  rw [hF]
  have hbl : n = [108, 105] → blockN n = true := fun e => by subst e; rfl
  unfold maxLen at hc2
  have HF := hide hF
  clear hF hcell h
  generalize innerL (· == [108, 105]) listN (ns.take F) = L at *
  generalize innerL (· == [112]) wallN ns = Q at *
  cases hbk : blockN n
  · have hne : n ≠ [108, 105] := fun e => by have := hbl e; rw [hbk] at this; simp at this
    have e1 : (n == [108, 105]) = false := by simpa using hne
    have e2 := (nameEq n _).trans e1
    rw [hbk] at hb
    rw [if_neg hne]
    have hFn : F = ns.length := by rw [← HF.out, hbk]; simp
    subst hFn
    clear hbk hbl HF hl hp hne hFl
    go_enter Tryz.func163, Tryz.ntmps163
    go_wp2_with fail
    refine (hb.out _).mono ?_
    rintro e w1 ⟨rfl, rfl⟩
    go_wp2_with fail
    go_ret
    exact ⟨rfl, rfl⟩
  · rw [hbk] at hb
    have hFQ : F = Q := by rw [← HF.out, hbk]; simp
    subst hFQ
    by_cases hli : n = [108, 105]
    · have e1 : (n == [108, 105]) = true := by simpa using hli
      have e2 := (nameEq n _).trans e1
      rw [if_pos hli]
      clear hbk hbl HF hli
      go_enter Tryz.func163, Tryz.ntmps163
      go_wp2_with fail
      refine (hb.out _).mono ?_
      rintro e w1 ⟨rfl, h1⟩
      obtain rfl : w = w1 := h1.symm
      go_wp2_with fail
      refine hp.out.mono ?_
      rintro e w1 ⟨rfl, h1⟩
      obtain rfl : w = w1 := h1.symm
      go_wp2_with fail
      refine hl.out.mono ?_
      rintro e w1 ⟨rfl, h1⟩
      obtain rfl : w = w1 := h1.symm
      go_wp2_with fail
      go_ret
      exact ⟨rfl, rfl⟩
    · have e1 : (n == [108, 105]) = false := by simpa using hli
      have e2 := (nameEq n _).trans e1
      rw [if_neg hli]
      clear hbk hbl HF hli hl
      go_enter Tryz.func163, Tryz.ntmps163
      go_wp2_with fail
      refine (hb.out _).mono ?_
      rintro e w1 ⟨rfl, h1⟩
      obtain rfl : w = w1 := h1.symm
      go_wp2_with fail
      refine hp.out.mono ?_
      rintro e w1 ⟨rfl, h1⟩
      obtain rfl : w = w1 := h1.symm
      go_wp2_with fail
      go_ret
      exact ⟨rfl, rfl⟩
end Go.Proofs.YtlcljanibjdejaaGreat
namespace Go.Proofs.YtlcljanibjdejaaGreat
open Go.RowKit
set_option maxHeartbeats 1000000 in
theorem isName_all (s : ByteArray) (w : World) (hs : s.size ≤ maxLen) :
    Calls Tryz.prog 231 #[.string s] w fun e w' => e = .returned (.bool (isNameL s.data.toList)) ∧ w' = w := by
  by_cases h : s.size ≤ 3000
  · exact isName_any s w h
  · have hf : isNameL s.data.toList = false := by
      unfold isNameL
      have : decide (s.data.toList.length ≤ 20) = false := by have := len_size s; simp; omega
      rw [this]
      simp
    have hne : s.toList.isEmpty = false := by
      rw [ByteArray.toList_eq]
      have := len_size s
      cases hq : s.data.toList with
      | nil => rw [hq] at this; simp at this; omega
      | cons a b => rfl
    rw [hf]
    clear hf
    unfold maxLen at hs
    have hg : decide ((20 : Int) < (s.size : Int)) = true := by simp; omega
    go_enter Tryz.func231, Tryz.ntmps231
    go_wp2_with fail
    go_ret
    exact ⟨rfl, rfl⟩
end Go.Proofs.YtlcljanibjdejaaGreat
namespace Go.Proofs.YtlcljanibjdejaaGreat
open Go.RowKit Go.Maps
def chkA : List Pair → List (List UInt8) → Int
  | [], _ => 0
  | p :: r, met => if isNameL p.1 = false then 1 else if p.1 ∈ met then 6 else chkA r (met ++ [p.1])
theorem chkA_drop (l : List Pair) (k : Nat) (hk : k < l.length) (met : List (List UInt8)) : chkA (l.drop k) met = if isNameL l[k].1 = false then 1 else if l[k].1 ∈ met then 6 else chkA (l.drop (k + 1)) (met ++ [l[k].1]) := by
  rw [List.drop_eq_getElem_cons hk]
  rfl
def Fits (l : List Pair) : Prop := ∀ p ∈ l, p.1.length ≤ maxLen
theorem enters231 : Enters 231 := enters_of Tryz.func231 (by kernel_rfl) (by kernel_rfl)
set_option maxRecDepth 4000 in
set_option maxHeartbeats 4000000 in
theorem checkAttrs_any (w : World) (v : Value) (l : List Pair) (hv : Lies w v l.length 2 (pairCells l)) (hf : Fits l) :
    Calls Tryz.prog 236 #[v, .func (.func 231) #[] #[]] w fun e w' => e = .returned (.int .i64 (chkA l [])) ∧ Keeps [] w w' := by
  have hE := enters231
  unfold Enters at hE
  obtain ⟨o, c, rfl, h1, h2⟩ := hv.form
  obtain ⟨R, hR⟩ : ∃ R, chkA l [] = R := ⟨_, rfl⟩
  rw [hR]
  have HR := hide hR
  clear hR
  unfold maxLen at h2
  have hmm := @run_makeMap Tryz.prog
  go_enter Tryz.func236, Tryz.ntmps236
  go_wp2_with fail
  have hset0 : IsSet (w.alloc (.map #[] 0)) w.heap.size [] := IsSet.made w
  have hk0 : Keeps [] w (w.alloc (.map #[] 0)) := (Keeps.refl [] w).alloc _
  go_loopw [13] (fun i wr => ∃ k : Nat, k ≤ l.length ∧ i = .int .i64 k ∧ IsSet wr w.heap.size ((l.take k).map (·.1)) ∧ Keeps [] w wr ∧ Hid (chkA (l.drop k) ((l.take k).map (·.1)) = R)) (fun i _ => l.length - (intOf i).toNat)
  case atStart => exact ⟨0, Nat.zero_le _, rfl, hset0, hk0, HR⟩
  case round =>
    obtain ⟨k, hk, rfl, hset, hkw, hC⟩ := hrel
    clear HR hset0 hk0
    by_cases hlt : k < l.length
    · obtain ⟨g, x, rfl, hc⟩ := (hv.keeps hkw).addr (by omega)
      have a0 := hc _ _ (pair_at0 l k hlt)
      have a1 := hc _ _ (pair_at1 l k hlt)
      rw [← Nat.add_assoc] at a1
      have hC1 := hC.out
      rw [chkA_drop l k hlt] at hC1
      have hfk : l[k].1.length ≤ maxLen := hf _ (List.getElem_mem hlt)
      have hts : (l.take (k + 1)).map (·.1) = (l.take k).map (·.1) ++ [l[k].1] := by rw [List.take_succ_eq_append_getElem hlt, List.map_append]; rfl
      have hml : ((l.take k).map (·.1)).length < maxLen := by simp; unfold maxLen; omega
      have HC1 := hide hC1
      clear hC hC1 hc
      generalize (l.take k).map (·.1) = met at *
      have HTS := hide hts
      clear hts
      generalize l[k] = p at *
      obtain ⟨n, v⟩ := p
      have hA : IsPair (wr.alloc (.cells #[.string ⟨n.toArray⟩, .string ⟨v.toArray⟩] 52)) wr.heap.size ⟨n.toArray⟩ ⟨v.toArray⟩ := heap_alloc_new wr _
      have hkA : Keeps [] wr (wr.alloc (.cells #[.string ⟨n.toArray⟩, .string ⟨v.toArray⟩] 52)) := (Keeps.refl [] wr).alloc _
      have hsetA := hset.keeps hkA List.not_mem_nil
      have hkwA := hkw.trans hkA
      have hnm := hide (fun w => isName_all ⟨n.toArray⟩ w hfk)
      rw [str_list] at hnm
      simp only at a0 a1
      go_wp2_with fail
      refine (hnm.out _).mono ?_
      rintro e w3 ⟨rfl, rfl⟩
      clear a0 a1
      have c0 := hA.cell0
      cases hin : isNameL n
      · have hR1 : R = 1 := by rw [← HC1.out]; simp [hin]
        subst hR1
        go_wp2_with fail
        go_ret
        exact ⟨rfl, hkwA⟩
      · by_cases hmt : n ∈ met
        · have hR6 : R = 6 := by rw [← HC1.out]; simp [hin, hmt]
          subst hR6
          have hd : decide (n ∈ met) = true := by simpa using hmt
          have hlook := hsetA.look n hfk
          rw [hd] at hlook
          go_wp2_with fail
          go_ret
          exact ⟨rfl, hkwA.alloc _⟩
        · have hd : decide (n ∈ met) = false := by simpa using hmt
          have hlook := hsetA.look n hfk
          rw [hd] at hlook
          have hk2 : Keeps [] wr ((wr.alloc (.cells #[.string ⟨n.toArray⟩, .string ⟨v.toArray⟩] 52)).alloc (.cells #[] 182)) := hkA.alloc _
          obtain ⟨w6, hup, hset6, hk6⟩ := (hset.keeps hk2 List.not_mem_nil).add n hfk hml
          have c0' := (hA.keeps ((Keeps.refl [] _).alloc (.cells #[] 182)) List.not_mem_nil).cell0
          have HC2 : Hid (chkA (l.drop (k + 1)) ((l.take (k + 1)).map (·.1)) = R) := by
            rw [HTS.out]
            have := HC1.out
            simp [hin, hmt] at this
            exact this
          have hkw6 : Keeps [] w w6 := ((hkw.trans hk2).up.trans hk6).mono fun i hi hlt => by simp at hi; omega
          have hset7 : IsSet w6 w.heap.size ((l.take (k + 1)).map (·.1)) := by rw [HTS.out]; exact hset6
          clear HC1
          go_wp2_with fail
          go_roundw
          case rel => exact ⟨k + 1, by omega, by go_num, hset7, hkw6, HC2⟩
          case measure => simp [intOf]; omega
    · have hRR : R = 0 := by
        rw [← hC.out, List.drop_eq_nil_of_le (by omega)]
        rfl
      subst hRR
      go_wp2_with fail
      go_ret
      exact ⟨rfl, hkw⟩
def chkT (t : Tok) : Int :=
  if t.kind = 1 then (if t.name ≠ [] ∨ t.attrs ≠ [] ∨ t.text = [] then 1 else 0)
  else if t.kind = 2 then (if t.text ≠ [] ∨ isNameL t.name = false then 1 else chkA t.attrs [])
  else if t.kind = 3 then (if t.text ≠ [] ∨ t.attrs ≠ [] ∨ isNameL t.name = false then 1 else 0)
  else 7
def FitsT (t : Tok) : Prop := t.name.length ≤ maxLen ∧ Fits t.attrs
theorem emptyB (x : List UInt8) : ((⟨x.toArray⟩ : ByteArray).toList == (⟨#[]⟩ : ByteArray).toList) = decide (x = []) := strEq x []
set_option maxRecDepth 4000 in
set_option maxHeartbeats 4000000 in
theorem checkToken_any (w : World) (kd : Int) (nm tx : List UInt8) (la : List Pair) (v : Value) (hv : Lies w v la.length 2 (pairCells la)) (hf : FitsT ⟨kd, nm, la, tx⟩) :
    Calls Tryz.prog 161 #[.agg #[.int .i64 kd, .string ⟨nm.toArray⟩, v, .string ⟨tx.toArray⟩]] w fun e w' => e = .returned (.int .i64 (chkT ⟨kd, nm, la, tx⟩)) ∧ Keeps [] w w' := by
  obtain ⟨o, c, rfl, h1, h2⟩ := hv.form
  unfold maxLen at h2
  have ha : Keeps [] w (w.alloc (.cells #[.int .i64 kd, .string ⟨nm.toArray⟩, .slice o la.length c, .string ⟨tx.toArray⟩] 117)) := (Keeps.refl [] w).alloc _
  have hnm := hide (fun w => isName_all ⟨nm.toArray⟩ w hf.1)
  rw [str_list] at hnm
  have hca := hide (fun (w' : World) (hk : Keeps [] w w') => checkAttrs_any w' _ la (hv.keeps hk) hf.2)
  obtain ⟨R, hR⟩ : ∃ R, chkT ⟨kd, nm, la, tx⟩ = R := ⟨_, rfl⟩
  rw [hR]
  unfold chkT at hR
  simp only at hR
  generalize chkA la [] = A at *
  have hal : la ≠ [] ↔ 0 < la.length := by cases la <;> simp
  by_cases k1 : kd = 1
  · subst k1
    rw [if_pos rfl] at hR
    by_cases n1 : nm = []
    · subst n1
      by_cases a1 : la = []
      · subst a1
        by_cases t1 : tx = []
        · subst t1
          simp at hR
          subst hR
          clear hal
          go_enter Tryz.func161, Tryz.ntmps161
          go_wp2_with fail
          go_ret
          exact ⟨rfl, ha⟩
        · simp [t1] at hR
          subst hR
          have he : tx.isEmpty = false := by simpa using t1
          clear hal
          go_enter Tryz.func161, Tryz.ntmps161
          go_wp2_with fail
          go_ret
          exact ⟨rfl, ha⟩
      · have hz := hal.1 a1
        simp [a1] at hR
        subst hR
        clear hal a1
        go_enter Tryz.func161, Tryz.ntmps161
        go_wp2_with fail
        go_ret
        exact ⟨rfl, ha⟩
    · simp [n1] at hR
      subst hR
      clear hal
      go_enter Tryz.func161, Tryz.ntmps161
      go_wp2_with fail
      go_ret
      exact ⟨rfl, ha⟩
  · rw [if_neg k1] at hR
    have e1 : (kd == 1) = false := by simpa using k1
    by_cases k2 : kd = 2
    · subst k2
      rw [if_pos rfl] at hR
      by_cases t1 : tx = []
      · subst t1
        cases hin : isNameL nm
        · rw [hin] at hnm
          simp [hin] at hR
          subst hR
          clear hal
          go_enter Tryz.func161, Tryz.ntmps161
          go_wp2_with fail
          refine (hnm.out _).mono ?_
          rintro e w1 ⟨rfl, rfl⟩
          go_wp2_with fail
          go_ret
          exact ⟨rfl, ha⟩
        · rw [hin] at hnm
          simp [hin] at hR
          subst hR
          clear hal
          go_enter Tryz.func161, Tryz.ntmps161
          go_wp2_with fail
          refine (hnm.out _).mono ?_
          rintro e w1 ⟨rfl, rfl⟩
          go_wp2_with fail
          refine (hca.out _ ha).mono ?_
          rintro e w2 ⟨rfl, hk2⟩
          go_wp2_with fail
          go_ret
          exact ⟨rfl, ha.trans hk2⟩
      · simp [t1] at hR
        subst hR
        clear hal
        go_enter Tryz.func161, Tryz.ntmps161
        go_wp2_with fail
        go_ret
        exact ⟨rfl, ha⟩
    · rw [if_neg k2] at hR
      have e2 : (kd == 2) = false := by simpa using k2
      by_cases k3 : kd = 3
      · subst k3
        rw [if_pos rfl] at hR
        by_cases t1 : tx = []
        · subst t1
          by_cases a1 : la = []
          · subst a1
            cases hin : isNameL nm
            · rw [hin] at hnm
              simp [hin] at hR
              subst hR
              clear hal
              go_enter Tryz.func161, Tryz.ntmps161
              go_wp2_with fail
              refine (hnm.out _).mono ?_
              rintro e w1 ⟨rfl, rfl⟩
              go_wp2_with fail
              go_ret
              exact ⟨rfl, ha⟩
            · rw [hin] at hnm
              simp [hin] at hR
              subst hR
              clear hal
              go_enter Tryz.func161, Tryz.ntmps161
              go_wp2_with fail
              refine (hnm.out _).mono ?_
              rintro e w1 ⟨rfl, rfl⟩
              go_wp2_with fail
              go_ret
              exact ⟨rfl, ha⟩
          · have hz := hal.1 a1
            simp [a1] at hR
            subst hR
            clear hal a1
            go_enter Tryz.func161, Tryz.ntmps161
            go_wp2_with fail
            go_ret
            exact ⟨rfl, ha⟩
        · simp [t1] at hR
          subst hR
          clear hal
          go_enter Tryz.func161, Tryz.ntmps161
          go_wp2_with fail
          go_ret
          exact ⟨rfl, ha⟩
      · rw [if_neg k3] at hR
        have e3 : (kd == 3) = false := by simpa using k3
        subst hR
        clear hal
        go_enter Tryz.func161, Tryz.ntmps161
        go_wp2_with fail
        go_ret
        exact ⟨rfl, ha⟩
def chkFrom : Int → List Tok → Int
  | _, [] => 0
  | p, t :: r => if chkT t ≠ 0 then chkT t else if t.kind = 1 ∧ p = 1 then 4 else chkFrom t.kind r
def chkL (ts : List Tok) : Int := if 3000 < ts.length then 2 else chkFrom 0 ts
def prevK (l : List (Tok × Value)) (k : Nat) : Int := if k = 0 then 0 else (l[k - 1]?.map (·.1.kind)).getD 0
theorem prevK_succ (l : List (Tok × Value)) (k : Nat) (hk : k < l.length) : prevK l (k + 1) = l[k].1.kind := by
  simp [prevK, List.getElem?_eq_getElem hk]
theorem chkFrom_drop (l : List (Tok × Value)) (k : Nat) (hk : k < l.length) (p : Int) : chkFrom p ((l.drop k).map (·.1)) = if chkT l[k].1 ≠ 0 then chkT l[k].1 else if l[k].1.kind = 1 ∧ p = 1 then 4 else chkFrom l[k].1.kind ((l.drop (k + 1)).map (·.1)) := by
  rw [List.drop_eq_getElem_cons hk, List.map_cons]
  rfl
set_option maxRecDepth 4000 in
set_option maxHeartbeats 4000000 in
theorem check_any (w : World) (v : Value) (ts : List Tok) (hv : Toks w v ts) (hf : ∀ t ∈ ts, FitsT t) :
    Calls Tryz.prog 82 #[v] w fun e w' => e = .returned (.int .i64 (chkL ts)) ∧ Keeps [] w w' := by
  obtain ⟨l, rfl, hv, hva⟩ := hv
  obtain ⟨o, c, rfl, h1, h2⟩ := hv.form
  unfold maxLen at h2
  unfold chkL
  rw [List.length_map]
  by_cases hbig : 3000 < l.length
  · rw [if_pos hbig]
    have hgt : decide ((3000 : Int) < (l.length : Int)) = true := by simp; omega
    go_enter Tryz.func82, Tryz.ntmps82
    go_wp2_with fail
    go_ret
    exact ⟨rfl, Keeps.refl _ _⟩
  · rw [if_neg hbig]
    have hgt : decide ((3000 : Int) < (l.length : Int)) = false := by simp; omega
    obtain ⟨R, hR⟩ : ∃ R, chkFrom 0 (l.map (·.1)) = R := ⟨_, rfl⟩
    rw [hR]
    have HR := hide hR
    clear hR
    go_enter Tryz.func82, Tryz.ntmps82
    go_wp2_with fail
    go_loopw [11] (fun i wr => ∃ k : Nat, k ≤ l.length ∧ i = .int .i64 k ∧ Keeps [] w wr ∧ Hid (chkFrom (prevK l k) ((l.drop k).map (·.1)) = R)) (fun i _ => l.length - (intOf i).toNat)
    case atStart => exact ⟨0, Nat.zero_le _, rfl, Keeps.refl _ _, HR⟩
    case round =>
      obtain ⟨k, hk, rfl, hkw, hC⟩ := hrel
      clear HR
      by_cases hlt : k < l.length
      · obtain ⟨g, x, rfl, hc⟩ := (hv.keeps hkw).addr (by omega)
        obtain ⟨a0, a1, a2, a3⟩ := lies_tok hc k hlt
        have hC1 := hC.out
        rw [chkFrom_drop l k hlt] at hC1
        have hsuc := prevK_succ l k hlt
        have hfk := hf l[k].1 (List.mem_map_of_mem (List.getElem_mem hlt))
        have hpa := hva l[k] (List.getElem_mem hlt)
        have hpv : 0 < k → wr.cell? ⟨g, x + (k - 1) * 4, none⟩ = some (.int .i64 (prevK l k)) := fun h0 => by
          have h9 := (lies_tok hc (k - 1) (by omega)).1
          have e9 := prevK_succ l (k - 1) (by omega)
          rw [show k - 1 + 1 = k from by omega] at e9
          rw [e9]
          exact h9
        have HPV := hide hpv
        have HPK := hide (show k = 0 → prevK l k = 0 from fun h => by subst h; rfl)
        have HC1 := hide hC1
        have HSUC := hide hsuc
        clear hC hC1 hc hpv hsuc
        generalize prevK l k = pk at *
        generalize l[k] = p at *
        obtain ⟨⟨kp, np, ap, xp⟩, vp⟩ := p
        simp only at a0 a1 a2 a3 hpa
        obtain ⟨op, cp, rfl, hp1, hp2⟩ := hpa.form
        unfold maxLen at hp2
        have hkA : Keeps [] wr (wr.alloc (.cells #[.int .i64 kp, .string ⟨np.toArray⟩, .slice op ap.length cp, .string ⟨xp.toArray⟩] 117)) := (Keeps.refl [] wr).alloc _
        have hA : IsTok (wr.alloc (.cells #[.int .i64 kp, .string ⟨np.toArray⟩, .slice op ap.length cp, .string ⟨xp.toArray⟩] 117)) wr.heap.size (⟨kp, np, ap, xp⟩, .slice op ap.length cp) := heap_alloc_new wr _
        have hct := hide (checkToken_any _ kp np xp ap _ (hpa.keeps (hkw.trans hkA)) hfk)
        have HC2 := HC1.out
        simp only at HC2
        generalize chkT ⟨kp, np, ap, xp⟩ = E at *
        have HC3 := hide HC2
        clear HC1 HC2
        go_wp2_with fail
        refine hct.out.mono ?_
        rintro e w3 ⟨rfl, hk3⟩
        have hkw3 : Keeps [] w w3 := (hkw.trans hkA).trans hk3
        have hA3 := hA.keeps hk3 List.not_mem_nil
        have c0 : w3.cell? ⟨wr.heap.size, 0, none⟩ = some (.int .i64 kp) := by rw [hA3.cell 0]; rfl
        by_cases hE : E = 0
        · subst hE
          have hN : ¬ (kp = 1 ∧ pk = 1) → Hid (chkFrom (prevK l (k + 1)) ((l.drop (k + 1)).map (·.1)) = R) := fun hn => by
            have h9 := HC3.out
            rw [if_neg (by simp), if_neg hn] at h9
            rw [HSUC.out]
            exact h9
          have HN := hide hN
          clear hN
          by_cases h0 : k = 0
          · subst h0
            have HC4 := HN.out (fun h => by have := HPK.out rfl; omega)
            go_wp2_with fail
            go_roundw
            case rel => exact ⟨1, by omega, by go_num, hkw3, HC4⟩
            case measure => simp [intOf]; omega
          · have hpc := cell_keeps (hkA.trans hk3) (HPV.out (by omega))
            have hpos : decide ((0 : Int) < (k : Int)) = true := by simp; omega
            by_cases hk1 : kp = 1
            · subst hk1
              by_cases hq1 : pk = 1
              · subst hq1
                have hR4 : R = 4 := by rw [← HC3.out]; simp
                subst hR4
                go_wp2_with fail
                go_ret
                exact ⟨rfl, hkw3⟩
              · have HC4 := HN.out (fun h => hq1 h.2)
                have hqb : (pk == 1) = false := by simpa using hq1
                go_wp2_with fail
                go_roundw
                case rel => exact ⟨k + 1, by omega, by go_num, hkw3, HC4⟩
                case measure => simp [intOf]; omega
            · have HC4 := HN.out (fun h => hk1 h.1)
              have hqb : (kp == 1) = false := by simpa using hk1
              go_wp2_with fail
              go_roundw
              case rel => exact ⟨k + 1, by omega, by go_num, hkw3, HC4⟩
              case measure => simp [intOf]; omega
        · have hEb : (E != 0) = true := by simpa using hE
          have hRE : R = E := by rw [← HC3.out]; simp [hE]
          subst hRE
          go_wp2_with fail
          go_ret
          exact ⟨rfl, hkw3⟩
      · have hRR : R = 0 := by
          rw [← hC.out, List.drop_eq_nil_of_le (by omega)]
          rfl
        subst hRR
        go_wp2_with fail
        go_ret
        exact ⟨rfl, hkw⟩
end Go.Proofs.YtlcljanibjdejaaGreat
