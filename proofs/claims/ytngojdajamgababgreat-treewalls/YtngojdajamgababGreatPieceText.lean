/- piece, where it is text. -/
import Derived.Test.YtngojdajamgababGreatPiece2
namespace Go.Proofs.YtngojdajamgababGreat
open Go.RowKit Go.Maps

theorem enters74 : Enters 74 := enters_of Tryz.func74 (by kernel_rfl) (by kernel_rfl)

theorem Rd.rawReader {w w3 : World} {B r b : Nat} {rawv outv : Value} {raw : List UInt8} {l : List (Tok × Value)} (h : Rd w B r b rawv outv raw l) (hk : Keeps rawv.ownBlock.toList w w3) : IsReader w3 r b rawv outv :=
  h.reader.keeps hk (fun hm => block_ne h.raw h.reader.blk (by decide) (by simpa using hm))

theorem raw_done {w w7 w8 : World} {B r b : Nat} {rawv outv v8 : Value} {raw t : List UInt8} {l : List (Tok × Value)} {s : ByteArray} {k : Nat} (h7 : Rd w7 B r b rawv outv raw l) (hT7 : IsText w7 b s k) (hk0 : Keeps [b] w w7) (hk8 : Keeps rawv.ownBlock.toList w7 w8)
    (ho8 : w8.ownsRow B 5 1 v8 (raw ++ t).length (Lib.byteCells (raw ++ t))) :
    Rd (w8.setCell ⟨r, 1, none⟩ v8) B r b v8 outv (raw ++ t) l ∧ IsText (w8.setCell ⟨r, 1, none⟩ v8) b s k ∧ Keeps (b :: touch r rawv outv) w (w8.setCell ⟨r, 1, none⟩ v8) := by
  have hx := h7.setRaw hk8 ho8
  exact ⟨hx.1, hT7.keeps hx.2 (h7.text_touch hT7), (keeps_text hk0).trans (keeps_touch hx.2)⟩

set_option maxRecDepth 4000 in
set_option maxHeartbeats 4000000 in
theorem piece_text (B r b : Nat) (rawv outv : Value) (raw : List UInt8) (l : List (Tok × Value)) (s : ByteArray) (k : Nat) (w : World) (hs : s.size ≤ 3000) (h : Rd w B r b rawv outv raw l) (hT : IsText w b s k) (hB : B ≤ w.heap.size) (hraw : raw.length ≤ 3000)
    (hlt : k < s.size) (c1 : tagAt s k ⟨#[60]⟩ = false) (c2 : tagAt s k ⟨#[60, 47]⟩ = false) (c3 : stAt s k [60, 33, 45, 45] = false) (c4 : stAt s k [60, 33] = false) (c5 : stAt s k [60, 63] = false) (c6 : stAt s k [60, 47] = false) :
    Calls Tryz.prog 44 #[.pointer (some ⟨r, 0, none⟩)] w fun e w' => PieceDone B r b rawv outv raw l s w (textL s.data.toList k raw (l.map (·.1))) e w' := by
  have t1 := hide (tag_any r b rawv outv s ⟨#[60]⟩ k w hs (by decide) h.reader hT (by omega))
  have t2 := hide (fun (w : World) hR hT => tag_any r b rawv outv s ⟨#[60, 47]⟩ k w hs (by decide) hR hT (by omega))
  have t3 := hide (fun (w : World) hT => beg_any b s k ⟨#[60, 33, 45, 45]⟩ w hT (by omega))
  have t4 := hide (fun (w : World) hT => beg_any b s k ⟨#[60, 33]⟩ w hT (by omega))
  have t5 := hide (fun (w : World) hT => beg_any b s k ⟨#[60, 63]⟩ w hT (by omega))
  have t6 := hide (fun (w : World) hT => beg_any b s k ⟨#[60, 47]⟩ w hT (by omega))
  rw [c1] at t1
  rw [c2] at t2
  rw [show stAt s k (⟨#[60, 33, 45, 45]⟩ : ByteArray).data.toList = false from c3] at t3
  rw [show stAt s k (⟨#[60, 33]⟩ : ByteArray).data.toList = false from c4] at t4
  rw [show stAt s k (⟨#[60, 63]⟩ : ByteArray).data.toList = false from c5] at t5
  rw [show stAt s k (⟨#[60, 47]⟩ : ByteArray).data.toList = false from c6] at t6
  have ho1 := hide (fun (w : World) hT => one_yes b s k w hs hT hlt)
  have hps := hide (fun (w : World) hT => pass_of 74 noLt enters74 noLt_any b s (k + 1) w hs hT (by omega))
  have hLl := takeWhile_le noLt s (k + 1) (by omega)
  unfold textL
  rw [show s.data.toList.getD k 0 = byteAt s k from rfl]
  generalize (s.data.toList.drop (k + 1)).takeWhile noLt = L at *
  obtain ⟨i0, hi, hz0, hz1, hz2⟩ := info_parts Tryz.info5
  clear c1 c2 c3 c4 c5 c6
  go_enter Tryz.func44, Tryz.ntmps44
  go_wp2_with fail
  refine t1.out.mono ?_
  rintro e w1 ⟨rfl, hT1, hk1⟩
  have h1 := h.keepsNil hk1
  go_wp2_with fail
  refine (t2.out _ h1.reader hT1).mono ?_
  rintro e w2 ⟨rfl, hT2, hk2⟩
  have h2 := h1.keepsNil hk2
  have d2 := h2.reader.cell0
  go_wp2_with fail
  refine (t3.out _ hT2).mono ?_
  rintro e w3 ⟨rfl, hT3, hk3⟩
  have h3 := h2.keepsNil hk3
  have d3 := h3.reader.cell0
  have hk03 := (hk1.trans hk2).trans hk3
  clear d2
  go_wp2_with fail
  refine (t4.out _ hT3).mono ?_
  rintro e w4 ⟨rfl, hT4, hk4⟩
  have h4 := h3.keepsNil hk4
  have d4 := h4.reader.cell0
  have hk04 := hk03.trans hk4
  clear d3
  go_wp2_with fail
  refine (t5.out _ hT4).mono ?_
  rintro e w5 ⟨rfl, hT5, hk5⟩
  have h5 := h4.keepsNil hk5
  have d5 := h5.reader.cell0
  have hk05 := hk04.trans hk5
  clear d4
  go_wp2_with fail
  refine (t6.out _ hT5).mono ?_
  rintro e w6 ⟨rfl, hT6, hk6⟩
  have h6 := h5.keepsNil hk6
  have hk06 := hk05.trans hk6
  have hB6 := Nat.le_trans hB hk06.size
  clear d5 h1 h2 h3 h4 h5 hT1 hT2 hT3 hT4 hT5 hk1 hk2 hk3 hk4 hk5 hk6 hk03 hk04 hk05 t1 t2 t3 t4 t5 t6
  have d0 := h6.reader.cell0
  have d1 := h6.reader.cell1
  go_upto_region 0 with fail
  go_cut [] from 2 to 15 (fun wc => ∃ rawv', Rd wc B r b rawv' outv (raw ++ [byteAt s k]) l ∧ IsText wc b s (k + 1) ∧ Keeps (b :: touch r rawv outv) w wc ∧ Within w (touch r rawv' outv) (touch r rawv outv))
  case first =>
    go_region_law (first
      | (refine step_call rfl 72 _ _ rfl enters72 #[.pointer (some ⟨b, 0, none⟩)] (by simp [Act.eval]) (ho1.out _ (show IsText w6.drew b s k from hT6)) ?_; rintro e w7 ⟨rfl, hT7, hk7⟩; refine ⟨_, rfl, ?_⟩; have h7 := h6.keepsText hT6 (keeps_drew hk7); have e1 := h7.reader.cell1; have e1a : ∀ o, (w7.alloc o).cell? ⟨r, 1, none⟩ = some rawv := fun o => (cell_past (a := ⟨r, 1, none⟩) h7.reader.lt o).trans e1)
      | (refine step_own_at rfl _ _ 43 rfl B 5 i0 _ 1 1 Tryz.underlying43 hi hz0 hz1 hz2 rfl (by decide) rawv raw.length (Lib.byteCells raw) rfl (h7.raw.alloc _) ⟨w7.heap.size, 0, none⟩ 1 1 [.int .u8 ((byteAt s k).toNat : Int)] rfl rfl (lit_cells w7 _ 5) (by intro u hu; simp at hu; subst hu; rfl) (by unfold maxLen; omega) (by omega) (Nat.le_trans hB6 (Nat.le_trans hk7.size (by simp))) ?_; intro v8 w8 ho8 hg8 hw8; obtain ⟨o8, c8, rfl⟩ := row_form ho8; have hk8 : Keeps rawv.ownBlock.toList w7 w8 := ((Keeps.refl _ w7).alloc _).grown hg8 (fun i e => .inl (by simp [e])); have hR8 := h7.rawReader hk8; have g8 := hR8.cell1; have f8 := hR8.free))
    all_goals go_wp2
    all_goals go_meet
    all_goals
      have hx := raw_done (w := w) h7 hT7 ((hk06.to (by simp)).trans (keeps_drew hk7)) hk8 (own_bytes (t := [byteAt s k]) ho8)
      exact ⟨_, hx.1, hx.2.1, hx.2.2, within_raw hw8 (Nat.le_trans hk06.size (Nat.le_trans (keeps_drew hk7).size (by simp)))⟩
  case rest =>
    obtain ⟨rawv', h9, hT9, hk9, hw9⟩ := hcut
    have hB9 := Nat.le_trans hB hk9.size
    have e0 := h9.reader.cell0
    have e1 := h9.reader.cell1
    have hr9 : (raw ++ [byteAt s k]).length ≤ 3001 := by simp; omega
    generalize hrr : raw ++ [byteAt s k] = raw9 at *
    have hLs : L.length ≤ 3000 := by omega
    have HR := hide hrr
    clear d0 d1 hrr
    go_upto_region 1 with fail
    go_region_law (first
      | (refine step_call rfl 73 _ _ rfl enters73 #[.pointer (some ⟨b, 0, none⟩), .func (.func 74) #[] #[]] (by simp [Act.eval]) (hps.out _ (show IsText wc.drew b s (k + 1) from hT9)) ?_; rintro e w7 ⟨rfl, hT7, hk7⟩; refine ⟨_, rfl, ?_⟩; have h7 := h9.keepsText hT9 (keeps_drew hk7); have e1 := h7.reader.cell1)
      | (refine step_own_str rfl _ _ 43 9 rfl B 5 i0 Tryz.underlying43 Tryz.underlying9 hi hz0 hz1 hz2 rawv' raw9.length (Lib.byteCells raw9) rfl h7.raw ⟨L.toArray⟩ rfl (by rw [str_size]; unfold maxLen; omega) (by rw [str_size]; omega) (Nat.le_trans hB9 hk7.size) ?_; intro v8 w8 ho8 hg8; obtain ⟨o8, c8, rfl⟩ := row_form ho8; have hk8 : Keeps rawv'.ownBlock.toList w7 w8 := (Keeps.refl _ w7).grown hg8 (fun i e => .inl (by simp [e])); have hR8 := h7.rawReader hk8; have g8 := hR8.cell1; have f8 := hR8.free))
    all_goals go_wp2
    all_goals go_end0
    all_goals
      have hx := raw_done (w := wc) h7 hT7 (keeps_drew hk7) hk8 (own_str (t := ⟨L.toArray⟩) ho8)
      exact ⟨.inl ⟨_, raw9 ++ L, _, _, l, by rw [← HR.out], rfl, hx.1, hx.2.1⟩, hk9.within hx.2.2 (fun i hi hlt => by
        rcases List.mem_cons.1 hi with rfl | hi
        · simp
        · exact List.mem_cons_of_mem _ (hw9 i hi hlt))⟩
end Go.Proofs.YtngojdajamgababGreat
