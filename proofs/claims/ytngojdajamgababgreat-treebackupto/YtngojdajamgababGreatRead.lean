/- Read. -/
import Derived.Test.YtngojdajamgababGreatPieceAny
namespace Go.Proofs.YtngojdajamgababGreat
open Go.RowKit Go.Maps

theorem enters44 : Enters 44 := enters_of Tryz.func44 (by kernel_rfl) (by kernel_rfl)
theorem enters45 : Enters 45 := enters_of Tryz.func45 (by kernel_rfl) (by kernel_rfl)

/-- Tokens of a text, from a place on. -/
def readAt (l : List UInt8) : Nat → Nat → List UInt8 → List Tok → List Tok
  | 0, _, raw, out => out ++ endT raw
  | f + 1, k, raw, out =>
    if l.length ≤ k then out ++ endT raw else
      match pieceL l k raw out with
      | some (k', raw', out') => readAt l f k' raw' out'
      | none => readAt l f l.length (raw ++ l.drop k) out

theorem readAt_end {l : List UInt8} {f k : Nat} {raw : List UInt8} {out : List Tok} (h : l.length ≤ k) : readAt l (f + 1) k raw out = out ++ endT raw := by
  simp only [readAt, if_pos h]
theorem readAt_some {l : List UInt8} {f k : Nat} {raw : List UInt8} {out : List Tok} {k' : Nat} {raw' : List UInt8} {out' : List Tok} (h : k < l.length) (hp : pieceL l k raw out = some (k', raw', out')) : readAt l (f + 1) k raw out = readAt l f k' raw' out' := by
  simp only [readAt, if_neg (Nat.not_le.2 h), hp]
theorem readAt_none {l : List UInt8} {f k : Nat} {raw : List UInt8} {out : List Tok} (h : k < l.length) (hp : pieceL l k raw out = none) : readAt l (f + 1) k raw out = readAt l f l.length (raw ++ l.drop k) out := by
  simp only [readAt, if_neg (Nat.not_le.2 h), hp]

def readL (l : List UInt8) : List Tok := readAt l (l.length + 1) 0 [] []

/-- A slice of tokens. -/
def IsToks (w : World) (B : Nat) (v : Value) (ts : List Tok) : Prop := ∃ l : List (Tok × Value), l.map (·.1) = ts ∧ w.ownsRow B 48 4 v l.length (outCells l) ∧ ∀ p ∈ l, HasAttrs w B p

theorem IsToks.keeps {w w' : World} {B : Nat} {v : Value} {ts : List Tok} (h : IsToks w B v ts) (hk : Keeps [] w w') : IsToks w' B v ts := by
  obtain ⟨l, h1, h2, h3⟩ := h
  exact ⟨l, h1, hk.owns h2 (fun _ _ => List.not_mem_nil), fun p hp => hk.owns (h3 p hp) (fun _ _ => List.not_mem_nil)⟩

theorem Rd.toks {w : World} {B r b : Nat} {rawv outv : Value} {raw : List UInt8} {l : List (Tok × Value)} (h : Rd w B r b rawv outv raw l) : IsToks w B outv (l.map (·.1)) := ⟨l, rfl, h.out, h.attrs⟩

theorem doneK (b : Nat) (s : ByteArray) (k : Nat) (w : World) (hT : IsText w b s k) :
    Calls Tryz.prog 42 #[.pointer (some ⟨b, 0, none⟩)] w fun e w' => e = .returned (.bool (decide (s.size ≤ k))) ∧ IsText w' b s k ∧ Keeps [] w w' :=
  (done_any b s k w hT).mono fun _ _ ⟨he, _, hw⟩ => ⟨he, by rw [hw]; exact hT, by rw [hw]; exact (Keeps.refl _ _).drewN _⟩

theorem try_piece (B r b : Nat) (rawv outv : Value) (raw : List UInt8) (l : List (Tok × Value)) (s : ByteArray) (k : Nat) (w : World) (hs : s.size ≤ 3000) (h : Rd w B r b rawv outv raw l) (hT : IsText w b s k) (hB : B ≤ w.heap.size) (hraw : raw.length ≤ 3000) (hl : l.length ≤ 90000) (hlt : k < s.size)
    (P : Option (Nat × List UInt8 × List Tok)) (hP : pieceL s.data.toList k raw (l.map (·.1)) = P) :
    Calls Tryz.prog 43 #[.pointer (some ⟨b, 0, none⟩), .func (.func 44) #[.pointer (some ⟨r, 0, none⟩)] #[]] w fun e w' =>
      (e = .returned (.bool true) ∧ (∃ k' raw' rawv' outv' l', P = some (k', raw', l'.map (·.1)) ∧ Rd w' B r b rawv' outv' raw' l' ∧ IsText w' b s k') ∨
       e = .returned (.bool false) ∧ (P = none ∧ Rd w' B r b rawv outv raw l) ∧ IsText w' b s k) ∧ Keeps (b :: touch r rawv outv) w w' := by
  refine try_first 44 _ _ _ (b :: touch r rawv outv) b s k w hT enters44 (by simp) (fun i hi => ?_) (fun w2 w3 hno hk => ⟨hno.1, hno.2.keeps hk ?_ ?_ ?_ ?_ ?_⟩) (fun w1 hk1 => ?_)
  · rcases List.mem_cons.1 hi with rfl | hi
    · exact hT.lt
    · exact h.touch_lt i hi
  · simpa using h.ne hT
  · intro g hg hm; simp at hm; subst hm; exact block_ne h.raw hT (by decide) hg
  · intro g hg hm; simp at hm; subst hm; exact block_ne h.out hT (by decide) hg
  · intro p hp g hg hm; simp at hm; subst hm; exact block_ne (h.attrs p hp) hT (by decide) hg
  · exact h.b0
  · refine (piece_any B r b rawv outv raw l s k w1 hs (h.keepsNil hk1) (hT.keeps hk1 List.not_mem_nil) (Nat.le_trans hB hk1.size) hraw hl hlt).mono ?_
    rw [hP]
    rintro e w2 ⟨⟨k', raw', rawv', outv', l', h1, h2, h3, h4⟩ | ⟨h1, h2, h3, h4⟩, hk⟩
    · exact ⟨.inl ⟨h2, k', raw', rawv', outv', l', h1, h3, h4⟩, hk⟩
    · exact ⟨.inr ⟨h2, ⟨h1, h3⟩, h4⟩, hk⟩

set_option maxRecDepth 4000 in
set_option maxHeartbeats 4000000 in
theorem read_some (s : ByteArray) (w : World) (hs : s.size ≤ 3000) (hM : HasMax w) :
    Calls Tryz.prog 19 #[.string s] w fun e w' => ∃ v, e = .returned (.tuple #[v, .int .i64 0]) ∧ IsToks w' w.heap.size v (readL s.data.toList) ∧ Keeps [] w w' := by
  have hl := len_size s
  have h0 := hM.lt
  obtain ⟨R, hRR⟩ : ∃ R, readL s.data.toList = R := ⟨_, rfl⟩
  rw [hRR]
  have HR0 : Hid (readAt s.data.toList (s.size + 1) 0 [] [] = R) := by rw [← hRR]; unfold readL; rw [hl]; exact rfl
  clear hRR
  have hgt : decide ((3000 : Int) < (s.size : Int)) = false := by simp; omega
  obtain ⟨i0, hi, hz0, hz1, hz2⟩ := info_parts Tryz.info5
  go_enter Tryz.func19, Tryz.ntmps19
  go_wp2_with fail
  refine (new_any s _).mono ?_
  rintro e w1 ⟨rfl, hw1⟩
  have hT1 : IsText w1 w.heap.size s 0 := by rw [hw1]; exact heap_alloc_new w _
  have hk1 : Keeps [] w w1 := by rw [hw1]; exact (Keeps.refl [] w).alloc _
  have hsz1 : w1.heap.size = w.heap.size + 1 := by rw [hw1]; simp
  have HZ := hide hsz1
  clear hw1 hsz1
  go_wp2_with fail
  have hR0 : Rd (w1.alloc (.cells #[.pointer (some ⟨w.heap.size, 0, none⟩), .slice none 0 0, .slice none 0 0] 74)) w.heap.size w1.heap.size w.heap.size (.slice none 0 0) (.slice none 0 0) [] [] :=
    ⟨heap_alloc_new w1 _, World.ownsRow_nil _ _ _ _, World.ownsRow_nil _ _ _ _, by simp, hM.keeps (hk1.alloc _) List.not_mem_nil, h0, by rw [HZ.out]; omega, Nat.le_refl _⟩
  have hT0 := hT1.keeps ((Keeps.refl [] w1).alloc (.cells #[.pointer (some ⟨w.heap.size, 0, none⟩), .slice none 0 0, .slice none 0 0] 74)) List.not_mem_nil
  have hk0 : Keeps [] w (w1.alloc (.cells #[.pointer (some ⟨w.heap.size, 0, none⟩), .slice none 0 0, .slice none 0 0] 74)) := hk1.alloc _
  have hr1 : w.heap.size < w1.heap.size := by rw [HZ.out]; omega
  generalize hrr : w1.heap.size = r at *
  clear hT1 hk1 HZ
  go_loopg [] (s.size + 1) (fun g wr => ∃ (k : Nat) (raw : List UInt8) (rawv outv : Value) (l : List (Tok × Value)), k ≤ s.size ∧ s.size + 1 ≤ g + k ∧ Rd wr w.heap.size r w.heap.size rawv outv raw l ∧ IsText wr w.heap.size s k ∧ Keeps [] w wr ∧ raw.length ≤ k ∧ l.length ≤ 2 * k ∧ Hid (readAt s.data.toList g k raw (l.map (·.1)) = R))
  case atStart => exact ⟨0, [], _, _, [], Nat.zero_le _, by omega, hR0, hT0, hk0, Nat.le_refl _, Nat.le_refl _, HR0⟩
  case round =>
    obtain ⟨k, raw, rawv, outv, l, hk, hg, hRd, hT2, hkp, hra, hla, hF⟩ := hrel
    clear HR0 hR0 hT0 hk0
    obtain ⟨f, rfl⟩ : ∃ f, gk = f + 1 := ⟨gk - 1, by omega⟩
    have c0 := hRd.reader.cell0
    go_wp2_with fail
    refine (doneK _ s k _ hT2).mono ?_
    rintro e w3 ⟨rfl, hT3, hk3⟩
    have h3 := hRd.keepsNil hk3
    have hkp3 := hkp.trans hk3
    clear c0 hRd hT2 hkp hk3
    by_cases hend : s.size ≤ k
    · have hd : decide (s.size ≤ k) = true := by simpa using hend
      rw [hd]
      have hE : l.map (·.1) ++ endT raw = R := by
        have := hF.out
        rwa [readAt_end (by omega)] at this
      have HE := hide hE
      clear hE hF
      go_wp2_with fail
      refine (endText_any _ _ _ rawv outv raw l _ h3 hkp3.size (by omega) (by omega)).mono ?_
      rintro e w4 ⟨rfl, rawv', outv', h4, hk4, _⟩
      have c2 := h4.reader.cell2
      have hk4' : Keeps [] w w4 := (hkp3.up.trans hk4).mono fun i hi hlt => by
        simp [touch] at hi
        rcases hi with hi | hi | hi
        · omega
        · have := (h3.raw.lt _ hi).1; omega
        · have := (h3.out.lt _ hi).1; omega
      go_wp2_with fail
      go_ret2
      refine ⟨_, rfl, ?_, hk4'⟩
      rw [← HE.out, ← endToks_map, ← List.map_append]
      exact h4.toks
    · have hd : decide (s.size ≤ k) = false := by simpa using hend
      rw [hd]
      obtain ⟨P, hP⟩ : ∃ P, pieceL s.data.toList k raw (l.map (·.1)) = P := ⟨_, rfl⟩
      have HES := hide (fun k' raw' out' (h : P = some (k', raw', out')) => (readAt_some (f := f) (by omega) (hP.trans h)).symm.trans hF.out)
      have HEN := hide (fun (h : P = none) => (readAt_none (f := f) (by omega) (hP.trans h)).symm.trans hF.out)
      have hbd := hide (fun k' raw' out' (h : P = some (k', raw', out')) => pieceL_bound (hP.trans h) (by omega))
      have htp := hide (try_piece _ _ _ rawv outv raw l s k w3 hs h3 hT3 hkp3.size (by omega) (by omega) (by omega) P hP)
      have hmf : ∀ (fn : Fn) (first cap : Array Value) (w : World), (Instr.makeFunc fn first cap).run Tryz.prog w = .ok (.func fn first cap) w := fun _ _ _ _ => rfl
      clear hF hP
      have c3 := h3.reader.cell0
      go_wp2_with fail
      refine htp.out.mono ?_
      have hin : ∀ i, i ∈ (w.heap.size :: touch r rawv outv) → w.heap.size ≤ i := fun i hi => by
        simp [touch] at hi
        rcases hi with hi | hi | hi | hi
        · omega
        · omega
        · have := (h3.raw.lt _ hi).1; omega
        · have := (h3.out.lt _ hi).1; omega
      rintro e w4 ⟨⟨rfl, k', raw', rawv', outv', l', rfl, h4, hT4⟩ | ⟨rfl, ⟨rfl, h4⟩, hT4⟩, hk4⟩
      · have hb := hbd.out _ _ _ rfl
        have hk4' : Keeps [] w w4 := (hkp3.up.trans hk4).mono fun i hi hlt => by have := hin i hi; omega
        clear c3
        go_wp2_with fail
        go_roundg f
        case measure => omega
        case rel => exact ⟨k', raw', rawv', outv', l', by omega, by omega, h4, hT4, hk4', by omega, by simpa using (show (l'.map (·.1)).length ≤ 2 * k' by have := hb.2.2.2; simp at this; simp; omega), HES.out _ _ _ rfl⟩
      · have hk4' : Keeps [] w w4 := (hkp3.up.trans hk4).mono fun i hi hlt => by have := hin i hi; omega
        have hre := hide (fun (w : World) hT => rest_any w.heap.size s k w hT hk)
        have hst : (s.extract k s.size).data.toList = s.data.toList.drop k := Lib.extract_to_end s k
        have hsl : (s.extract k s.size).size + k = s.size := by simp; omega
        have HRN : Hid (readAt s.data.toList f s.size (raw ++ (s.extract k s.size).data.toList) (l.map (·.1)) = R) := by rw [hst]; have := HEN.out rfl; rwa [hl] at this
        have hrs := hide (fun (w5 : World) hT => rest_any w.heap.size s k w5 hT hk)
        generalize s.extract k s.size = X at *
        have d0 := h4.reader.cell0
        have d1 := h4.reader.cell1
        clear c3 hre hst
        go_upto_region 6 with fail
        go_region_law (first
            | (refine step_call rfl 45 _ _ rfl enters45 #[.pointer (some ⟨w.heap.size, 0, none⟩)] (by simp [Act.eval]) (hrs.out _ (show IsText w4.drew w.heap.size s k from hT4)) ?_; rintro e w7 ⟨rfl, hT7, hk7⟩; refine ⟨_, rfl, ?_⟩; have h7 := h4.keepsText hT4 (keeps_drew hk7); have e1 := h7.reader.cell1)
            | (refine step_own_str rfl _ _ 43 9 rfl w.heap.size 5 i0 Tryz.underlying43 Tryz.underlying9 hi hz0 hz1 hz2 rawv raw.length (Lib.byteCells raw) rfl h7.raw X rfl (by unfold maxLen; omega) (by omega) (Nat.le_trans hk4'.size hk7.size) ?_; intro v8 w8 ho8 hg8; obtain ⟨o8, c8, rfl⟩ := row_form ho8; have hk8 : Keeps rawv.ownBlock.toList w7 w8 := (Keeps.refl _ w7).grown hg8 (fun i e => .inl (by simp [e])); have hR8 := h7.rawReader hk8; have g8 := hR8.cell1; have f8 := hR8.free))
        all_goals go_wp2
        all_goals
          have hx := raw_done (w := w4) h7 hT7 (keeps_drew hk7) hk8 (own_str (t := X) ho8)
          have hk9 := (hk4'.up.trans hx.2.2).mono (T := []) fun i hi hlt => by have := hin i hi; omega
          go_roundg f
          case measure => omega
          case rel => exact ⟨s.size, _, _, outv, l, by omega, by omega, hx.1, hx.2.1, hk9, by rw [List.length_append, len_size]; omega, by omega, HRN⟩

theorem read_any (s : ByteArray) (w : World) (hs : s.size ≤ maxLen) (hM : HasMax w) :
    Calls Tryz.prog 19 #[.string s] w fun e w' => Keeps [] w w' ∧
      if 3000 < s.size then e = .returned (.tuple #[.slice none 0 0, .int .i64 2]) else ∃ v, e = .returned (.tuple #[v, .int .i64 0]) ∧ IsToks w' w.heap.size v (readL s.data.toList) := by
  by_cases h : 3000 < s.size
  · simp only [if_pos h]
    have hgt : decide ((3000 : Int) < (s.size : Int)) = true := by simp; omega
    have hlen : s.size ≤ 9223372036854775807 := hs
    go_enter Tryz.func19, Tryz.ntmps19
    go_wp2_with fail
    go_ret2
    exact ⟨Keeps.refl _ _, rfl⟩
  · simp only [if_neg h]
    refine (read_some s w (by omega) hM).mono ?_
    rintro e w' ⟨v, he, ht, hk⟩
    exact ⟨hk, v, he, ht⟩
end Go.Proofs.YtngojdajamgababGreat
